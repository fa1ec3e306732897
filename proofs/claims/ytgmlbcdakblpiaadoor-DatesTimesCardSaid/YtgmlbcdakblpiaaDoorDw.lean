/- What landed: whether parts may be. -/
import Derived.Test.YtgmlbcdakblpiaaDoorDk
import Derived.Test.YtgmlbcdakblpiaaDoorDv
namespace Go.Proofs.YtgmlbcdakblpiaaDoor
open Go.RowKit
namespace Da

set_option maxHeartbeats 4000000 in
set_option maxRecDepth 100000 in
theorem may_is {D T F Z : List UInt8} {A B C E : ByteArray} {x : Bool} (w : World) (h : Sh D T F Z) (hA : A = txt D) (hB : B = txt T) (hE : E = txt Z) (hx : x = ok D T Z) :
    Calls Tryd.prog 35 #[wv A B C E] w fun e w' => e = .returned (.bool x) ∧ Below w.heap.size w w' := by
  have ea := txt_empty hA
  have eb := txt_empty hB
  have ee := txt_empty hE
  obtain ⟨m1, h1⟩ : ∃ m, m = mD D := ⟨_, rfl⟩
  obtain ⟨m2, h2⟩ : ∃ m, m = mT T := ⟨_, rfl⟩
  obtain ⟨m3, h3⟩ : ∃ m, m = mZ Z := ⟨_, rfl⟩
  obtain ⟨p, hp⟩ : ∃ p, p = decide (D = []) := ⟨_, rfl⟩
  obtain ⟨q, hq⟩ : ∃ p, p = decide (T = []) := ⟨_, rfl⟩
  obtain ⟨r, hr⟩ : ∃ p, p = decide (Z = []) := ⟨_, rfl⟩
  have CD := Lib.hid (fun (g : p = false) w => dateMay_is w hA (h.d (of_decide_eq_false (hp.symm.trans g))).1 (h.d (of_decide_eq_false (hp.symm.trans g))).2 h1)
  have CT := Lib.hid (fun (g : q = false) w => timeMay_is w hB (h.t (of_decide_eq_false (hq.symm.trans g))).1 (h.t (of_decide_eq_false (hq.symm.trans g))).2 h2)
  have CZ := Lib.hid (fun (g : r = false) w => zoneMay_is w hE (h.z (of_decide_eq_false (hr.symm.trans g))).2.2 h3)
  have X := Lib.hid (show x = ((p || m1) && (q || m2) && (r || m3)) by rw [hx, ok, hp, hq, hr, h1, h2, h3])
  rw [← hp] at ea
  rw [← hq] at eb
  rw [← hr] at ee
  have HB0 := Lib.hid (Below.refl (w.alloc (wo A B C E)).heap.size (w.alloc (wo A B C E)))
  clear h hA hB hE hx h1 h2 h3 hp hq hr
  cases p
  · cases m1
    · skip
      have EX := Lib.hid (show x = false by rw [X.out]; rfl)
      have CDx := Lib.hid (fun w => CD.out rfl w)
      clear CD CT CZ
      go_enter Tryd.func35, Tryd.ntmps35
      go_wp2_with fail
      refine (CDx.out _).mono ?_
      rintro e w1 ⟨rfl, hb⟩
      have HB1 := Lib.hid (below_tr HB0.out hb)
      obtain ⟨⟨k00, k01, k02, k03⟩, hbw⟩ := wo_cells HB1.out
      clear hb hbw
      go_wp2_with fail
      go_ret
      exact ⟨ret_bool EX.out.symm, (wo_cells HB1.out).2⟩
    · skip
      cases q
      · cases m2
        · skip
          have EX := Lib.hid (show x = false by rw [X.out]; rfl)
          have CDx := Lib.hid (fun w => CD.out rfl w)
          have CTx := Lib.hid (fun w => CT.out rfl w)
          clear CD CT CZ
          go_enter Tryd.func35, Tryd.ntmps35
          go_wp2_with fail
          refine (CDx.out _).mono ?_
          rintro e w1 ⟨rfl, hb⟩
          have HB1 := Lib.hid (below_tr HB0.out hb)
          obtain ⟨⟨k00, k01, k02, k03⟩, hbw⟩ := wo_cells HB1.out
          clear hb hbw
          go_wp2_with fail
          refine (CTx.out _).mono ?_
          rintro e w2 ⟨rfl, hb⟩
          have HB2 := Lib.hid (below_tr HB1.out hb)
          obtain ⟨⟨k10, k11, k12, k13⟩, hbw⟩ := wo_cells HB2.out
          clear hb hbw k00 k01 k02 k03
          go_wp2_with fail
          go_ret
          exact ⟨ret_bool EX.out.symm, (wo_cells HB2.out).2⟩
        · skip
          cases r
          · cases m3
            · skip
              have EX := Lib.hid (show x = false by rw [X.out]; rfl)
              have CDx := Lib.hid (fun w => CD.out rfl w)
              have CTx := Lib.hid (fun w => CT.out rfl w)
              have CZx := Lib.hid (fun w => CZ.out rfl w)
              clear CD CT CZ
              go_enter Tryd.func35, Tryd.ntmps35
              go_wp2_with fail
              refine (CDx.out _).mono ?_
              rintro e w1 ⟨rfl, hb⟩
              have HB1 := Lib.hid (below_tr HB0.out hb)
              obtain ⟨⟨k00, k01, k02, k03⟩, hbw⟩ := wo_cells HB1.out
              clear hb hbw
              go_wp2_with fail
              refine (CTx.out _).mono ?_
              rintro e w2 ⟨rfl, hb⟩
              have HB2 := Lib.hid (below_tr HB1.out hb)
              obtain ⟨⟨k10, k11, k12, k13⟩, hbw⟩ := wo_cells HB2.out
              clear hb hbw k00 k01 k02 k03
              go_wp2_with fail
              refine (CZx.out _).mono ?_
              rintro e w3 ⟨rfl, hb⟩
              have HB3 := Lib.hid (below_tr HB2.out hb)
              obtain ⟨⟨k20, k21, k22, k23⟩, hbw⟩ := wo_cells HB3.out
              clear hb hbw k10 k11 k12 k13
              go_wp2_with fail
              go_ret
              exact ⟨ret_bool EX.out.symm, (wo_cells HB3.out).2⟩
            · skip
              have EX := Lib.hid (show x = true by rw [X.out]; rfl)
              have CDx := Lib.hid (fun w => CD.out rfl w)
              have CTx := Lib.hid (fun w => CT.out rfl w)
              have CZx := Lib.hid (fun w => CZ.out rfl w)
              clear CD CT CZ
              go_enter Tryd.func35, Tryd.ntmps35
              go_wp2_with fail
              refine (CDx.out _).mono ?_
              rintro e w1 ⟨rfl, hb⟩
              have HB1 := Lib.hid (below_tr HB0.out hb)
              obtain ⟨⟨k00, k01, k02, k03⟩, hbw⟩ := wo_cells HB1.out
              clear hb hbw
              go_wp2_with fail
              refine (CTx.out _).mono ?_
              rintro e w2 ⟨rfl, hb⟩
              have HB2 := Lib.hid (below_tr HB1.out hb)
              obtain ⟨⟨k10, k11, k12, k13⟩, hbw⟩ := wo_cells HB2.out
              clear hb hbw k00 k01 k02 k03
              go_wp2_with fail
              refine (CZx.out _).mono ?_
              rintro e w3 ⟨rfl, hb⟩
              have HB3 := Lib.hid (below_tr HB2.out hb)
              obtain ⟨⟨k20, k21, k22, k23⟩, hbw⟩ := wo_cells HB3.out
              clear hb hbw k10 k11 k12 k13
              go_wp2_with fail
              go_ret
              exact ⟨ret_bool EX.out.symm, (wo_cells HB3.out).2⟩
          · skip
            have EX := Lib.hid (show x = true by rw [X.out]; rfl)
            have CDx := Lib.hid (fun w => CD.out rfl w)
            have CTx := Lib.hid (fun w => CT.out rfl w)
            clear CD CT CZ
            go_enter Tryd.func35, Tryd.ntmps35
            go_wp2_with fail
            refine (CDx.out _).mono ?_
            rintro e w1 ⟨rfl, hb⟩
            have HB1 := Lib.hid (below_tr HB0.out hb)
            obtain ⟨⟨k00, k01, k02, k03⟩, hbw⟩ := wo_cells HB1.out
            clear hb hbw
            go_wp2_with fail
            refine (CTx.out _).mono ?_
            rintro e w2 ⟨rfl, hb⟩
            have HB2 := Lib.hid (below_tr HB1.out hb)
            obtain ⟨⟨k10, k11, k12, k13⟩, hbw⟩ := wo_cells HB2.out
            clear hb hbw k00 k01 k02 k03
            go_wp2_with fail
            go_ret
            exact ⟨ret_bool EX.out.symm, (wo_cells HB2.out).2⟩
      · skip
        cases r
        · cases m3
          · skip
            have EX := Lib.hid (show x = false by rw [X.out]; rfl)
            have CDx := Lib.hid (fun w => CD.out rfl w)
            have CZx := Lib.hid (fun w => CZ.out rfl w)
            clear CD CT CZ
            go_enter Tryd.func35, Tryd.ntmps35
            go_wp2_with fail
            refine (CDx.out _).mono ?_
            rintro e w1 ⟨rfl, hb⟩
            have HB1 := Lib.hid (below_tr HB0.out hb)
            obtain ⟨⟨k00, k01, k02, k03⟩, hbw⟩ := wo_cells HB1.out
            clear hb hbw
            go_wp2_with fail
            refine (CZx.out _).mono ?_
            rintro e w2 ⟨rfl, hb⟩
            have HB2 := Lib.hid (below_tr HB1.out hb)
            obtain ⟨⟨k10, k11, k12, k13⟩, hbw⟩ := wo_cells HB2.out
            clear hb hbw k00 k01 k02 k03
            go_wp2_with fail
            go_ret
            exact ⟨ret_bool EX.out.symm, (wo_cells HB2.out).2⟩
          · skip
            have EX := Lib.hid (show x = true by rw [X.out]; rfl)
            have CDx := Lib.hid (fun w => CD.out rfl w)
            have CZx := Lib.hid (fun w => CZ.out rfl w)
            clear CD CT CZ
            go_enter Tryd.func35, Tryd.ntmps35
            go_wp2_with fail
            refine (CDx.out _).mono ?_
            rintro e w1 ⟨rfl, hb⟩
            have HB1 := Lib.hid (below_tr HB0.out hb)
            obtain ⟨⟨k00, k01, k02, k03⟩, hbw⟩ := wo_cells HB1.out
            clear hb hbw
            go_wp2_with fail
            refine (CZx.out _).mono ?_
            rintro e w2 ⟨rfl, hb⟩
            have HB2 := Lib.hid (below_tr HB1.out hb)
            obtain ⟨⟨k10, k11, k12, k13⟩, hbw⟩ := wo_cells HB2.out
            clear hb hbw k00 k01 k02 k03
            go_wp2_with fail
            go_ret
            exact ⟨ret_bool EX.out.symm, (wo_cells HB2.out).2⟩
        · skip
          have EX := Lib.hid (show x = true by rw [X.out]; rfl)
          have CDx := Lib.hid (fun w => CD.out rfl w)
          clear CD CT CZ
          go_enter Tryd.func35, Tryd.ntmps35
          go_wp2_with fail
          refine (CDx.out _).mono ?_
          rintro e w1 ⟨rfl, hb⟩
          have HB1 := Lib.hid (below_tr HB0.out hb)
          obtain ⟨⟨k00, k01, k02, k03⟩, hbw⟩ := wo_cells HB1.out
          clear hb hbw
          go_wp2_with fail
          go_ret
          exact ⟨ret_bool EX.out.symm, (wo_cells HB1.out).2⟩
  · skip
    cases q
    · cases m2
      · skip
        have EX := Lib.hid (show x = false by rw [X.out]; rfl)
        have CTx := Lib.hid (fun w => CT.out rfl w)
        clear CD CT CZ
        go_enter Tryd.func35, Tryd.ntmps35
        go_wp2_with fail
        refine (CTx.out _).mono ?_
        rintro e w1 ⟨rfl, hb⟩
        have HB1 := Lib.hid (below_tr HB0.out hb)
        obtain ⟨⟨k00, k01, k02, k03⟩, hbw⟩ := wo_cells HB1.out
        clear hb hbw
        go_wp2_with fail
        go_ret
        exact ⟨ret_bool EX.out.symm, (wo_cells HB1.out).2⟩
      · skip
        cases r
        · cases m3
          · skip
            have EX := Lib.hid (show x = false by rw [X.out]; rfl)
            have CTx := Lib.hid (fun w => CT.out rfl w)
            have CZx := Lib.hid (fun w => CZ.out rfl w)
            clear CD CT CZ
            go_enter Tryd.func35, Tryd.ntmps35
            go_wp2_with fail
            refine (CTx.out _).mono ?_
            rintro e w1 ⟨rfl, hb⟩
            have HB1 := Lib.hid (below_tr HB0.out hb)
            obtain ⟨⟨k00, k01, k02, k03⟩, hbw⟩ := wo_cells HB1.out
            clear hb hbw
            go_wp2_with fail
            refine (CZx.out _).mono ?_
            rintro e w2 ⟨rfl, hb⟩
            have HB2 := Lib.hid (below_tr HB1.out hb)
            obtain ⟨⟨k10, k11, k12, k13⟩, hbw⟩ := wo_cells HB2.out
            clear hb hbw k00 k01 k02 k03
            go_wp2_with fail
            go_ret
            exact ⟨ret_bool EX.out.symm, (wo_cells HB2.out).2⟩
          · skip
            have EX := Lib.hid (show x = true by rw [X.out]; rfl)
            have CTx := Lib.hid (fun w => CT.out rfl w)
            have CZx := Lib.hid (fun w => CZ.out rfl w)
            clear CD CT CZ
            go_enter Tryd.func35, Tryd.ntmps35
            go_wp2_with fail
            refine (CTx.out _).mono ?_
            rintro e w1 ⟨rfl, hb⟩
            have HB1 := Lib.hid (below_tr HB0.out hb)
            obtain ⟨⟨k00, k01, k02, k03⟩, hbw⟩ := wo_cells HB1.out
            clear hb hbw
            go_wp2_with fail
            refine (CZx.out _).mono ?_
            rintro e w2 ⟨rfl, hb⟩
            have HB2 := Lib.hid (below_tr HB1.out hb)
            obtain ⟨⟨k10, k11, k12, k13⟩, hbw⟩ := wo_cells HB2.out
            clear hb hbw k00 k01 k02 k03
            go_wp2_with fail
            go_ret
            exact ⟨ret_bool EX.out.symm, (wo_cells HB2.out).2⟩
        · skip
          have EX := Lib.hid (show x = true by rw [X.out]; rfl)
          have CTx := Lib.hid (fun w => CT.out rfl w)
          clear CD CT CZ
          go_enter Tryd.func35, Tryd.ntmps35
          go_wp2_with fail
          refine (CTx.out _).mono ?_
          rintro e w1 ⟨rfl, hb⟩
          have HB1 := Lib.hid (below_tr HB0.out hb)
          obtain ⟨⟨k00, k01, k02, k03⟩, hbw⟩ := wo_cells HB1.out
          clear hb hbw
          go_wp2_with fail
          go_ret
          exact ⟨ret_bool EX.out.symm, (wo_cells HB1.out).2⟩
    · skip
      cases r
      · cases m3
        · skip
          have EX := Lib.hid (show x = false by rw [X.out]; rfl)
          have CZx := Lib.hid (fun w => CZ.out rfl w)
          clear CD CT CZ
          go_enter Tryd.func35, Tryd.ntmps35
          go_wp2_with fail
          refine (CZx.out _).mono ?_
          rintro e w1 ⟨rfl, hb⟩
          have HB1 := Lib.hid (below_tr HB0.out hb)
          obtain ⟨⟨k00, k01, k02, k03⟩, hbw⟩ := wo_cells HB1.out
          clear hb hbw
          go_wp2_with fail
          go_ret
          exact ⟨ret_bool EX.out.symm, (wo_cells HB1.out).2⟩
        · skip
          have EX := Lib.hid (show x = true by rw [X.out]; rfl)
          have CZx := Lib.hid (fun w => CZ.out rfl w)
          clear CD CT CZ
          go_enter Tryd.func35, Tryd.ntmps35
          go_wp2_with fail
          refine (CZx.out _).mono ?_
          rintro e w1 ⟨rfl, hb⟩
          have HB1 := Lib.hid (below_tr HB0.out hb)
          obtain ⟨⟨k00, k01, k02, k03⟩, hbw⟩ := wo_cells HB1.out
          clear hb hbw
          go_wp2_with fail
          go_ret
          exact ⟨ret_bool EX.out.symm, (wo_cells HB1.out).2⟩
      · skip
        have EX := Lib.hid (show x = true by rw [X.out]; rfl)
        clear CD CT CZ
        go_enter Tryd.func35, Tryd.ntmps35
        go_wp2_with fail
        go_ret
        exact ⟨ret_bool EX.out.symm, (wo_cells HB0.out).2⟩
end Da
end Go.Proofs.YtgmlbcdakblpiaaDoor
