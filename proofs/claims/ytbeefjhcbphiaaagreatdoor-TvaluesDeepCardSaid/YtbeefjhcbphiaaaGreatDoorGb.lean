/- What landed: the normal form of parts. -/
import Derived.Test.YtbeefjhcbphiaaaGreatDoorGa
namespace Go.Proofs.YtbeefjhcbphiaaaGreatDoor
open Go.RowKit
namespace Da

theorem stp_len (l : List UInt8) : (stp l).length ≤ l.length := by
  unfold stp
  split
  · simp
  · exact st0_len l
theorem wo_of {w W wr : World} {a b c d : ByteArray} (hW : W = w.alloc (wo a b c d)) (h : Below W.heap.size W wr) :
    (wr.cell? ⟨w.heap.size, 0, none⟩ = some (.string a) ∧ wr.cell? ⟨w.heap.size, 1, none⟩ = some (.string b) ∧ wr.cell? ⟨w.heap.size, 2, none⟩ = some (.string c) ∧ wr.cell? ⟨w.heap.size, 3, none⟩ = some (.string d)) ∧ Below w.heap.size w wr := by
  subst hW; exact wo_cells h
set_option maxHeartbeats 8000000 in
set_option maxRecDepth 100000 in
theorem normal_is {D T F Z : List UInt8} {A B C E N : ByteArray} (w : World) (h : Sh D T F Z) (hl : F.length ≤ 1000000) (hA : A = txt D) (hB : B = txt T) (hC : C = txt F) (hE : E = txt Z) (hN : N = txt (nm D T F Z)) :
    Calls Tryz.prog 142 #[wv A B C E] w fun e w' => e = .returned (.string N) ∧ Below w.heap.size w w' := by
  obtain ⟨i0, hi, hz0, hz1, hz2⟩ := info_parts (show (Tryz.prog.info? 5).map (fun i => (i.zero, i.size, i.bytes)) = some (some (.int .u8 0), 1, 1) by kernel_rfl)
  have ea := txt_empty hA
  have eb := txt_empty hB
  have dl : D.length ≤ 10 := by
    by_cases d : D = []
    · rw [d]; simp
    · rw [(h.d d).1]; omega
  have tl : T.length ≤ 8 := by
    by_cases d : T = []
    · rw [d]; simp
    · rw [(h.t d).1]; omega
  have zl : Z.length ≤ 6 := by
    by_cases d : Z = []
    · rw [d]; simp
    · rcases (h.z d).2.2 with ⟨e, _⟩ | ⟨e, _⟩ <;> omega
  have hF : F = [] ∨ ft F := by
    by_cases d : F = []
    · exact .inl d
    · exact .inr (h.f d).2
  have sfl := stp_len F
  have za : A.size ≤ 10 := by rw [hA, txt_size]; exact dl
  have zb : B.size ≤ 8 := by rw [hB, txt_size]; exact tl
  obtain ⟨G, hG⟩ : ∃ G, G = txt (st0 F) := ⟨_, rfl⟩
  obtain ⟨H, hH⟩ : ∃ G, G = txt (stp F) := ⟨_, rfl⟩
  obtain ⟨V, hV⟩ : ∃ G, G = txt (Z.map up) := ⟨_, rfl⟩
  have zh : H.size ≤ 1000000 := by rw [hH, txt_size]; omega
  have zv : V.size ≤ 6 := by rw [hV, txt_size, List.length_map]; exact zl
  have C1 := Lib.hid (fun w => trr_is w hC hl hG)
  have C2 := Lib.hid (fun w => tsf_is w hF hG hl hH)
  have C3 := Lib.hid (fun w => toUpper_is w (fun z => (h.z z).2.2) hE hV)
  have HN := Lib.hid hN
  have HAB := Lib.hid (And.intro hA hB)
  have HHV := Lib.hid (And.intro hH hV)
  obtain ⟨W, hW⟩ : ∃ W, W = w.alloc (wo A B C E) := ⟨_, rfl⟩
  have HW := Lib.hid hW
  have ml : (md D T 84).length ≤ 1 := by unfold md; split <;> simp
  clear h hl hF hG hH hV hN hA hB hC hE sfl hW
  go_enter Tryz.func142, Tryz.ntmps142
  go_upto_region 2 with fail
  rw [← HW.out]
  obtain ⟨⟨c0, c1, c2, c3⟩, hbw⟩ := wo_of HW.out (Below.refl _ _)
  clear hbw
  go_upto_region 3 with (at_builtin; refine Lib.wpList_append_own_string _ rfl (.tmp 4) (.tmp 6) 48 9 rfl W.heap.size 5 i0 Tryz.underlying48 Tryz.underlying9 hi hz0 hz1 hz2 (.slice none 0 0) 0 [] rfl (World.ownsRow_nil _ _ 5 1) A rfl (by unfold maxLen; omega) (by omega) (Nat.le_refl _) ?_; intro va w2 hown2 hg2 _)
  have R1 := Lib.hid (NR.start.str HAB.out.1 hown2 hg2)
  rw [List.nil_append] at R1
  clear hown2 hg2 c0 c1 c2 c3
  obtain ⟨⟨c0, c1, c2, c3⟩, hbw⟩ := wo_of HW.out R1.out.2
  clear hbw
  obtain ⟨q, hq⟩ : ∃ q, q = decide (D ≠ [] ∧ T ≠ []) := ⟨_, rfl⟩
  have HQ := Lib.hid hq
  go_cut [3, 15] (fun v x wx => va = v ∧ x = .bool q ∧ w2 = wx)
  case first =>
    by_cases d : D = []
    · have E1 := Lib.hid (show q = false by rw [hq]; simp [d])
      rw [decide_eq_true d] at ea
      clear d hq
      go_wp2_with fail
      go_meet
      exact ⟨rfl, by rw [E1.out], rfl⟩
    · rw [decide_eq_false d] at ea
      by_cases t : T = []
      · have E1 := Lib.hid (show q = false by rw [hq]; simp [t])
        rw [decide_eq_true t] at eb
        clear d t hq
        go_wp2_with fail
        go_meet
        exact ⟨rfl, by rw [E1.out], rfl⟩
      · have E1 := Lib.hid (show q = true by rw [hq]; simp [d, t])
        rw [decide_eq_false t] at eb
        clear d t hq
        go_wp2_with fail
        go_meet
        exact ⟨rfl, by rw [E1.out], rfl⟩
  case rest =>
    obtain ⟨rfl, rfl, rfl⟩ := hcut
    clear hq ea eb
    go_upto_if 15 with fail
    go_cut [3] (fun x wx => NR W wx (D ++ md D T 84) x)
    case first =>
      cases q
      · have E1 := Lib.hid (show NR W w2 (D ++ md D T 84) va by rw [md, if_neg (fun h => by have := HQ.out; rw [decide_eq_true h] at this; cases this), List.append_nil]; exact R1.out)
        go_wp2_with fail
        go_meet
        exact E1.out
      · have HM := Lib.hid (show md D T 84 = [84] by rw [md, if_pos (of_decide_eq_true HQ.out.symm)])
        go_wp2_with (at_builtin; (refine wpApp _ rfl (.tmp 16) (.tmp 17) 48 rfl W.heap.size 5 i0 (.int .u8 0) 1 Tryz.underlying48 hi hz0 hz1 hz2 rfl va D.length (bytV D) rfl (R1.out.1.alloc _) (some ⟨w2.heap.size, 0, none⟩) 1 1 _ [84] rfl rfl (cells_one' 84 84 (by decide)) (fun h => by cases h) (by unfold maxLen; omega) (by omega) (by have := R1.out.2.size; simp; omega) ?_); intro v3 w3 hown3 hg3 _)
        have R2 := Lib.hid (NR.app (u := [84]) R1.out hown3 hg3)
        clear hown3 hg3
        go_meet
        rw [HM.out]
        exact R2.out
    case rest =>
      have R2 := Lib.hid hcut
      clear hcut R1 c0 c1 c2 c3
      obtain ⟨⟨c0, c1, c2, c3⟩, hbw⟩ := wo_of HW.out R2.out.2
      clear hbw
      obtain ⟨t2, ht2⟩ : ∃ t, t = D ++ md D T 84 := ⟨_, rfl⟩
      have zt2 : t2.length ≤ 11 := by rw [ht2, List.length_append]; omega
      have HT2 := Lib.hid ht2
      rw [← ht2] at R2
      clear ht2
      go_upto_region 6 with (at_builtin; (refine Lib.wpList_append_own_string _ rfl (.tmp 19) (.tmp 21) 48 9 rfl W.heap.size 5 i0 Tryz.underlying48 Tryz.underlying9 hi hz0 hz1 hz2 u3 t2.length (bytV t2) rfl R2.out.1 B rfl (by unfold maxLen; omega) (by omega) R2.out.2.size ?_); intro v4 w4 hown4 hg4 _)
      have R3 := Lib.hid (R2.out.str HAB.out.2 hown4 hg4)
      clear hown4 hg4 c0 c1 c2 c3
      obtain ⟨⟨c0, c1, c2, c3⟩, hbw⟩ := wo_of HW.out R3.out.2
      clear hbw
      obtain ⟨t3, ht3⟩ : ∃ t, t = t2 ++ T := ⟨_, rfl⟩
      have zt3 : t3.length ≤ 19 := by rw [ht3, List.length_append]; omega
      have HT3 := Lib.hid ht3
      rw [← ht3] at R3
      clear ht3
      go_upto_region 7 with (first
        | (go_at_call 155; refine (C1.out _).mono ?_; rintro e w' ⟨rfl, rfl⟩)
        | (go_at_call 154; refine (C2.out _).mono ?_; rintro e w' ⟨rfl, rfl⟩)
        | (at_builtin; refine Lib.wpList_append_own_string _ rfl (.tmp 23) (.tmp 27) 48 9 rfl W.heap.size 5 i0 Tryz.underlying48 Tryz.underlying9 hi hz0 hz1 hz2 v4 t3.length (bytV t3) rfl R3.out.1 H rfl (by unfold maxLen; omega) (by omega) R3.out.2.size ?_; intro v5 w5 hown5 hg5 _))
      have R4 := Lib.hid (R3.out.str HHV.out.1 hown5 hg5)
      clear hown5 hg5 c0 c1 c2 c3
      obtain ⟨⟨c0, c1, c2, c3⟩, hbw⟩ := wo_of HW.out R4.out.2
      clear hbw
      obtain ⟨t4, ht4⟩ : ∃ t, t = t3 ++ stp F := ⟨_, rfl⟩
      have zt4 : t4.length ≤ 1000019 := by
        have := congrArg List.length ht4
        rw [List.length_append] at this
        have e2 : (stp F).length = H.size := by rw [HHV.out.1, txt_size]
        omega
      have HT4 := Lib.hid ht4
      rw [← ht4] at R4
      clear ht4
      go_wp2_with fail
      refine (C3.out _).mono ?_
      rintro e w6 ⟨rfl, hb⟩
      have R5 := Lib.hid (R4.out.call hb)
      clear hb c0 c1 c2 c3
      go_wp2_with (at_builtin; refine Lib.wpList_append_own_string _ rfl (.tmp 29) (.tmp 32) 48 9 rfl W.heap.size 5 i0 Tryz.underlying48 Tryz.underlying9 hi hz0 hz1 hz2 v5 t4.length (bytV t4) rfl R5.out.1 V rfl (by unfold maxLen; omega) (by omega) R5.out.2.size ?_; intro v7 w7 hown7 hg7 _; have R6 := Lib.hid (R5.out.str HHV.out.2 hown7 hg7); obtain ⟨ad, n, c, rfl, hcv⟩ := R6.out.conv; clear hown7 hg7)
      have EN := Lib.hid (show N = txt (t4 ++ Z.map up) by
        rw [HN.out, HT4.out, HT3.out, HT2.out, nm, asm]; congr 1; simp)
      have HBW := Lib.hid (wo_of HW.out R6.out.2).2
      go_ret
      exact ⟨by rw [EN.out]; rfl, HBW.out⟩
end Da
end Go.Proofs.YtbeefjhcbphiaaaGreatDoor
/- What landed: whether parts may be. -/
namespace Go.Proofs.YtbeefjhcbphiaaaGreatDoor
open Go.RowKit
namespace Da

set_option maxHeartbeats 4000000 in
set_option maxRecDepth 100000 in
theorem may_is {D T F Z : List UInt8} {A B C E : ByteArray} {x : Bool} (w : World) (h : Sh D T F Z) (hA : A = txt D) (hB : B = txt T) (hE : E = txt Z) (hx : x = ok D T Z) :
    Calls Tryz.prog 153 #[wv A B C E] w fun e w' => e = .returned (.bool x) ∧ Below w.heap.size w w' := by
  have ea := txt_empty hA
  have eb := txt_empty hB
  have ee := txt_empty hE
  obtain ⟨m1, h1⟩ : ∃ m, m = mD D := ⟨_, rfl⟩
  obtain ⟨m2, h2⟩ : ∃ m, m = mT T := ⟨_, rfl⟩
  obtain ⟨m3, h3⟩ : ∃ m, m = mZ Z := ⟨_, rfl⟩
  obtain ⟨p, hp⟩ : ∃ p, p = decide (D = []) := ⟨_, rfl⟩
  obtain ⟨q, hq⟩ : ∃ p, p = decide (T = []) := ⟨_, rfl⟩
  obtain ⟨r, hr⟩ : ∃ p, p = decide (Z = []) := ⟨_, rfl⟩
  have CD := Lib.hid (fun (g : p = false) w => dateMay_is w hA (h.d (of_decide_eq_false (hp.symm.trans g))).1 (h.d (of_decide_eq_false (hp.symm.trans g))).2 h1)
  have CT := Lib.hid (fun (g : q = false) w => timeMay_is w hB (h.t (of_decide_eq_false (hq.symm.trans g))).1 (h.t (of_decide_eq_false (hq.symm.trans g))).2 h2)
  have CZ := Lib.hid (fun (g : r = false) w => zoneMay_is w hE (h.z (of_decide_eq_false (hr.symm.trans g))).2.2 h3)
  have X := Lib.hid (show x = ((p || m1) && (q || m2) && (r || m3)) by rw [hx, ok, hp, hq, hr, h1, h2, h3])
  rw [← hp] at ea
  rw [← hq] at eb
  rw [← hr] at ee
  have HB0 := Lib.hid (Below.refl (w.alloc (wo A B C E)).heap.size (w.alloc (wo A B C E)))
  clear h hA hB hE hx h1 h2 h3 hp hq hr
  cases p
  · cases m1
    · skip
      have EX := Lib.hid (show x = false by rw [X.out]; rfl)
      have CDx := Lib.hid (fun w => CD.out rfl w)
      clear CD CT CZ
      go_enter Tryz.func153, Tryz.ntmps153
      go_wp2_with fail
      refine (CDx.out _).mono ?_
      rintro e w1 ⟨rfl, hb⟩
      have HB1 := Lib.hid (below_tr HB0.out hb)
      obtain ⟨⟨k00, k01, k02, k03⟩, hbw⟩ := wo_cells HB1.out
      clear hb hbw
      go_wp2_with fail
      go_ret
      exact ⟨ret_bool EX.out.symm, (wo_cells HB1.out).2⟩
    · skip
      cases q
      · cases m2
        · skip
          have EX := Lib.hid (show x = false by rw [X.out]; rfl)
          have CDx := Lib.hid (fun w => CD.out rfl w)
          have CTx := Lib.hid (fun w => CT.out rfl w)
          clear CD CT CZ
          go_enter Tryz.func153, Tryz.ntmps153
          go_wp2_with fail
          refine (CDx.out _).mono ?_
          rintro e w1 ⟨rfl, hb⟩
          have HB1 := Lib.hid (below_tr HB0.out hb)
          obtain ⟨⟨k00, k01, k02, k03⟩, hbw⟩ := wo_cells HB1.out
          clear hb hbw
          go_wp2_with fail
          refine (CTx.out _).mono ?_
          rintro e w2 ⟨rfl, hb⟩
          have HB2 := Lib.hid (below_tr HB1.out hb)
          obtain ⟨⟨k10, k11, k12, k13⟩, hbw⟩ := wo_cells HB2.out
          clear hb hbw k00 k01 k02 k03
          go_wp2_with fail
          go_ret
          exact ⟨ret_bool EX.out.symm, (wo_cells HB2.out).2⟩
        · skip
          cases r
          · cases m3
            · skip
              have EX := Lib.hid (show x = false by rw [X.out]; rfl)
              have CDx := Lib.hid (fun w => CD.out rfl w)
              have CTx := Lib.hid (fun w => CT.out rfl w)
              have CZx := Lib.hid (fun w => CZ.out rfl w)
              clear CD CT CZ
              go_enter Tryz.func153, Tryz.ntmps153
              go_wp2_with fail
              refine (CDx.out _).mono ?_
              rintro e w1 ⟨rfl, hb⟩
              have HB1 := Lib.hid (below_tr HB0.out hb)
              obtain ⟨⟨k00, k01, k02, k03⟩, hbw⟩ := wo_cells HB1.out
              clear hb hbw
              go_wp2_with fail
              refine (CTx.out _).mono ?_
              rintro e w2 ⟨rfl, hb⟩
              have HB2 := Lib.hid (below_tr HB1.out hb)
              obtain ⟨⟨k10, k11, k12, k13⟩, hbw⟩ := wo_cells HB2.out
              clear hb hbw k00 k01 k02 k03
              go_wp2_with fail
              refine (CZx.out _).mono ?_
              rintro e w3 ⟨rfl, hb⟩
              have HB3 := Lib.hid (below_tr HB2.out hb)
              obtain ⟨⟨k20, k21, k22, k23⟩, hbw⟩ := wo_cells HB3.out
              clear hb hbw k10 k11 k12 k13
              go_wp2_with fail
              go_ret
              exact ⟨ret_bool EX.out.symm, (wo_cells HB3.out).2⟩
            · skip
              have EX := Lib.hid (show x = true by rw [X.out]; rfl)
              have CDx := Lib.hid (fun w => CD.out rfl w)
              have CTx := Lib.hid (fun w => CT.out rfl w)
              have CZx := Lib.hid (fun w => CZ.out rfl w)
              clear CD CT CZ
              go_enter Tryz.func153, Tryz.ntmps153
              go_wp2_with fail
              refine (CDx.out _).mono ?_
              rintro e w1 ⟨rfl, hb⟩
              have HB1 := Lib.hid (below_tr HB0.out hb)
              obtain ⟨⟨k00, k01, k02, k03⟩, hbw⟩ := wo_cells HB1.out
              clear hb hbw
              go_wp2_with fail
              refine (CTx.out _).mono ?_
              rintro e w2 ⟨rfl, hb⟩
              have HB2 := Lib.hid (below_tr HB1.out hb)
              obtain ⟨⟨k10, k11, k12, k13⟩, hbw⟩ := wo_cells HB2.out
              clear hb hbw k00 k01 k02 k03
              go_wp2_with fail
              refine (CZx.out _).mono ?_
              rintro e w3 ⟨rfl, hb⟩
              have HB3 := Lib.hid (below_tr HB2.out hb)
              obtain ⟨⟨k20, k21, k22, k23⟩, hbw⟩ := wo_cells HB3.out
              clear hb hbw k10 k11 k12 k13
              go_wp2_with fail
              go_ret
              exact ⟨ret_bool EX.out.symm, (wo_cells HB3.out).2⟩
          · skip
            have EX := Lib.hid (show x = true by rw [X.out]; rfl)
            have CDx := Lib.hid (fun w => CD.out rfl w)
            have CTx := Lib.hid (fun w => CT.out rfl w)
            clear CD CT CZ
            go_enter Tryz.func153, Tryz.ntmps153
            go_wp2_with fail
            refine (CDx.out _).mono ?_
            rintro e w1 ⟨rfl, hb⟩
            have HB1 := Lib.hid (below_tr HB0.out hb)
            obtain ⟨⟨k00, k01, k02, k03⟩, hbw⟩ := wo_cells HB1.out
            clear hb hbw
            go_wp2_with fail
            refine (CTx.out _).mono ?_
            rintro e w2 ⟨rfl, hb⟩
            have HB2 := Lib.hid (below_tr HB1.out hb)
            obtain ⟨⟨k10, k11, k12, k13⟩, hbw⟩ := wo_cells HB2.out
            clear hb hbw k00 k01 k02 k03
            go_wp2_with fail
            go_ret
            exact ⟨ret_bool EX.out.symm, (wo_cells HB2.out).2⟩
      · skip
        cases r
        · cases m3
          · skip
            have EX := Lib.hid (show x = false by rw [X.out]; rfl)
            have CDx := Lib.hid (fun w => CD.out rfl w)
            have CZx := Lib.hid (fun w => CZ.out rfl w)
            clear CD CT CZ
            go_enter Tryz.func153, Tryz.ntmps153
            go_wp2_with fail
            refine (CDx.out _).mono ?_
            rintro e w1 ⟨rfl, hb⟩
            have HB1 := Lib.hid (below_tr HB0.out hb)
            obtain ⟨⟨k00, k01, k02, k03⟩, hbw⟩ := wo_cells HB1.out
            clear hb hbw
            go_wp2_with fail
            refine (CZx.out _).mono ?_
            rintro e w2 ⟨rfl, hb⟩
            have HB2 := Lib.hid (below_tr HB1.out hb)
            obtain ⟨⟨k10, k11, k12, k13⟩, hbw⟩ := wo_cells HB2.out
            clear hb hbw k00 k01 k02 k03
            go_wp2_with fail
            go_ret
            exact ⟨ret_bool EX.out.symm, (wo_cells HB2.out).2⟩
          · skip
            have EX := Lib.hid (show x = true by rw [X.out]; rfl)
            have CDx := Lib.hid (fun w => CD.out rfl w)
            have CZx := Lib.hid (fun w => CZ.out rfl w)
            clear CD CT CZ
            go_enter Tryz.func153, Tryz.ntmps153
            go_wp2_with fail
            refine (CDx.out _).mono ?_
            rintro e w1 ⟨rfl, hb⟩
            have HB1 := Lib.hid (below_tr HB0.out hb)
            obtain ⟨⟨k00, k01, k02, k03⟩, hbw⟩ := wo_cells HB1.out
            clear hb hbw
            go_wp2_with fail
            refine (CZx.out _).mono ?_
            rintro e w2 ⟨rfl, hb⟩
            have HB2 := Lib.hid (below_tr HB1.out hb)
            obtain ⟨⟨k10, k11, k12, k13⟩, hbw⟩ := wo_cells HB2.out
            clear hb hbw k00 k01 k02 k03
            go_wp2_with fail
            go_ret
            exact ⟨ret_bool EX.out.symm, (wo_cells HB2.out).2⟩
        · skip
          have EX := Lib.hid (show x = true by rw [X.out]; rfl)
          have CDx := Lib.hid (fun w => CD.out rfl w)
          clear CD CT CZ
          go_enter Tryz.func153, Tryz.ntmps153
          go_wp2_with fail
          refine (CDx.out _).mono ?_
          rintro e w1 ⟨rfl, hb⟩
          have HB1 := Lib.hid (below_tr HB0.out hb)
          obtain ⟨⟨k00, k01, k02, k03⟩, hbw⟩ := wo_cells HB1.out
          clear hb hbw
          go_wp2_with fail
          go_ret
          exact ⟨ret_bool EX.out.symm, (wo_cells HB1.out).2⟩
  · skip
    cases q
    · cases m2
      · skip
        have EX := Lib.hid (show x = false by rw [X.out]; rfl)
        have CTx := Lib.hid (fun w => CT.out rfl w)
        clear CD CT CZ
        go_enter Tryz.func153, Tryz.ntmps153
        go_wp2_with fail
        refine (CTx.out _).mono ?_
        rintro e w1 ⟨rfl, hb⟩
        have HB1 := Lib.hid (below_tr HB0.out hb)
        obtain ⟨⟨k00, k01, k02, k03⟩, hbw⟩ := wo_cells HB1.out
        clear hb hbw
        go_wp2_with fail
        go_ret
        exact ⟨ret_bool EX.out.symm, (wo_cells HB1.out).2⟩
      · skip
        cases r
        · cases m3
          · skip
            have EX := Lib.hid (show x = false by rw [X.out]; rfl)
            have CTx := Lib.hid (fun w => CT.out rfl w)
            have CZx := Lib.hid (fun w => CZ.out rfl w)
            clear CD CT CZ
            go_enter Tryz.func153, Tryz.ntmps153
            go_wp2_with fail
            refine (CTx.out _).mono ?_
            rintro e w1 ⟨rfl, hb⟩
            have HB1 := Lib.hid (below_tr HB0.out hb)
            obtain ⟨⟨k00, k01, k02, k03⟩, hbw⟩ := wo_cells HB1.out
            clear hb hbw
            go_wp2_with fail
            refine (CZx.out _).mono ?_
            rintro e w2 ⟨rfl, hb⟩
            have HB2 := Lib.hid (below_tr HB1.out hb)
            obtain ⟨⟨k10, k11, k12, k13⟩, hbw⟩ := wo_cells HB2.out
            clear hb hbw k00 k01 k02 k03
            go_wp2_with fail
            go_ret
            exact ⟨ret_bool EX.out.symm, (wo_cells HB2.out).2⟩
          · skip
            have EX := Lib.hid (show x = true by rw [X.out]; rfl)
            have CTx := Lib.hid (fun w => CT.out rfl w)
            have CZx := Lib.hid (fun w => CZ.out rfl w)
            clear CD CT CZ
            go_enter Tryz.func153, Tryz.ntmps153
            go_wp2_with fail
            refine (CTx.out _).mono ?_
            rintro e w1 ⟨rfl, hb⟩
            have HB1 := Lib.hid (below_tr HB0.out hb)
            obtain ⟨⟨k00, k01, k02, k03⟩, hbw⟩ := wo_cells HB1.out
            clear hb hbw
            go_wp2_with fail
            refine (CZx.out _).mono ?_
            rintro e w2 ⟨rfl, hb⟩
            have HB2 := Lib.hid (below_tr HB1.out hb)
            obtain ⟨⟨k10, k11, k12, k13⟩, hbw⟩ := wo_cells HB2.out
            clear hb hbw k00 k01 k02 k03
            go_wp2_with fail
            go_ret
            exact ⟨ret_bool EX.out.symm, (wo_cells HB2.out).2⟩
        · skip
          have EX := Lib.hid (show x = true by rw [X.out]; rfl)
          have CTx := Lib.hid (fun w => CT.out rfl w)
          clear CD CT CZ
          go_enter Tryz.func153, Tryz.ntmps153
          go_wp2_with fail
          refine (CTx.out _).mono ?_
          rintro e w1 ⟨rfl, hb⟩
          have HB1 := Lib.hid (below_tr HB0.out hb)
          obtain ⟨⟨k00, k01, k02, k03⟩, hbw⟩ := wo_cells HB1.out
          clear hb hbw
          go_wp2_with fail
          go_ret
          exact ⟨ret_bool EX.out.symm, (wo_cells HB1.out).2⟩
    · skip
      cases r
      · cases m3
        · skip
          have EX := Lib.hid (show x = false by rw [X.out]; rfl)
          have CZx := Lib.hid (fun w => CZ.out rfl w)
          clear CD CT CZ
          go_enter Tryz.func153, Tryz.ntmps153
          go_wp2_with fail
          refine (CZx.out _).mono ?_
          rintro e w1 ⟨rfl, hb⟩
          have HB1 := Lib.hid (below_tr HB0.out hb)
          obtain ⟨⟨k00, k01, k02, k03⟩, hbw⟩ := wo_cells HB1.out
          clear hb hbw
          go_wp2_with fail
          go_ret
          exact ⟨ret_bool EX.out.symm, (wo_cells HB1.out).2⟩
        · skip
          have EX := Lib.hid (show x = true by rw [X.out]; rfl)
          have CZx := Lib.hid (fun w => CZ.out rfl w)
          clear CD CT CZ
          go_enter Tryz.func153, Tryz.ntmps153
          go_wp2_with fail
          refine (CZx.out _).mono ?_
          rintro e w1 ⟨rfl, hb⟩
          have HB1 := Lib.hid (below_tr HB0.out hb)
          obtain ⟨⟨k00, k01, k02, k03⟩, hbw⟩ := wo_cells HB1.out
          clear hb hbw
          go_wp2_with fail
          go_ret
          exact ⟨ret_bool EX.out.symm, (wo_cells HB1.out).2⟩
      · skip
        have EX := Lib.hid (show x = true by rw [X.out]; rfl)
        clear CD CT CZ
        go_enter Tryz.func153, Tryz.ntmps153
        go_wp2_with fail
        go_ret
        exact ⟨ret_bool EX.out.symm, (wo_cells HB0.out).2⟩
end Da
end Go.Proofs.YtbeefjhcbphiaaaGreatDoor
/- What landed: read, Read, Of, Long. -/
namespace Go.Proofs.YtbeefjhcbphiaaaGreatDoor
open Go.RowKit
namespace Da

abbrev e0 : ByteArray := ⟨#[]⟩
def rw3 (l : List UInt8) : Value :=
  if en l = l.length ∧ kd l ≠ 0 then (if ok (pD l) (pT l) (pZ l) = true then .tuple #[wv (txt (pD l)) (txt (pT l)) (txt (pF l)) (txt (pZ l)), .int .i64 0] else .tuple #[wv e0 e0 e0 e0, .int .i64 9]) else .tuple #[wv e0 e0 e0 e0, .int .i64 3]
theorem drop_nil {l : List UInt8} : l.drop (en l) = [] ↔ en l = l.length := by
  have := en_le l
  rw [List.drop_eq_nil_iff]
  omega
set_option maxHeartbeats 4000000 in
set_option maxRecDepth 100000 in
theorem read_is {l : List UInt8} {s : ByteArray} (w : World) (hs : s = txt l) (hl : l.length ≤ 1000000) :
    Calls Tryz.prog 141 #[.string s] w fun e w' => e = .returned (rw3 l) ∧ Below w.heap.size w w' := by
  obtain ⟨A, hA⟩ : ∃ A, A = txt (pD l) := ⟨_, rfl⟩
  obtain ⟨B, hB⟩ : ∃ A, A = txt (pT l) := ⟨_, rfl⟩
  obtain ⟨C, hC⟩ : ∃ A, A = txt (pF l) := ⟨_, rfl⟩
  obtain ⟨E, hE⟩ : ∃ A, A = txt (pZ l) := ⟨_, rfl⟩
  obtain ⟨R, hR⟩ : ∃ A, A = txt (l.drop (en l)) := ⟨_, rfl⟩
  have CS := Lib.hid (fun w => split_is w hs hl)
  rw [spv, ← hA, ← hB, ← hC, ← hE, ← hR] at CS
  have he := txt_empty hR
  obtain ⟨k, hk⟩ : ∃ k : Int, k = (kd l : Nat) := ⟨_, rfl⟩
  have CK := Lib.hid (fun w => kind_is (C := C) w hA hB hE (k := k) hk)
  have hle := pF_le l
  obtain ⟨x, hx⟩ : ∃ x, x = ok (pD l) (pT l) (pZ l) := ⟨_, rfl⟩
  have CM := Lib.hid (fun (h : kd l ≠ 0) w => may_is (C := C) (x := x) w (sh_of h) hA hB hE hx)
  by_cases hn : en l = l.length
  · rw [decide_eq_true (drop_nil.2 hn)] at he
    by_cases hk0 : kd l = 0
    · have EX := Lib.hid (show rw3 l = .tuple #[wv e0 e0 e0 e0, .int .i64 3] by rw [rw3, if_neg (fun h => h.2 hk0)])
      have hk1 : (k == 0) = true := by rw [hk, hk0]; rfl
      clear hs hl hA hB hC hE hR hn hk0 hk hle hx CM
      go_enter Tryz.func141, Tryz.ntmps141
      go_wp2_with fail
      refine (CS.out _).mono ?_
      rintro e w1 ⟨rfl, hb⟩
      have P1 := Lib.hid (PW.start.below hb)
      obtain ⟨⟨c0, c1, c2, c3⟩, f0, f1, f2, f3⟩ := P1.out.cells
      clear hb
      go_wp2_with fail
      refine (CK.out _).mono ?_
      rintro e w2 ⟨rfl, hb⟩
      have P3 := Lib.hid ((P1.out.alloc (wo A B C E)).below hb)
      have Q3 := Lib.hid ((PW.start (W := w1) (a := A) (b := B) (c := C) (d := E)).below hb)
      clear hb c0 c1 c2 c3 f0 f1 f2 f3
      obtain ⟨⟨c0, c1, c2, c3⟩, f0, f1, f2, f3⟩ := P3.out.cells
      obtain ⟨⟨k0, k1, k2, k3⟩, j0, j1, j2, j3⟩ := Q3.out.cells
      go_wp2_with fail
      refine bodyPost_ret (v := .tuple #[wv e0 e0 e0 e0, .int .i64 3]) (by simp [results, Tryz.results141, go_sem, *]) rfl ?_
      exact ⟨by rw [EX.out], P3.out.set.1⟩
    · have hk1 : (k == 0) = false := by rw [hk]; simpa using hk0
      replace CM := Lib.hid (CM.out hk0)
      cases x
      · have EX := Lib.hid (show rw3 l = .tuple #[wv e0 e0 e0 e0, .int .i64 9] by rw [rw3, if_pos ⟨hn, hk0⟩, if_neg (by rw [← hx]; simp)])
        clear hs hl hA hB hC hE hR hn hk0 hk hle hx
        go_enter Tryz.func141, Tryz.ntmps141
        go_wp2_with fail
        refine (CS.out _).mono ?_
        rintro e w1 ⟨rfl, hb⟩
        have P1 := Lib.hid (PW.start.below hb)
        obtain ⟨⟨c0, c1, c2, c3⟩, f0, f1, f2, f3⟩ := P1.out.cells
        clear hb
        go_wp2_with fail
        refine (CK.out _).mono ?_
        rintro e w2 ⟨rfl, hb⟩
        have P3 := Lib.hid ((P1.out.alloc (wo A B C E)).below hb)
        have Q3 := Lib.hid ((PW.start (W := w1) (a := A) (b := B) (c := C) (d := E)).below hb)
        clear hb c0 c1 c2 c3 f0 f1 f2 f3
        obtain ⟨⟨c0, c1, c2, c3⟩, f0, f1, f2, f3⟩ := P3.out.cells
        obtain ⟨⟨k0, k1, k2, k3⟩, j0, j1, j2, j3⟩ := Q3.out.cells
        go_wp2_with fail
        refine (CM.out _).mono ?_
        rintro e w3 ⟨rfl, hb⟩
        have P4 := Lib.hid (P3.out.below hb)
        have Q4 := Lib.hid (Q3.out.below hb)
        clear hb c0 c1 c2 c3 f0 f1 f2 f3 k0 k1 k2 k3 j0 j1 j2 j3
        obtain ⟨⟨c0, c1, c2, c3⟩, f0, f1, f2, f3⟩ := P4.out.cells
        obtain ⟨⟨k0, k1, k2, k3⟩, j0, j1, j2, j3⟩ := Q4.out.cells
        go_wp2_with fail
        refine bodyPost_ret (v := .tuple #[wv e0 e0 e0 e0, .int .i64 9]) (by simp [results, Tryz.results141, go_sem, *]) rfl ?_
        exact ⟨by rw [EX.out], P4.out.set.1⟩
      · have EX := Lib.hid (show rw3 l = .tuple #[wv A B C E, .int .i64 0] by rw [rw3, if_pos ⟨hn, hk0⟩, if_pos hx.symm, hA, hB, hC, hE])
        clear hs hl hA hB hC hE hR hn hk0 hk hle hx
        go_enter Tryz.func141, Tryz.ntmps141
        go_wp2_with fail
        refine (CS.out _).mono ?_
        rintro e w1 ⟨rfl, hb⟩
        have P1 := Lib.hid (PW.start.below hb)
        obtain ⟨⟨c0, c1, c2, c3⟩, f0, f1, f2, f3⟩ := P1.out.cells
        clear hb
        go_wp2_with fail
        refine (CK.out _).mono ?_
        rintro e w2 ⟨rfl, hb⟩
        have P3 := Lib.hid ((P1.out.alloc (wo A B C E)).below hb)
        have Q3 := Lib.hid ((PW.start (W := w1) (a := A) (b := B) (c := C) (d := E)).below hb)
        clear hb c0 c1 c2 c3 f0 f1 f2 f3
        obtain ⟨⟨c0, c1, c2, c3⟩, f0, f1, f2, f3⟩ := P3.out.cells
        obtain ⟨⟨k0, k1, k2, k3⟩, j0, j1, j2, j3⟩ := Q3.out.cells
        go_wp2_with fail
        refine (CM.out _).mono ?_
        rintro e w3 ⟨rfl, hb⟩
        have P4 := Lib.hid (P3.out.below hb)
        have Q4 := Lib.hid (Q3.out.below hb)
        clear hb c0 c1 c2 c3 f0 f1 f2 f3 k0 k1 k2 k3 j0 j1 j2 j3
        obtain ⟨⟨c0, c1, c2, c3⟩, f0, f1, f2, f3⟩ := P4.out.cells
        obtain ⟨⟨k0, k1, k2, k3⟩, j0, j1, j2, j3⟩ := Q4.out.cells
        have P5 := Lib.hid (P4.out.set (a' := A) (b' := B) (c' := C) (d' := E))
        obtain ⟨⟨d0, d1, d2, d3⟩, g0, g1, g2, g3⟩ := P5.out.cells
        go_wp2_with fail
        refine bodyPost_ret (v := .tuple #[wv A B C E, .int .i64 0]) (by simp [results, Tryz.results141, go_sem, *]) rfl ?_
        exact ⟨by rw [EX.out], P5.out.1⟩
  · rw [decide_eq_false (fun h => hn (drop_nil.1 h))] at he
    have EX := Lib.hid (show rw3 l = .tuple #[wv e0 e0 e0 e0, .int .i64 3] by rw [rw3, if_neg (fun h => hn h.1)])
    clear hs hl hA hB hC hE hR hn hk hle hx CM CK
    go_enter Tryz.func141, Tryz.ntmps141
    go_wp2_with fail
    refine (CS.out _).mono ?_
    rintro e w1 ⟨rfl, hb⟩
    have P1 := Lib.hid (PW.start.below hb)
    obtain ⟨⟨c0, c1, c2, c3⟩, f0, f1, f2, f3⟩ := P1.out.cells
    clear hb
    have P2 := Lib.hid (P1.out.alloc (wo A B C E))
    obtain ⟨⟨d0, d1, d2, d3⟩, g0, g1, g2, g3⟩ := P2.out.cells
    go_wp2_with fail
    refine bodyPost_ret (v := .tuple #[wv e0 e0 e0 e0, .int .i64 3]) (by simp [results, Tryz.results141, go_sem, *]) rfl ?_
    exact ⟨by rw [EX.out], P2.out.set.1⟩
/-- What a text reads as. -/
theorem Read_is {l : List UInt8} {s : ByteArray} (w : World) (hs : s = txt l) (hl : l.length ≤ 1000000) :
    Calls Tryz.prog 133 #[.string s] w fun e w' => e = .returned (.tuple #[.string (txt (rdD l).1), .int .i64 (rdD l).2]) ∧ Below w.heap.size w w' := by
  have CR := Lib.hid (fun w => read_is w hs hl)
  have hle := pF_le l
  unfold rw3 at CR
  unfold rdD
  by_cases h : en l = l.length ∧ kd l ≠ 0
  · rw [if_pos h] at CR ⊢
    by_cases hok : ok (pD l) (pT l) (pZ l) = true
    · rw [if_pos hok] at CR ⊢
      obtain ⟨A, hA⟩ : ∃ A, A = txt (pD l) := ⟨_, rfl⟩
      obtain ⟨B, hB⟩ : ∃ A, A = txt (pT l) := ⟨_, rfl⟩
      obtain ⟨C, hC⟩ : ∃ A, A = txt (pF l) := ⟨_, rfl⟩
      obtain ⟨E, hE⟩ : ∃ A, A = txt (pZ l) := ⟨_, rfl⟩
      obtain ⟨N, hN⟩ : ∃ A, A = txt (nm (pD l) (pT l) (pF l) (pZ l)) := ⟨_, rfl⟩
      have CN := Lib.hid (fun w => normal_is w (sh_of h.2) (by omega) hA hB hC hE hN)
      rw [← hA, ← hB, ← hC, ← hE] at CR
      rw [← hN]
      clear hs hl hle h hok hA hB hC hE hN
      go_enter Tryz.func133, Tryz.ntmps133
      go_wp2_with fail
      refine (CR.out _).mono ?_
      rintro e w1 ⟨rfl, hb⟩
      have HB1 := Lib.hid hb
      have HB2 := Lib.hid (HB1.out.alloc HB1.out.size (wo A B C E))
      clear hb
      go_wp2_with fail
      refine (CN.out _).mono ?_
      rintro e w2 ⟨rfl, hb⟩
      have HB3 := Lib.hid (below_tr HB2.out hb)
      clear hb
      go_wp2_with fail
      go_ret2
      exact ⟨rfl, HB3.out⟩
    · rw [if_neg hok] at CR ⊢
      clear hs hl hle h hok
      go_enter Tryz.func133, Tryz.ntmps133
      go_wp2_with fail
      refine (CR.out _).mono ?_
      rintro e w1 ⟨rfl, hb⟩
      have HB1 := Lib.hid hb
      have HB2 := Lib.hid (HB1.out.alloc HB1.out.size (wo e0 e0 e0 e0))
      clear hb
      go_wp2_with fail
      go_ret2
      exact ⟨rfl, HB2.out⟩
  · rw [if_neg h] at CR ⊢
    clear hs hl hle h
    go_enter Tryz.func133, Tryz.ntmps133
    go_wp2_with fail
    refine (CR.out _).mono ?_
    rintro e w1 ⟨rfl, hb⟩
    have HB1 := Lib.hid hb
    have HB2 := Lib.hid (HB1.out.alloc HB1.out.size (wo e0 e0 e0 e0))
    clear hb
    go_wp2_with fail
    go_ret2
    exact ⟨rfl, HB2.out⟩
theorem iseq_txt {s t : ByteArray} {l m : List UInt8} (hs : s = txt l) (ht : t = txt m) : (s.toList == t.toList) = decide (l = m) := by
  rw [hs, ht, toList_txt, toList_txt]
  by_cases h : l = m
  · simp [h]
  · simp [h]
theorem Long_is {l : List UInt8} {s : ByteArray} {k : Int} (w : World) (hs : s = txt l) (hl : l.length ≤ 1000000) (hk : k = (en l : Nat)) :
    Calls Tryz.prog 132 #[.string s] w fun e w' => e = .returned (.int .i64 k) ∧ Below w.heap.size w w' := by
  obtain ⟨A, hA⟩ : ∃ A, A = txt (pD l) := ⟨_, rfl⟩
  obtain ⟨B, hB⟩ : ∃ A, A = txt (pT l) := ⟨_, rfl⟩
  obtain ⟨C, hC⟩ : ∃ A, A = txt (pF l) := ⟨_, rfl⟩
  obtain ⟨E, hE⟩ : ∃ A, A = txt (pZ l) := ⟨_, rfl⟩
  obtain ⟨R, hR⟩ : ∃ A, A = txt (l.drop (en l)) := ⟨_, rfl⟩
  have CS := Lib.hid (fun w => split_is w hs hl)
  rw [spv, ← hA, ← hB, ← hC, ← hE, ← hR] at CS
  have e1 : s.size = l.length := by rw [hs, txt_size]
  have e2 : R.size = l.length - en l := by rw [hR, txt_size, List.length_drop]
  have hen := en_le l
  have EX := Lib.hid (show (s.size : Int) - (R.size : Int) = k by omega)
  have h1 : s.size ≤ 1000000 := by omega
  have h2 : R.size ≤ s.size := by omega
  clear hs hl hA hB hC hE hR hk e1 e2 hen
  go_enter Tryz.func132, Tryz.ntmps132
  go_wp2_with fail
  refine (CS.out _).mono ?_
  rintro e w1 ⟨rfl, hb⟩
  have HB1 := Lib.hid hb
  have HB2 := Lib.hid (HB1.out.alloc HB1.out.size (wo A B C E))
  clear hb
  go_wp2_with fail
  go_ret
  exact ⟨ret_int (by rw [← EX.out]), HB2.out⟩
end Da
end Go.Proofs.YtbeefjhcbphiaaaGreatDoor
