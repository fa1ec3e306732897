/- The document's date, time and zone at a place. -/
import Derived.Test.YtgmlbcdakblpiaaDoorEa
namespace Go.Proofs.YtgmlbcdakblpiaaDoor
open Go.RowKit
namespace Da

theorem tw_dec (l : List UInt8) (i : Nat) : decide (0 ≤ tw l i) = t2 l i := by
  cases h : t2 l i
  · rw [decide_eq_false (fun g => by rw [tw_pos, h] at g; cases g)]
  · rw [decide_eq_true (tw_pos.2 h)]
set_option maxHeartbeats 4000000 in
set_option maxRecDepth 100000 in
theorem date_is {l : List UInt8} {s : ByteArray} {y : Int} (w : World) (hs : s = txt l) (hl : l.length ≤ 1000000) (hy : y = if dte l = true then 10 else -1) :
    Calls Tryd.prog 38 #[.string s, .int .i64 0] w fun e w' => e = .returned (.int .i64 y) ∧ Below w.heap.size w w' := by
  obtain ⟨y0, hy0⟩ : ∃ y, y = tw l 0 := ⟨_, rfl⟩
  have T0 := Lib.hid (fun (x : Int) (hx : x = (0 : Nat)) w => two_is 0 w hs hl (by omega) hx hy0)
  have y0l := tw_le l 0
  rw [← hy0] at y0l
  obtain ⟨y0l, y0g⟩ := y0l
  obtain ⟨y2, hy2⟩ : ∃ y, y = tw l 2 := ⟨_, rfl⟩
  have T2 := Lib.hid (fun (x : Int) (hx : x = (2 : Nat)) w => two_is 2 w hs hl (by omega) hx hy2)
  have y2l := tw_le l 2
  rw [← hy2] at y2l
  obtain ⟨y2l, y2g⟩ := y2l
  obtain ⟨b4_45, hb4_45⟩ : ∃ b, b = decide (bt l 4 = 45) := ⟨_, rfl⟩
  have B4_45 := Lib.hid (fun (x : Int) (hx : x = (4 : Nat)) w => at_is 4 w hs hl (by omega) hx (by decide) hb4_45)
  obtain ⟨y5, hy5⟩ : ∃ y, y = tw l 5 := ⟨_, rfl⟩
  have T5 := Lib.hid (fun (x : Int) (hx : x = (5 : Nat)) w => two_is 5 w hs hl (by omega) hx hy5)
  have y5l := tw_le l 5
  rw [← hy5] at y5l
  obtain ⟨y5l, y5g⟩ := y5l
  obtain ⟨b7_45, hb7_45⟩ : ∃ b, b = decide (bt l 7 = 45) := ⟨_, rfl⟩
  have B7_45 := Lib.hid (fun (x : Int) (hx : x = (7 : Nat)) w => at_is 7 w hs hl (by omega) hx (by decide) hb7_45)
  obtain ⟨y8, hy8⟩ : ∃ y, y = tw l 8 := ⟨_, rfl⟩
  have T8 := Lib.hid (fun (x : Int) (hx : x = (8 : Nat)) w => two_is 8 w hs hl (by omega) hx hy8)
  have y8l := tw_le l 8
  rw [← hy8] at y8l
  obtain ⟨y8l, y8g⟩ := y8l
  have HD := Lib.hid (show dte l = (decide (0 ≤ y0) && decide (0 ≤ y2) && b4_45 && decide (0 ≤ y5) && b7_45 && decide (0 ≤ y8)) by rw [hy0, hy2, hy5, hy8, hb4_45, hb7_45, tw_dec, tw_dec, tw_dec, tw_dec]; rfl)
  have HY := Lib.hid hy
  have HB0 := Lib.hid (Below.refl w.heap.size w)
  clear hs hl hy hy0 hy2 hy5 hy8 hb4_45 hb7_45
  by_cases g0 : 0 ≤ y0
  · skip
    by_cases g1 : 0 ≤ y2
    · skip
      cases b4_45
      · skip
        have E := Lib.hid (show y = -1 by rw [HY.out, if_neg (by rw [HD.out]; simp <;> omega)])
        clear HD HY
        go_enter Tryd.func38, Tryd.ntmps38
        go_wp2_with fail
        refine (T0.out _ (by omega) _).mono ?_
        rintro e w1 ⟨rfl, hb⟩
        have HB1 := Lib.hid (below_tr HB0.out hb)
        clear hb
        go_wp2_with fail
        refine (T2.out _ (by omega) _).mono ?_
        rintro e w2 ⟨rfl, hb⟩
        have HB2 := Lib.hid (below_tr HB1.out hb)
        clear hb
        go_wp2_with fail
        refine (B4_45.out _ (by omega) _).mono ?_
        rintro e w3 ⟨rfl, hb⟩
        have HB3 := Lib.hid (below_tr HB2.out hb)
        clear hb
        go_wp2_with fail
        go_ret
        exact ⟨ret_int E.out.symm, HB3.out⟩
      · skip
        by_cases g3 : 0 ≤ y5
        · skip
          cases b7_45
          · skip
            have E := Lib.hid (show y = -1 by rw [HY.out, if_neg (by rw [HD.out]; simp <;> omega)])
            clear HD HY
            go_enter Tryd.func38, Tryd.ntmps38
            go_wp2_with fail
            refine (T0.out _ (by omega) _).mono ?_
            rintro e w1 ⟨rfl, hb⟩
            have HB1 := Lib.hid (below_tr HB0.out hb)
            clear hb
            go_wp2_with fail
            refine (T2.out _ (by omega) _).mono ?_
            rintro e w2 ⟨rfl, hb⟩
            have HB2 := Lib.hid (below_tr HB1.out hb)
            clear hb
            go_wp2_with fail
            refine (B4_45.out _ (by omega) _).mono ?_
            rintro e w3 ⟨rfl, hb⟩
            have HB3 := Lib.hid (below_tr HB2.out hb)
            clear hb
            go_wp2_with fail
            refine (T5.out _ (by omega) _).mono ?_
            rintro e w4 ⟨rfl, hb⟩
            have HB4 := Lib.hid (below_tr HB3.out hb)
            clear hb
            go_wp2_with fail
            refine (B7_45.out _ (by omega) _).mono ?_
            rintro e w5 ⟨rfl, hb⟩
            have HB5 := Lib.hid (below_tr HB4.out hb)
            clear hb
            go_wp2_with fail
            go_ret
            exact ⟨ret_int E.out.symm, HB5.out⟩
          · skip
            by_cases g5 : 0 ≤ y8
            · skip
              have E := Lib.hid (show y = 10 by rw [HY.out, if_pos (by rw [HD.out]; simp <;> omega)])
              clear HD HY
              go_enter Tryd.func38, Tryd.ntmps38
              go_wp2_with fail
              refine (T0.out _ (by omega) _).mono ?_
              rintro e w1 ⟨rfl, hb⟩
              have HB1 := Lib.hid (below_tr HB0.out hb)
              clear hb
              go_wp2_with fail
              refine (T2.out _ (by omega) _).mono ?_
              rintro e w2 ⟨rfl, hb⟩
              have HB2 := Lib.hid (below_tr HB1.out hb)
              clear hb
              go_wp2_with fail
              refine (B4_45.out _ (by omega) _).mono ?_
              rintro e w3 ⟨rfl, hb⟩
              have HB3 := Lib.hid (below_tr HB2.out hb)
              clear hb
              go_wp2_with fail
              refine (T5.out _ (by omega) _).mono ?_
              rintro e w4 ⟨rfl, hb⟩
              have HB4 := Lib.hid (below_tr HB3.out hb)
              clear hb
              go_wp2_with fail
              refine (B7_45.out _ (by omega) _).mono ?_
              rintro e w5 ⟨rfl, hb⟩
              have HB5 := Lib.hid (below_tr HB4.out hb)
              clear hb
              go_wp2_with fail
              refine (T8.out _ (by omega) _).mono ?_
              rintro e w6 ⟨rfl, hb⟩
              have HB6 := Lib.hid (below_tr HB5.out hb)
              clear hb
              go_wp2_with fail
              go_ret
              exact ⟨ret_int E.out.symm, HB6.out⟩
            · skip
              have E := Lib.hid (show y = -1 by rw [HY.out, if_neg (by rw [HD.out]; simp <;> omega)])
              clear HD HY
              go_enter Tryd.func38, Tryd.ntmps38
              go_wp2_with fail
              refine (T0.out _ (by omega) _).mono ?_
              rintro e w1 ⟨rfl, hb⟩
              have HB1 := Lib.hid (below_tr HB0.out hb)
              clear hb
              go_wp2_with fail
              refine (T2.out _ (by omega) _).mono ?_
              rintro e w2 ⟨rfl, hb⟩
              have HB2 := Lib.hid (below_tr HB1.out hb)
              clear hb
              go_wp2_with fail
              refine (B4_45.out _ (by omega) _).mono ?_
              rintro e w3 ⟨rfl, hb⟩
              have HB3 := Lib.hid (below_tr HB2.out hb)
              clear hb
              go_wp2_with fail
              refine (T5.out _ (by omega) _).mono ?_
              rintro e w4 ⟨rfl, hb⟩
              have HB4 := Lib.hid (below_tr HB3.out hb)
              clear hb
              go_wp2_with fail
              refine (B7_45.out _ (by omega) _).mono ?_
              rintro e w5 ⟨rfl, hb⟩
              have HB5 := Lib.hid (below_tr HB4.out hb)
              clear hb
              go_wp2_with fail
              refine (T8.out _ (by omega) _).mono ?_
              rintro e w6 ⟨rfl, hb⟩
              have HB6 := Lib.hid (below_tr HB5.out hb)
              clear hb
              go_wp2_with fail
              go_ret
              exact ⟨ret_int E.out.symm, HB6.out⟩
        · skip
          have E := Lib.hid (show y = -1 by rw [HY.out, if_neg (by rw [HD.out]; simp <;> omega)])
          clear HD HY
          go_enter Tryd.func38, Tryd.ntmps38
          go_wp2_with fail
          refine (T0.out _ (by omega) _).mono ?_
          rintro e w1 ⟨rfl, hb⟩
          have HB1 := Lib.hid (below_tr HB0.out hb)
          clear hb
          go_wp2_with fail
          refine (T2.out _ (by omega) _).mono ?_
          rintro e w2 ⟨rfl, hb⟩
          have HB2 := Lib.hid (below_tr HB1.out hb)
          clear hb
          go_wp2_with fail
          refine (B4_45.out _ (by omega) _).mono ?_
          rintro e w3 ⟨rfl, hb⟩
          have HB3 := Lib.hid (below_tr HB2.out hb)
          clear hb
          go_wp2_with fail
          refine (T5.out _ (by omega) _).mono ?_
          rintro e w4 ⟨rfl, hb⟩
          have HB4 := Lib.hid (below_tr HB3.out hb)
          clear hb
          go_wp2_with fail
          go_ret
          exact ⟨ret_int E.out.symm, HB4.out⟩
    · skip
      have E := Lib.hid (show y = -1 by rw [HY.out, if_neg (by rw [HD.out]; simp <;> omega)])
      clear HD HY
      go_enter Tryd.func38, Tryd.ntmps38
      go_wp2_with fail
      refine (T0.out _ (by omega) _).mono ?_
      rintro e w1 ⟨rfl, hb⟩
      have HB1 := Lib.hid (below_tr HB0.out hb)
      clear hb
      go_wp2_with fail
      refine (T2.out _ (by omega) _).mono ?_
      rintro e w2 ⟨rfl, hb⟩
      have HB2 := Lib.hid (below_tr HB1.out hb)
      clear hb
      go_wp2_with fail
      go_ret
      exact ⟨ret_int E.out.symm, HB2.out⟩
  · skip
    have E := Lib.hid (show y = -1 by rw [HY.out, if_neg (by rw [HD.out]; simp <;> omega)])
    clear HD HY
    go_enter Tryd.func38, Tryd.ntmps38
    go_wp2_with fail
    refine (T0.out _ (by omega) _).mono ?_
    rintro e w1 ⟨rfl, hb⟩
    have HB1 := Lib.hid (below_tr HB0.out hb)
    clear hb
    go_wp2_with fail
    go_ret
    exact ⟨ret_int E.out.symm, HB1.out⟩
set_option maxHeartbeats 4000000 in
set_option maxRecDepth 100000 in
theorem clock_is {l : List UInt8} {s : ByteArray} {x y : Int} (i : Nat) (w : World) (hs : s = txt l) (hl : l.length ≤ 1000000) (hi : i ≤ 1000000) (hx : x = i) (hy : y = if clk l i = true then ((i + 8 + frc l (i + 8) : Nat) : Int) else -1) :
    Calls Tryd.prog 39 #[.string s, .int .i64 x] w fun e w' => e = .returned (.int .i64 y) ∧ Below w.heap.size w w' := by
  subst hx
  obtain ⟨y0, hy0⟩ : ∃ y, y = tw l i := ⟨_, rfl⟩
  have T0 := Lib.hid (fun (x : Int) (hx : x = (i : Nat)) w => two_is i w hs hl (by omega) hx hy0)
  have y0l := tw_le l i
  rw [← hy0] at y0l
  obtain ⟨y0l, y0g⟩ := y0l
  obtain ⟨b2_58, hb2_58⟩ : ∃ b, b = decide (bt l (i + 2) = 58) := ⟨_, rfl⟩
  have B2_58 := Lib.hid (fun (x : Int) (hx : x = ((i + 2) : Nat)) w => at_is (i + 2) w hs hl (by omega) hx (by decide) hb2_58)
  obtain ⟨y3, hy3⟩ : ∃ y, y = tw l (i + 3) := ⟨_, rfl⟩
  have T3 := Lib.hid (fun (x : Int) (hx : x = ((i + 3) : Nat)) w => two_is (i + 3) w hs hl (by omega) hx hy3)
  have y3l := tw_le l (i + 3)
  rw [← hy3] at y3l
  obtain ⟨y3l, y3g⟩ := y3l
  obtain ⟨b5_58, hb5_58⟩ : ∃ b, b = decide (bt l (i + 5) = 58) := ⟨_, rfl⟩
  have B5_58 := Lib.hid (fun (x : Int) (hx : x = ((i + 5) : Nat)) w => at_is (i + 5) w hs hl (by omega) hx (by decide) hb5_58)
  obtain ⟨y6, hy6⟩ : ∃ y, y = tw l (i + 6) := ⟨_, rfl⟩
  have T6 := Lib.hid (fun (x : Int) (hx : x = ((i + 6) : Nat)) w => two_is (i + 6) w hs hl (by omega) hx hy6)
  have y6l := tw_le l (i + 6)
  rw [← hy6] at y6l
  obtain ⟨y6l, y6g⟩ := y6l
  obtain ⟨b8_46, hb8_46⟩ : ∃ b, b = decide (bt l (i + 8) = 46) := ⟨_, rfl⟩
  have B8_46 := Lib.hid (fun (x : Int) (hx : x = ((i + 8) : Nat)) w => at_is (i + 8) w hs hl (by omega) hx (by decide) hb8_46)
  have HD := Lib.hid (show clk l i = (decide (0 ≤ y0) && b2_58 && decide (0 ≤ y3) && b5_58 && decide (0 ≤ y6)) by rw [hy0, hy3, hy6, hb2_58, hb5_58, tw_dec, tw_dec, tw_dec]; rfl)
  have HY := Lib.hid hy
  have HB0 := Lib.hid (Below.refl w.heap.size w)
  have HS := Lib.hid hs
  have HZ := Lib.hid (show s.size = l.length by rw [hs, txt_size])
  have hsz : s.size ≤ 1000000 := by rw [HZ.out]; exact hl
  have H46 := Lib.hid hb8_46
  clear hs hl hy hy0 hy3 hy6 hb2_58 hb5_58 hb8_46
  by_cases g0 : 0 ≤ y0
  · skip
    cases b2_58
    · skip
      have E := Lib.hid (show y = -1 by rw [HY.out, if_neg (by rw [HD.out]; simp <;> omega)])
      clear HD HY
      go_enter Tryd.func39, Tryd.ntmps39
      go_wp2_with fail
      refine (T0.out _ (by omega) _).mono ?_
      rintro e w1 ⟨rfl, hb⟩
      have HB1 := Lib.hid (below_tr HB0.out hb)
      clear hb
      go_wp2_with fail
      refine (B2_58.out _ (by omega) _).mono ?_
      rintro e w2 ⟨rfl, hb⟩
      have HB2 := Lib.hid (below_tr HB1.out hb)
      clear hb
      go_wp2_with fail
      go_ret
      exact ⟨ret_int E.out.symm, HB2.out⟩
    · skip
      by_cases g2 : 0 ≤ y3
      · skip
        cases b5_58
        · skip
          have E := Lib.hid (show y = -1 by rw [HY.out, if_neg (by rw [HD.out]; simp <;> omega)])
          clear HD HY
          go_enter Tryd.func39, Tryd.ntmps39
          go_wp2_with fail
          refine (T0.out _ (by omega) _).mono ?_
          rintro e w1 ⟨rfl, hb⟩
          have HB1 := Lib.hid (below_tr HB0.out hb)
          clear hb
          go_wp2_with fail
          refine (B2_58.out _ (by omega) _).mono ?_
          rintro e w2 ⟨rfl, hb⟩
          have HB2 := Lib.hid (below_tr HB1.out hb)
          clear hb
          go_wp2_with fail
          refine (T3.out _ (by omega) _).mono ?_
          rintro e w3 ⟨rfl, hb⟩
          have HB3 := Lib.hid (below_tr HB2.out hb)
          clear hb
          go_wp2_with fail
          refine (B5_58.out _ (by omega) _).mono ?_
          rintro e w4 ⟨rfl, hb⟩
          have HB4 := Lib.hid (below_tr HB3.out hb)
          clear hb
          go_wp2_with fail
          go_ret
          exact ⟨ret_int E.out.symm, HB4.out⟩
        · skip
          by_cases g4 : 0 ≤ y6
          · skip
            have HY2 := Lib.hid (show y = ((i + 8 + frc l (i + 8) : Nat) : Int) by rw [HY.out, if_pos (by rw [HD.out]; simp <;> omega)])
            have ZERO := Lib.hid (fun (h : ¬ (bt l (i + 8) = 46 ∧ dd l (i + 8 + 1) = true)) => show y = (i : Int) + 8 by rw [HY2.out, frc, if_neg h]; push_cast; omega)
            clear HD HY
            cases b8_46
            · skip
              have E := Lib.hid (ZERO.out (fun h => by have := H46.out; rw [decide_eq_true h.1] at this; cases this))
              clear ZERO HY2 H46
              go_enter Tryd.func39, Tryd.ntmps39
              go_wp2_with fail
              refine (T0.out _ (by omega) _).mono ?_
              rintro e w1 ⟨rfl, hb⟩
              have HB1 := Lib.hid (below_tr HB0.out hb)
              clear hb
              go_wp2_with fail
              refine (B2_58.out _ (by omega) _).mono ?_
              rintro e w2 ⟨rfl, hb⟩
              have HB2 := Lib.hid (below_tr HB1.out hb)
              clear hb
              go_wp2_with fail
              refine (T3.out _ (by omega) _).mono ?_
              rintro e w3 ⟨rfl, hb⟩
              have HB3 := Lib.hid (below_tr HB2.out hb)
              clear hb
              go_wp2_with fail
              refine (B5_58.out _ (by omega) _).mono ?_
              rintro e w4 ⟨rfl, hb⟩
              have HB4 := Lib.hid (below_tr HB3.out hb)
              clear hb
              go_wp2_with fail
              refine (T6.out _ (by omega) _).mono ?_
              rintro e w5 ⟨rfl, hb⟩
              have HB5 := Lib.hid (below_tr HB4.out hb)
              clear hb
              go_wp2_with fail
              refine (B8_46.out _ (by omega) _).mono ?_
              rintro e w6 ⟨rfl, hb⟩
              have HB6 := Lib.hid (below_tr HB5.out hb)
              clear hb
              go_wp2_with fail
              go_ret
              exact ⟨ret_int E.out.symm, HB6.out⟩
            · skip
              have h46 := Lib.hid (show bt l (i + 8) = 46 from of_decide_eq_true H46.out.symm)
              by_cases hlt : i + 9 < s.size
              · skip
                have hz := txt_at HS.out (k := i + 9)
                obtain ⟨z, hzz⟩ : ∃ z, z = bt l (i + 9) := ⟨_, rfl⟩
                rw [← hzz] at hz
                have CN := Lib.hid (fun w => num_is (c := z) w rfl)
                have HDD := Lib.hid (show dd l (i + 8 + 1) = dg z by unfold dd; rw [hzz])
                clear hzz
                cases gz : dg z
                · skip
                  have E := Lib.hid (ZERO.out (fun h => by have := h.2; rw [HDD.out, gz] at this; cases this))
                  rw [gz] at CN
                  clear ZERO HY2 H46 gz HDD h46
                  go_enter Tryd.func39, Tryd.ntmps39
                  go_wp2_with fail
                  refine (T0.out _ (by omega) _).mono ?_
                  rintro e w1 ⟨rfl, hb⟩
                  have HB1 := Lib.hid (below_tr HB0.out hb)
                  clear hb
                  go_wp2_with fail
                  refine (B2_58.out _ (by omega) _).mono ?_
                  rintro e w2 ⟨rfl, hb⟩
                  have HB2 := Lib.hid (below_tr HB1.out hb)
                  clear hb
                  go_wp2_with fail
                  refine (T3.out _ (by omega) _).mono ?_
                  rintro e w3 ⟨rfl, hb⟩
                  have HB3 := Lib.hid (below_tr HB2.out hb)
                  clear hb
                  go_wp2_with fail
                  refine (B5_58.out _ (by omega) _).mono ?_
                  rintro e w4 ⟨rfl, hb⟩
                  have HB4 := Lib.hid (below_tr HB3.out hb)
                  clear hb
                  go_wp2_with fail
                  refine (T6.out _ (by omega) _).mono ?_
                  rintro e w5 ⟨rfl, hb⟩
                  have HB5 := Lib.hid (below_tr HB4.out hb)
                  clear hb
                  go_wp2_with fail
                  refine (B8_46.out _ (by omega) _).mono ?_
                  rintro e w6 ⟨rfl, hb⟩
                  have HB6 := Lib.hid (below_tr HB5.out hb)
                  clear hb
                  go_wp2_with (go_at_call 63; refine (CN.out _).mono ?_; rintro e w' ⟨rfl, rfl⟩)
                  go_ret
                  exact ⟨ret_int E.out.symm, HB6.out⟩
                · skip
                  have R0 := Lib.hid (show y = ((i + 9 + run (l.drop (i + 9)) : Nat) : Int) by rw [HY2.out, frc, if_pos ⟨h46.out, by rw [HDD.out, gz]⟩]; show ((i + 8 + (run (l.drop (i + 9)) + 1) : Nat) : Int) = _; omega)
                  rw [gz] at CN
                  clear ZERO HY2 H46 gz HDD h46
                  go_enter Tryd.func39, Tryd.ntmps39
                  go_wp2_with fail
                  refine (T0.out _ (by omega) _).mono ?_
                  rintro e w1 ⟨rfl, hb⟩
                  have HB1 := Lib.hid (below_tr HB0.out hb)
                  clear hb
                  go_wp2_with fail
                  refine (B2_58.out _ (by omega) _).mono ?_
                  rintro e w2 ⟨rfl, hb⟩
                  have HB2 := Lib.hid (below_tr HB1.out hb)
                  clear hb
                  go_wp2_with fail
                  refine (T3.out _ (by omega) _).mono ?_
                  rintro e w3 ⟨rfl, hb⟩
                  have HB3 := Lib.hid (below_tr HB2.out hb)
                  clear hb
                  go_wp2_with fail
                  refine (B5_58.out _ (by omega) _).mono ?_
                  rintro e w4 ⟨rfl, hb⟩
                  have HB4 := Lib.hid (below_tr HB3.out hb)
                  clear hb
                  go_wp2_with fail
                  refine (T6.out _ (by omega) _).mono ?_
                  rintro e w5 ⟨rfl, hb⟩
                  have HB5 := Lib.hid (below_tr HB4.out hb)
                  clear hb
                  go_wp2_with fail
                  refine (B8_46.out _ (by omega) _).mono ?_
                  rintro e w6 ⟨rfl, hb⟩
                  have HB6 := Lib.hid (below_tr HB5.out hb)
                  clear hb
                  go_wp2_with (go_at_call 63; refine (CN.out _).mono ?_; rintro e w' ⟨rfl, rfl⟩)
                  clear hz CN
                  have HBL := Lib.hid (HB6.out)
                  go_loop [5] (fun j => ∃ k : Nat, i + 9 ≤ k ∧ k ≤ s.size ∧ j = .int .i64 k ∧ Hid (y = ((k + run (l.drop k) : Nat) : Int))) (fun j => s.size - (intOf j).toNat)
                  case atStart => exact ⟨i + 9, Nat.le_refl _, by omega, by go_num, R0⟩
                  case round =>
                    obtain ⟨k, hk1, hk, rfl, HR⟩ := hrel
                    clear R0
                    by_cases hlk : k < s.size
                    · have hq := txt_at HS.out (k := k)
                      obtain ⟨q, hqq⟩ : ∃ z, z = bt l k := ⟨_, rfl⟩
                      rw [← hqq] at hq
                      have CQ := Lib.hid (fun w => num_is (c := q) w rfl)
                      have HDQ := Lib.hid (show dd l k = dg q by unfold dd; rw [hqq])
                      clear hqq
                      cases gq : dg q
                      · have E := Lib.hid (show y = (k : Int) by rw [HR.out, run_at, HDQ.out, gq, if_neg (by simp)]; rfl)
                        rw [gq] at CQ
                        clear gq HDQ HR
                        go_wp2_with (go_at_call 63; refine (CQ.out _).mono ?_; rintro e w' ⟨rfl, rfl⟩)
                        go_ret
                        exact ⟨ret_int E.out.symm, HBL.out⟩
                      · have R1 := Lib.hid (show y = ((k + 1 + run (l.drop (k + 1)) : Nat) : Int) by rw [HR.out, run_at, HDQ.out, gq, if_pos rfl]; push_cast; omega)
                        rw [gq] at CQ
                        clear gq HDQ HR
                        go_wp2_with (go_at_call 63; refine (CQ.out _).mono ?_; rintro e w' ⟨rfl, rfl⟩)
                        go_round
                        case rel => exact ⟨k + 1, by omega, by omega, by go_num, R1⟩
                        case measure => simp [intOf]; omega
                    · have E := Lib.hid (show y = (k : Int) by rw [HR.out, List.drop_eq_nil_of_le (by rw [← HZ.out]; omega)]; rfl)
                      go_wp2_with fail
                      go_ret
                      exact ⟨ret_int E.out.symm, HBL.out⟩
              · skip
                have E := Lib.hid (ZERO.out (fun h => by have := dd_in h.2; rw [← HZ.out] at this; omega))
                clear ZERO HY2 H46 h46
                go_enter Tryd.func39, Tryd.ntmps39
                go_wp2_with fail
                refine (T0.out _ (by omega) _).mono ?_
                rintro e w1 ⟨rfl, hb⟩
                have HB1 := Lib.hid (below_tr HB0.out hb)
                clear hb
                go_wp2_with fail
                refine (B2_58.out _ (by omega) _).mono ?_
                rintro e w2 ⟨rfl, hb⟩
                have HB2 := Lib.hid (below_tr HB1.out hb)
                clear hb
                go_wp2_with fail
                refine (T3.out _ (by omega) _).mono ?_
                rintro e w3 ⟨rfl, hb⟩
                have HB3 := Lib.hid (below_tr HB2.out hb)
                clear hb
                go_wp2_with fail
                refine (B5_58.out _ (by omega) _).mono ?_
                rintro e w4 ⟨rfl, hb⟩
                have HB4 := Lib.hid (below_tr HB3.out hb)
                clear hb
                go_wp2_with fail
                refine (T6.out _ (by omega) _).mono ?_
                rintro e w5 ⟨rfl, hb⟩
                have HB5 := Lib.hid (below_tr HB4.out hb)
                clear hb
                go_wp2_with fail
                refine (B8_46.out _ (by omega) _).mono ?_
                rintro e w6 ⟨rfl, hb⟩
                have HB6 := Lib.hid (below_tr HB5.out hb)
                clear hb
                go_wp2_with fail
                go_ret
                exact ⟨ret_int E.out.symm, HB6.out⟩
          · skip
            have E := Lib.hid (show y = -1 by rw [HY.out, if_neg (by rw [HD.out]; simp <;> omega)])
            clear HD HY
            go_enter Tryd.func39, Tryd.ntmps39
            go_wp2_with fail
            refine (T0.out _ (by omega) _).mono ?_
            rintro e w1 ⟨rfl, hb⟩
            have HB1 := Lib.hid (below_tr HB0.out hb)
            clear hb
            go_wp2_with fail
            refine (B2_58.out _ (by omega) _).mono ?_
            rintro e w2 ⟨rfl, hb⟩
            have HB2 := Lib.hid (below_tr HB1.out hb)
            clear hb
            go_wp2_with fail
            refine (T3.out _ (by omega) _).mono ?_
            rintro e w3 ⟨rfl, hb⟩
            have HB3 := Lib.hid (below_tr HB2.out hb)
            clear hb
            go_wp2_with fail
            refine (B5_58.out _ (by omega) _).mono ?_
            rintro e w4 ⟨rfl, hb⟩
            have HB4 := Lib.hid (below_tr HB3.out hb)
            clear hb
            go_wp2_with fail
            refine (T6.out _ (by omega) _).mono ?_
            rintro e w5 ⟨rfl, hb⟩
            have HB5 := Lib.hid (below_tr HB4.out hb)
            clear hb
            go_wp2_with fail
            go_ret
            exact ⟨ret_int E.out.symm, HB5.out⟩
      · skip
        have E := Lib.hid (show y = -1 by rw [HY.out, if_neg (by rw [HD.out]; simp <;> omega)])
        clear HD HY
        go_enter Tryd.func39, Tryd.ntmps39
        go_wp2_with fail
        refine (T0.out _ (by omega) _).mono ?_
        rintro e w1 ⟨rfl, hb⟩
        have HB1 := Lib.hid (below_tr HB0.out hb)
        clear hb
        go_wp2_with fail
        refine (B2_58.out _ (by omega) _).mono ?_
        rintro e w2 ⟨rfl, hb⟩
        have HB2 := Lib.hid (below_tr HB1.out hb)
        clear hb
        go_wp2_with fail
        refine (T3.out _ (by omega) _).mono ?_
        rintro e w3 ⟨rfl, hb⟩
        have HB3 := Lib.hid (below_tr HB2.out hb)
        clear hb
        go_wp2_with fail
        go_ret
        exact ⟨ret_int E.out.symm, HB3.out⟩
  · skip
    have E := Lib.hid (show y = -1 by rw [HY.out, if_neg (by rw [HD.out]; simp <;> omega)])
    clear HD HY
    go_enter Tryd.func39, Tryd.ntmps39
    go_wp2_with fail
    refine (T0.out _ (by omega) _).mono ?_
    rintro e w1 ⟨rfl, hb⟩
    have HB1 := Lib.hid (below_tr HB0.out hb)
    clear hb
    go_wp2_with fail
    go_ret
    exact ⟨ret_int E.out.symm, HB1.out⟩
set_option maxHeartbeats 4000000 in
set_option maxRecDepth 100000 in
theorem zone_is {l : List UInt8} {s : ByteArray} {x y : Int} (i : Nat) (w : World) (hs : s = txt l) (hl : l.length ≤ 1000000) (hi : i ≤ 1000000) (hx : x = i) (hy : y = if 0 < zn l i then ((i + zn l i : Nat) : Int) else -1) :
    Calls Tryd.prog 41 #[.string s, .int .i64 x] w fun e w' => e = .returned (.int .i64 y) ∧ Below w.heap.size w w' := by
  subst hx
  obtain ⟨b0_90, hb0_90⟩ : ∃ b, b = decide (bt l i = 90) := ⟨_, rfl⟩
  have B0_90 := Lib.hid (fun (x : Int) (hx : x = (i : Nat)) w => at_is i w hs hl (by omega) hx (by decide) hb0_90)
  obtain ⟨b0_122, hb0_122⟩ : ∃ b, b = decide (bt l i = 122) := ⟨_, rfl⟩
  have B0_122 := Lib.hid (fun (x : Int) (hx : x = (i : Nat)) w => at_is i w hs hl (by omega) hx (by decide) hb0_122)
  obtain ⟨b0_43, hb0_43⟩ : ∃ b, b = decide (bt l i = 43) := ⟨_, rfl⟩
  have B0_43 := Lib.hid (fun (x : Int) (hx : x = (i : Nat)) w => at_is i w hs hl (by omega) hx (by decide) hb0_43)
  obtain ⟨b0_45, hb0_45⟩ : ∃ b, b = decide (bt l i = 45) := ⟨_, rfl⟩
  have B0_45 := Lib.hid (fun (x : Int) (hx : x = (i : Nat)) w => at_is i w hs hl (by omega) hx (by decide) hb0_45)
  obtain ⟨y1, hy1⟩ : ∃ y, y = tw l (i + 1) := ⟨_, rfl⟩
  have T1 := Lib.hid (fun (x : Int) (hx : x = ((i + 1) : Nat)) w => two_is (i + 1) w hs hl (by omega) hx hy1)
  have y1l := tw_le l (i + 1)
  rw [← hy1] at y1l
  obtain ⟨y1l, y1g⟩ := y1l
  obtain ⟨b3_58, hb3_58⟩ : ∃ b, b = decide (bt l (i + 3) = 58) := ⟨_, rfl⟩
  have B3_58 := Lib.hid (fun (x : Int) (hx : x = ((i + 3) : Nat)) w => at_is (i + 3) w hs hl (by omega) hx (by decide) hb3_58)
  obtain ⟨y4, hy4⟩ : ∃ y, y = tw l (i + 4) := ⟨_, rfl⟩
  have T4 := Lib.hid (fun (x : Int) (hx : x = ((i + 4) : Nat)) w => two_is (i + 4) w hs hl (by omega) hx hy4)
  have y4l := tw_le l (i + 4)
  rw [← hy4] at y4l
  obtain ⟨y4l, y4g⟩ := y4l
  have HC := Lib.hid (show zc (bt l i) = (b0_90 || b0_122) by rw [hb0_90, hb0_122]; unfold zc; exact Bool.decide_or _ _)
  have HS2 := Lib.hid (show zs l i = ((b0_43 || b0_45) && decide (0 ≤ y1) && b3_58 && decide (0 ≤ y4)) by rw [hb0_43, hb0_45, hy1, hy4, hb3_58, tw_dec, tw_dec, ← Bool.decide_or]; rfl)
  have ONE := Lib.hid (fun (h : (b0_90 || b0_122) = true) => show y = (i : Int) + 1 by rw [hy]; unfold zn; rw [HC.out, if_pos h]; rfl)
  have SIX := Lib.hid (fun (h : (b0_90 || b0_122) = false) (h2 : ((b0_43 || b0_45) && decide (0 ≤ y1) && b3_58 && decide (0 ≤ y4)) = true) => show y = (i : Int) + 6 by rw [hy, show zn l i = 6 by rw [zn, HC.out, if_neg (by rw [h]; simp), HS2.out, if_pos h2]]; rfl)
  have NON := Lib.hid (fun (h : (b0_90 || b0_122) = false) (h2 : ((b0_43 || b0_45) && decide (0 ≤ y1) && b3_58 && decide (0 ≤ y4)) = false) => show y = -1 by rw [hy, show zn l i = 0 by rw [zn, HC.out, if_neg (by rw [h]; simp), HS2.out, if_neg (by rw [h2]; simp)]]; rfl)
  have HB0 := Lib.hid (Below.refl w.heap.size w)
  clear hs hl hy hb0_90 hb0_122 hb0_43 hb0_45 hy1 hb3_58 hy4 HC HS2
  cases b0_90
  · skip
    cases b0_122
    · skip
      cases b0_43
      · skip
        cases b0_45
        · skip
          have E := Lib.hid (NON.out rfl (by simp <;> omega))
          clear ONE SIX NON
          go_enter Tryd.func41, Tryd.ntmps41
          go_wp2_with fail
          refine (B0_90.out _ (by omega) _).mono ?_
          rintro e w1 ⟨rfl, hb⟩
          have HB1 := Lib.hid (below_tr HB0.out hb)
          clear hb
          go_wp2_with fail
          refine (B0_122.out _ (by omega) _).mono ?_
          rintro e w2 ⟨rfl, hb⟩
          have HB2 := Lib.hid (below_tr HB1.out hb)
          clear hb
          go_wp2_with fail
          refine (B0_43.out _ (by omega) _).mono ?_
          rintro e w3 ⟨rfl, hb⟩
          have HB3 := Lib.hid (below_tr HB2.out hb)
          clear hb
          go_wp2_with fail
          refine (B0_45.out _ (by omega) _).mono ?_
          rintro e w4 ⟨rfl, hb⟩
          have HB4 := Lib.hid (below_tr HB3.out hb)
          clear hb
          go_wp2_with fail
          go_ret
          exact ⟨ret_int E.out.symm, HB4.out⟩
        · skip
          by_cases g1 : 0 ≤ y1
          · skip
            cases b3_58
            · skip
              have E := Lib.hid (NON.out rfl (by simp <;> omega))
              clear ONE SIX NON
              go_enter Tryd.func41, Tryd.ntmps41
              go_wp2_with fail
              refine (B0_90.out _ (by omega) _).mono ?_
              rintro e w1 ⟨rfl, hb⟩
              have HB1 := Lib.hid (below_tr HB0.out hb)
              clear hb
              go_wp2_with fail
              refine (B0_122.out _ (by omega) _).mono ?_
              rintro e w2 ⟨rfl, hb⟩
              have HB2 := Lib.hid (below_tr HB1.out hb)
              clear hb
              go_wp2_with fail
              refine (B0_43.out _ (by omega) _).mono ?_
              rintro e w3 ⟨rfl, hb⟩
              have HB3 := Lib.hid (below_tr HB2.out hb)
              clear hb
              go_wp2_with fail
              refine (B0_45.out _ (by omega) _).mono ?_
              rintro e w4 ⟨rfl, hb⟩
              have HB4 := Lib.hid (below_tr HB3.out hb)
              clear hb
              go_wp2_with fail
              refine (T1.out _ (by omega) _).mono ?_
              rintro e w5 ⟨rfl, hb⟩
              have HB5 := Lib.hid (below_tr HB4.out hb)
              clear hb
              go_wp2_with fail
              refine (B3_58.out _ (by omega) _).mono ?_
              rintro e w6 ⟨rfl, hb⟩
              have HB6 := Lib.hid (below_tr HB5.out hb)
              clear hb
              go_wp2_with fail
              go_ret
              exact ⟨ret_int E.out.symm, HB6.out⟩
            · skip
              by_cases g4 : 0 ≤ y4
              · skip
                have E := Lib.hid (SIX.out rfl (by simp <;> omega))
                clear ONE SIX NON
                go_enter Tryd.func41, Tryd.ntmps41
                go_wp2_with fail
                refine (B0_90.out _ (by omega) _).mono ?_
                rintro e w1 ⟨rfl, hb⟩
                have HB1 := Lib.hid (below_tr HB0.out hb)
                clear hb
                go_wp2_with fail
                refine (B0_122.out _ (by omega) _).mono ?_
                rintro e w2 ⟨rfl, hb⟩
                have HB2 := Lib.hid (below_tr HB1.out hb)
                clear hb
                go_wp2_with fail
                refine (B0_43.out _ (by omega) _).mono ?_
                rintro e w3 ⟨rfl, hb⟩
                have HB3 := Lib.hid (below_tr HB2.out hb)
                clear hb
                go_wp2_with fail
                refine (B0_45.out _ (by omega) _).mono ?_
                rintro e w4 ⟨rfl, hb⟩
                have HB4 := Lib.hid (below_tr HB3.out hb)
                clear hb
                go_wp2_with fail
                refine (T1.out _ (by omega) _).mono ?_
                rintro e w5 ⟨rfl, hb⟩
                have HB5 := Lib.hid (below_tr HB4.out hb)
                clear hb
                go_wp2_with fail
                refine (B3_58.out _ (by omega) _).mono ?_
                rintro e w6 ⟨rfl, hb⟩
                have HB6 := Lib.hid (below_tr HB5.out hb)
                clear hb
                go_wp2_with fail
                refine (T4.out _ (by omega) _).mono ?_
                rintro e w7 ⟨rfl, hb⟩
                have HB7 := Lib.hid (below_tr HB6.out hb)
                clear hb
                go_wp2_with fail
                go_ret
                exact ⟨ret_int E.out.symm, HB7.out⟩
              · skip
                have E := Lib.hid (NON.out rfl (by simp <;> omega))
                clear ONE SIX NON
                go_enter Tryd.func41, Tryd.ntmps41
                go_wp2_with fail
                refine (B0_90.out _ (by omega) _).mono ?_
                rintro e w1 ⟨rfl, hb⟩
                have HB1 := Lib.hid (below_tr HB0.out hb)
                clear hb
                go_wp2_with fail
                refine (B0_122.out _ (by omega) _).mono ?_
                rintro e w2 ⟨rfl, hb⟩
                have HB2 := Lib.hid (below_tr HB1.out hb)
                clear hb
                go_wp2_with fail
                refine (B0_43.out _ (by omega) _).mono ?_
                rintro e w3 ⟨rfl, hb⟩
                have HB3 := Lib.hid (below_tr HB2.out hb)
                clear hb
                go_wp2_with fail
                refine (B0_45.out _ (by omega) _).mono ?_
                rintro e w4 ⟨rfl, hb⟩
                have HB4 := Lib.hid (below_tr HB3.out hb)
                clear hb
                go_wp2_with fail
                refine (T1.out _ (by omega) _).mono ?_
                rintro e w5 ⟨rfl, hb⟩
                have HB5 := Lib.hid (below_tr HB4.out hb)
                clear hb
                go_wp2_with fail
                refine (B3_58.out _ (by omega) _).mono ?_
                rintro e w6 ⟨rfl, hb⟩
                have HB6 := Lib.hid (below_tr HB5.out hb)
                clear hb
                go_wp2_with fail
                refine (T4.out _ (by omega) _).mono ?_
                rintro e w7 ⟨rfl, hb⟩
                have HB7 := Lib.hid (below_tr HB6.out hb)
                clear hb
                go_wp2_with fail
                go_ret
                exact ⟨ret_int E.out.symm, HB7.out⟩
          · skip
            have E := Lib.hid (NON.out rfl (by simp <;> omega))
            clear ONE SIX NON
            go_enter Tryd.func41, Tryd.ntmps41
            go_wp2_with fail
            refine (B0_90.out _ (by omega) _).mono ?_
            rintro e w1 ⟨rfl, hb⟩
            have HB1 := Lib.hid (below_tr HB0.out hb)
            clear hb
            go_wp2_with fail
            refine (B0_122.out _ (by omega) _).mono ?_
            rintro e w2 ⟨rfl, hb⟩
            have HB2 := Lib.hid (below_tr HB1.out hb)
            clear hb
            go_wp2_with fail
            refine (B0_43.out _ (by omega) _).mono ?_
            rintro e w3 ⟨rfl, hb⟩
            have HB3 := Lib.hid (below_tr HB2.out hb)
            clear hb
            go_wp2_with fail
            refine (B0_45.out _ (by omega) _).mono ?_
            rintro e w4 ⟨rfl, hb⟩
            have HB4 := Lib.hid (below_tr HB3.out hb)
            clear hb
            go_wp2_with fail
            refine (T1.out _ (by omega) _).mono ?_
            rintro e w5 ⟨rfl, hb⟩
            have HB5 := Lib.hid (below_tr HB4.out hb)
            clear hb
            go_wp2_with fail
            go_ret
            exact ⟨ret_int E.out.symm, HB5.out⟩
      · skip
        by_cases g1 : 0 ≤ y1
        · skip
          cases b3_58
          · skip
            have E := Lib.hid (NON.out rfl (by simp <;> omega))
            clear ONE SIX NON
            go_enter Tryd.func41, Tryd.ntmps41
            go_wp2_with fail
            refine (B0_90.out _ (by omega) _).mono ?_
            rintro e w1 ⟨rfl, hb⟩
            have HB1 := Lib.hid (below_tr HB0.out hb)
            clear hb
            go_wp2_with fail
            refine (B0_122.out _ (by omega) _).mono ?_
            rintro e w2 ⟨rfl, hb⟩
            have HB2 := Lib.hid (below_tr HB1.out hb)
            clear hb
            go_wp2_with fail
            refine (B0_43.out _ (by omega) _).mono ?_
            rintro e w3 ⟨rfl, hb⟩
            have HB3 := Lib.hid (below_tr HB2.out hb)
            clear hb
            go_wp2_with fail
            refine (T1.out _ (by omega) _).mono ?_
            rintro e w4 ⟨rfl, hb⟩
            have HB4 := Lib.hid (below_tr HB3.out hb)
            clear hb
            go_wp2_with fail
            refine (B3_58.out _ (by omega) _).mono ?_
            rintro e w5 ⟨rfl, hb⟩
            have HB5 := Lib.hid (below_tr HB4.out hb)
            clear hb
            go_wp2_with fail
            go_ret
            exact ⟨ret_int E.out.symm, HB5.out⟩
          · skip
            by_cases g4 : 0 ≤ y4
            · skip
              have E := Lib.hid (SIX.out rfl (by simp <;> omega))
              clear ONE SIX NON
              go_enter Tryd.func41, Tryd.ntmps41
              go_wp2_with fail
              refine (B0_90.out _ (by omega) _).mono ?_
              rintro e w1 ⟨rfl, hb⟩
              have HB1 := Lib.hid (below_tr HB0.out hb)
              clear hb
              go_wp2_with fail
              refine (B0_122.out _ (by omega) _).mono ?_
              rintro e w2 ⟨rfl, hb⟩
              have HB2 := Lib.hid (below_tr HB1.out hb)
              clear hb
              go_wp2_with fail
              refine (B0_43.out _ (by omega) _).mono ?_
              rintro e w3 ⟨rfl, hb⟩
              have HB3 := Lib.hid (below_tr HB2.out hb)
              clear hb
              go_wp2_with fail
              refine (T1.out _ (by omega) _).mono ?_
              rintro e w4 ⟨rfl, hb⟩
              have HB4 := Lib.hid (below_tr HB3.out hb)
              clear hb
              go_wp2_with fail
              refine (B3_58.out _ (by omega) _).mono ?_
              rintro e w5 ⟨rfl, hb⟩
              have HB5 := Lib.hid (below_tr HB4.out hb)
              clear hb
              go_wp2_with fail
              refine (T4.out _ (by omega) _).mono ?_
              rintro e w6 ⟨rfl, hb⟩
              have HB6 := Lib.hid (below_tr HB5.out hb)
              clear hb
              go_wp2_with fail
              go_ret
              exact ⟨ret_int E.out.symm, HB6.out⟩
            · skip
              have E := Lib.hid (NON.out rfl (by simp <;> omega))
              clear ONE SIX NON
              go_enter Tryd.func41, Tryd.ntmps41
              go_wp2_with fail
              refine (B0_90.out _ (by omega) _).mono ?_
              rintro e w1 ⟨rfl, hb⟩
              have HB1 := Lib.hid (below_tr HB0.out hb)
              clear hb
              go_wp2_with fail
              refine (B0_122.out _ (by omega) _).mono ?_
              rintro e w2 ⟨rfl, hb⟩
              have HB2 := Lib.hid (below_tr HB1.out hb)
              clear hb
              go_wp2_with fail
              refine (B0_43.out _ (by omega) _).mono ?_
              rintro e w3 ⟨rfl, hb⟩
              have HB3 := Lib.hid (below_tr HB2.out hb)
              clear hb
              go_wp2_with fail
              refine (T1.out _ (by omega) _).mono ?_
              rintro e w4 ⟨rfl, hb⟩
              have HB4 := Lib.hid (below_tr HB3.out hb)
              clear hb
              go_wp2_with fail
              refine (B3_58.out _ (by omega) _).mono ?_
              rintro e w5 ⟨rfl, hb⟩
              have HB5 := Lib.hid (below_tr HB4.out hb)
              clear hb
              go_wp2_with fail
              refine (T4.out _ (by omega) _).mono ?_
              rintro e w6 ⟨rfl, hb⟩
              have HB6 := Lib.hid (below_tr HB5.out hb)
              clear hb
              go_wp2_with fail
              go_ret
              exact ⟨ret_int E.out.symm, HB6.out⟩
        · skip
          have E := Lib.hid (NON.out rfl (by simp <;> omega))
          clear ONE SIX NON
          go_enter Tryd.func41, Tryd.ntmps41
          go_wp2_with fail
          refine (B0_90.out _ (by omega) _).mono ?_
          rintro e w1 ⟨rfl, hb⟩
          have HB1 := Lib.hid (below_tr HB0.out hb)
          clear hb
          go_wp2_with fail
          refine (B0_122.out _ (by omega) _).mono ?_
          rintro e w2 ⟨rfl, hb⟩
          have HB2 := Lib.hid (below_tr HB1.out hb)
          clear hb
          go_wp2_with fail
          refine (B0_43.out _ (by omega) _).mono ?_
          rintro e w3 ⟨rfl, hb⟩
          have HB3 := Lib.hid (below_tr HB2.out hb)
          clear hb
          go_wp2_with fail
          refine (T1.out _ (by omega) _).mono ?_
          rintro e w4 ⟨rfl, hb⟩
          have HB4 := Lib.hid (below_tr HB3.out hb)
          clear hb
          go_wp2_with fail
          go_ret
          exact ⟨ret_int E.out.symm, HB4.out⟩
    · skip
      have E := Lib.hid (ONE.out rfl)
      clear ONE SIX NON
      go_enter Tryd.func41, Tryd.ntmps41
      go_wp2_with fail
      refine (B0_90.out _ (by omega) _).mono ?_
      rintro e w1 ⟨rfl, hb⟩
      have HB1 := Lib.hid (below_tr HB0.out hb)
      clear hb
      go_wp2_with fail
      refine (B0_122.out _ (by omega) _).mono ?_
      rintro e w2 ⟨rfl, hb⟩
      have HB2 := Lib.hid (below_tr HB1.out hb)
      clear hb
      go_wp2_with fail
      go_ret
      exact ⟨ret_int E.out.symm, HB2.out⟩
  · skip
    have E := Lib.hid (ONE.out (by simp))
    clear ONE SIX NON
    go_enter Tryd.func41, Tryd.ntmps41
    go_wp2_with fail
    refine (B0_90.out _ (by omega) _).mono ?_
    rintro e w1 ⟨rfl, hb⟩
    have HB1 := Lib.hid (below_tr HB0.out hb)
    clear hb
    go_wp2_with fail
    go_ret
    exact ⟨ret_int E.out.symm, HB1.out⟩
end Da
end Go.Proofs.YtgmlbcdakblpiaaDoor
