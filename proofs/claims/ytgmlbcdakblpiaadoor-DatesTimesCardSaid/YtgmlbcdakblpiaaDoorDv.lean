/- What landed: the normal form of parts. -/
import Derived.Test.YtgmlbcdakblpiaaDoorDu
namespace Go.Proofs.YtgmlbcdakblpiaaDoor
open Go.RowKit
namespace Da

theorem stp_len (l : List UInt8) : (stp l).length ≤ l.length := by
  unfold stp
  split
  · simp
  · exact st0_len l
theorem wo_of {w W wr : World} {a b c d : ByteArray} (hW : W = w.alloc (wo a b c d)) (h : Below W.heap.size W wr) :
    (wr.cell? ⟨w.heap.size, 0, none⟩ = some (.string a) ∧ wr.cell? ⟨w.heap.size, 1, none⟩ = some (.string b) ∧ wr.cell? ⟨w.heap.size, 2, none⟩ = some (.string c) ∧ wr.cell? ⟨w.heap.size, 3, none⟩ = some (.string d)) ∧ Below w.heap.size w wr := by
  subst hW; exact wo_cells h
set_option maxHeartbeats 8000000 in
set_option maxRecDepth 100000 in
theorem normal_is {D T F Z : List UInt8} {A B C E N : ByteArray} (w : World) (h : Sh D T F Z) (hl : F.length ≤ 1000000) (hA : A = txt D) (hB : B = txt T) (hC : C = txt F) (hE : E = txt Z) (hN : N = txt (nm D T F Z)) :
    Calls Tryd.prog 20 #[wv A B C E] w fun e w' => e = .returned (.string N) ∧ Below w.heap.size w w' := by
  obtain ⟨i0, hi, hz0, hz1, hz2⟩ := info_parts (show (Tryd.prog.info? 5).map (fun i => (i.zero, i.size, i.bytes)) = some (some (.int .u8 0), 1, 1) by kernel_rfl)
  have ea := txt_empty hA
  have eb := txt_empty hB
  have dl : D.length ≤ 10 := by
    by_cases d : D = []
    · rw [d]; simp
    · rw [(h.d d).1]; omega
  have tl : T.length ≤ 8 := by
    by_cases d : T = []
    · rw [d]; simp
    · rw [(h.t d).1]; omega
  have zl : Z.length ≤ 6 := by
    by_cases d : Z = []
    · rw [d]; simp
    · rcases (h.z d).2.2 with ⟨e, _⟩ | ⟨e, _⟩ <;> omega
  have hF : F = [] ∨ ft F := by
    by_cases d : F = []
    · exact .inl d
    · exact .inr (h.f d).2
  have sfl := stp_len F
  have za : A.size ≤ 10 := by rw [hA, txt_size]; exact dl
  have zb : B.size ≤ 8 := by rw [hB, txt_size]; exact tl
  obtain ⟨G, hG⟩ : ∃ G, G = txt (st0 F) := ⟨_, rfl⟩
  obtain ⟨H, hH⟩ : ∃ G, G = txt (stp F) := ⟨_, rfl⟩
  obtain ⟨V, hV⟩ : ∃ G, G = txt (Z.map up) := ⟨_, rfl⟩
  have zh : H.size ≤ 1000000 := by rw [hH, txt_size]; omega
  have zv : V.size ≤ 6 := by rw [hV, txt_size, List.length_map]; exact zl
  have C1 := Lib.hid (fun w => trr_is w hC hl hG)
  have C2 := Lib.hid (fun w => tsf_is w hF hG hl hH)
  have C3 := Lib.hid (fun w => toUpper_is w (fun z => (h.z z).2.2) hE hV)
  have HN := Lib.hid hN
  have HAB := Lib.hid (And.intro hA hB)
  have HHV := Lib.hid (And.intro hH hV)
  obtain ⟨W, hW⟩ : ∃ W, W = w.alloc (wo A B C E) := ⟨_, rfl⟩
  have HW := Lib.hid hW
  have ml : (md D T 84).length ≤ 1 := by unfold md; split <;> simp
  clear h hl hF hG hH hV hN hA hB hC hE sfl hW
  go_enter Tryd.func20, Tryd.ntmps20
  go_upto_region 2 with fail
  rw [← HW.out]
  obtain ⟨⟨c0, c1, c2, c3⟩, hbw⟩ := wo_of HW.out (Below.refl _ _)
  clear hbw
  go_upto_region 3 with (at_builtin; refine Lib.wpList_append_own_string _ rfl (.tmp 4) (.tmp 6) 55 9 rfl W.heap.size 5 i0 Tryd.underlying55 Tryd.underlying9 hi hz0 hz1 hz2 (.slice none 0 0) 0 [] rfl (World.ownsRow_nil _ _ 5 1) A rfl (by unfold maxLen; omega) (by omega) (Nat.le_refl _) ?_; intro va w2 hown2 hg2 _)
  have R1 := Lib.hid (NR.start.str HAB.out.1 hown2 hg2)
  rw [List.nil_append] at R1
  clear hown2 hg2 c0 c1 c2 c3
  obtain ⟨⟨c0, c1, c2, c3⟩, hbw⟩ := wo_of HW.out R1.out.2
  clear hbw
  obtain ⟨q, hq⟩ : ∃ q, q = decide (D ≠ [] ∧ T ≠ []) := ⟨_, rfl⟩
  have HQ := Lib.hid hq
  go_cut [3, 15] (fun v x wx => va = v ∧ x = .bool q ∧ w2 = wx)
  case first =>
    by_cases d : D = []
    · have E1 := Lib.hid (show q = false by rw [hq]; simp [d])
      rw [decide_eq_true d] at ea
      clear d hq
      go_wp2_with fail
      go_meet
      exact ⟨rfl, by rw [E1.out], rfl⟩
    · rw [decide_eq_false d] at ea
      by_cases t : T = []
      · have E1 := Lib.hid (show q = false by rw [hq]; simp [t])
        rw [decide_eq_true t] at eb
        clear d t hq
        go_wp2_with fail
        go_meet
        exact ⟨rfl, by rw [E1.out], rfl⟩
      · have E1 := Lib.hid (show q = true by rw [hq]; simp [d, t])
        rw [decide_eq_false t] at eb
        clear d t hq
        go_wp2_with fail
        go_meet
        exact ⟨rfl, by rw [E1.out], rfl⟩
  case rest =>
    obtain ⟨rfl, rfl, rfl⟩ := hcut
    clear hq ea eb
    go_upto_if 15 with fail
    go_cut [3] (fun x wx => NR W wx (D ++ md D T 84) x)
    case first =>
      cases q
      · have E1 := Lib.hid (show NR W w2 (D ++ md D T 84) va by rw [md, if_neg (fun h => by have := HQ.out; rw [decide_eq_true h] at this; cases this), List.append_nil]; exact R1.out)
        go_wp2_with fail
        go_meet
        exact E1.out
      · have HM := Lib.hid (show md D T 84 = [84] by rw [md, if_pos (of_decide_eq_true HQ.out.symm)])
        go_wp2_with (at_builtin; (refine wpApp _ rfl (.tmp 16) (.tmp 17) 55 rfl W.heap.size 5 i0 (.int .u8 0) 1 Tryd.underlying55 hi hz0 hz1 hz2 rfl va D.length (bytV D) rfl (R1.out.1.alloc _) (some ⟨w2.heap.size, 0, none⟩) 1 1 _ [84] rfl rfl (cells_one' 84 84 (by decide)) (fun h => by cases h) (by unfold maxLen; omega) (by omega) (by have := R1.out.2.size; simp; omega) ?_); intro v3 w3 hown3 hg3 _)
        have R2 := Lib.hid (NR.app (u := [84]) R1.out hown3 hg3)
        clear hown3 hg3
        go_meet
        rw [HM.out]
        exact R2.out
    case rest =>
      have R2 := Lib.hid hcut
      clear hcut R1 c0 c1 c2 c3
      obtain ⟨⟨c0, c1, c2, c3⟩, hbw⟩ := wo_of HW.out R2.out.2
      clear hbw
      obtain ⟨t2, ht2⟩ : ∃ t, t = D ++ md D T 84 := ⟨_, rfl⟩
      have zt2 : t2.length ≤ 11 := by rw [ht2, List.length_append]; omega
      have HT2 := Lib.hid ht2
      rw [← ht2] at R2
      clear ht2
      go_upto_region 6 with (at_builtin; (refine Lib.wpList_append_own_string _ rfl (.tmp 19) (.tmp 21) 55 9 rfl W.heap.size 5 i0 Tryd.underlying55 Tryd.underlying9 hi hz0 hz1 hz2 u3 t2.length (bytV t2) rfl R2.out.1 B rfl (by unfold maxLen; omega) (by omega) R2.out.2.size ?_); intro v4 w4 hown4 hg4 _)
      have R3 := Lib.hid (R2.out.str HAB.out.2 hown4 hg4)
      clear hown4 hg4 c0 c1 c2 c3
      obtain ⟨⟨c0, c1, c2, c3⟩, hbw⟩ := wo_of HW.out R3.out.2
      clear hbw
      obtain ⟨t3, ht3⟩ : ∃ t, t = t2 ++ T := ⟨_, rfl⟩
      have zt3 : t3.length ≤ 19 := by rw [ht3, List.length_append]; omega
      have HT3 := Lib.hid ht3
      rw [← ht3] at R3
      clear ht3
      go_upto_region 7 with (first
        | (go_at_call 16; refine (C1.out _).mono ?_; rintro e w' ⟨rfl, rfl⟩)
        | (go_at_call 36; refine (C2.out _).mono ?_; rintro e w' ⟨rfl, rfl⟩)
        | (at_builtin; refine Lib.wpList_append_own_string _ rfl (.tmp 23) (.tmp 27) 55 9 rfl W.heap.size 5 i0 Tryd.underlying55 Tryd.underlying9 hi hz0 hz1 hz2 v4 t3.length (bytV t3) rfl R3.out.1 H rfl (by unfold maxLen; omega) (by omega) R3.out.2.size ?_; intro v5 w5 hown5 hg5 _))
      have R4 := Lib.hid (R3.out.str HHV.out.1 hown5 hg5)
      clear hown5 hg5 c0 c1 c2 c3
      obtain ⟨⟨c0, c1, c2, c3⟩, hbw⟩ := wo_of HW.out R4.out.2
      clear hbw
      obtain ⟨t4, ht4⟩ : ∃ t, t = t3 ++ stp F := ⟨_, rfl⟩
      have zt4 : t4.length ≤ 1000019 := by
        have := congrArg List.length ht4
        rw [List.length_append] at this
        have e2 : (stp F).length = H.size := by rw [HHV.out.1, txt_size]
        omega
      have HT4 := Lib.hid ht4
      rw [← ht4] at R4
      clear ht4
      go_wp2_with fail
      refine (C3.out _).mono ?_
      rintro e w6 ⟨rfl, hb⟩
      have R5 := Lib.hid (R4.out.call hb)
      clear hb c0 c1 c2 c3
      go_wp2_with (at_builtin; refine Lib.wpList_append_own_string _ rfl (.tmp 29) (.tmp 32) 55 9 rfl W.heap.size 5 i0 Tryd.underlying55 Tryd.underlying9 hi hz0 hz1 hz2 v5 t4.length (bytV t4) rfl R5.out.1 V rfl (by unfold maxLen; omega) (by omega) R5.out.2.size ?_; intro v7 w7 hown7 hg7 _; have R6 := Lib.hid (R5.out.str HHV.out.2 hown7 hg7); obtain ⟨ad, n, c, rfl, hcv⟩ := R6.out.conv; clear hown7 hg7)
      have EN := Lib.hid (show N = txt (t4 ++ Z.map up) by
        rw [HN.out, HT4.out, HT3.out, HT2.out, nm, asm]; congr 1; simp)
      have HBW := Lib.hid (wo_of HW.out R6.out.2).2
      go_ret
      exact ⟨by rw [EN.out]; rfl, HBW.out⟩
end Da
end Go.Proofs.YtgmlbcdakblpiaaDoor
