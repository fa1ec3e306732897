/- What landed of paths: Cmp, Begins. -/
import Derived.Test.YtoebhnhiljlljaaDoorPh
namespace Go.Proofs.YtoebhnhiljlljaaDoor
open Go.RowKit
namespace Pa
set_option maxRecDepth 100000

theorem icmp_nat (n m : Nat) : icmp n m = ncmp n m := by
  unfold icmp ncmp
  rcases Nat.lt_trichotomy n m with h | h | h
  · rw [if_pos (by omega), if_pos h]
  · rw [if_neg (by omega), if_neg (by omega), if_neg (by omega), if_neg (by omega)]
  · rw [if_neg (by omega), if_pos (by omega), if_neg (by omega), if_pos h]
theorem begins_any {A B : Option Addr} {n m c d : Nat} {L M : List St} (w : World) (h : Sm w A n c L) (h' : Sm w B m d M) :
    Calls Tryd.prog 20 #[.slice A n c, .slice B m d] w fun e w' => e = .returned (.bool (decide (M <+: L))) ∧ Below w.heap.size w w' := by
  have CS := Lib.hid (shared_any w h h')
  have HM := Lib.hid h'.len
  obtain ⟨R, hR⟩ : ∃ R, R = shr L M := ⟨_, rfl⟩
  rw [← hR] at CS
  have HE := Lib.hid (show decide (R = m) = decide (M <+: L) by rw [Bool.eq_iff_iff]; simp only [decide_eq_true_eq]; rw [hR, HM.out]; exact shr_all)
  clear h h' hR
  go_enter Tryd.func20, Tryd.ntmps20
  go_wp2_with fail
  refine CS.out.mono ?_
  rintro e w1 ⟨rfl, hb⟩
  go_wp2_with fail
  go_ret
  exact ⟨ret_bool (by rw [← HE.out, Bool.eq_iff_iff]; simp; omega), hb⟩
set_option maxHeartbeats 4000000 in
theorem cmp_any {A B : Option Addr} {n m c d : Nat} {L M : List St} (w : World) (h : Sm w A n c L) (h' : Sm w B m d M) :
    Calls Tryd.prog 18 #[.slice A n c, .slice B m d] w fun e w' => e = .returned (.int .i64 (oN (pC L M))) ∧ Below w.heap.size w w' := by
  have CS := Lib.hid (shared_any w h h')
  have HS := Lib.hid h
  have HT := Lib.hid h'
  have HN := Lib.hid h.len
  have HM := Lib.hid h'.len
  have CI := Lib.hid (ints_any n m)
  have HL := Lib.hid (shr_le L M)
  obtain ⟨R, hR⟩ : ∃ R, R = oN (pC L M) := ⟨_, rfl⟩
  rw [← hR]
  obtain ⟨r, hr⟩ : ∃ r, r = shr L M := ⟨_, rfl⟩
  rw [pC_shr, ← hr, ← HN.out, ← HM.out] at hR
  rw [← hr, ← HN.out, ← HM.out] at HL
  rw [← hr] at CS
  have hl := HL.out
  have HR := Lib.hid hR
  have hn5 : n ≤ 9223372036854775807 := by have := h.cap; unfold maxLen at this; omega
  have hm5 : m ≤ 9223372036854775807 := by have := h'.cap; unfold maxLen at this; omega
  clear h h' hR hr
  go_enter Tryd.func18, Tryd.ntmps18
  go_wp2_with fail
  refine CS.out.mono ?_
  rintro e w1 ⟨rfl, hb⟩
  by_cases hlt : r < n ∧ r < m
  · obtain ⟨h1, h2⟩ := hlt
    obtain ⟨g, o, s, rfl, hg, hs, _, c0, c1, c2, c3⟩ := (HS.out.on hb).at_ h1
    obtain ⟨g', o', s', rfl, hg', hs', _, b0, b1, b2, b3⟩ := (HT.out.on hb).at_ h2
    have HE := Lib.hid (show R = oN (cS s s') by rw [HR.out, hs, hs'])
    have HB := Lib.hid hb
    have J0 := fun q : Kept w1 => q.cell c0
    have J1 := fun q : Kept w1 => q.cell c1
    have J2 := fun q : Kept w1 => q.cell c2
    have J3 := fun q : Kept w1 => q.cell c3
    have J4 := fun q : Kept w1 => q.cell b0
    have J5 := fun q : Kept w1 => q.cell b1
    have J6 := fun q : Kept w1 => q.cell b2
    have J7 := fun q : Kept w1 => q.cell b3
    have CO := Lib.hid (fun q : Kept w1 => order_any s s' q.wx)
    clear c0 c1 c2 c3 b0 b1 b2 b3
    clear hs hs' hb
    go_upto_region 3 with fail
    refine reg_lit (C := fun wx => ∃ s : Kept w1, wx = s.wx) (by kernel_rfl) (by kernel_rfl) ⟨⟨_, (Below.refl _ _).drew⟩, rfl⟩ ?_
    iterate 8 (go_big_quiet_step (fail))
    go_big_quiet_want
    go_big_quiet_op
    refine ⟨.int .i64 (oN (cS s s')), fun q => (CO.out q).mono ?_, ?_⟩
    · rintro e w3 ⟨rfl, hb⟩; exact Kept.out hb
    go_big_quiet_on
    iterate 1 (go_big_quiet_step (fail))
    refine wpQuiet_nil ?_
    rintro wc ⟨⟨wx, ox0⟩, e⟩
    have HC := Lib.hid (show Below w1.heap.size w1 wc from by rw [e]; exact ox0)
    clear e ox0 J0 J1 J2 J3 J4 J5 J6 J7 CO
    go_wp2_with fail
    go_ret
    exact ⟨ret_int HE.out.symm, below_tr HB.out HC.out⟩
  · have HE := Lib.hid (show R = oN (icmp n m) by
      rw [HR.out, icmp_nat]
      rcases Nat.lt_or_ge r n with h1 | h1
      · rw [List.getElem?_eq_none (l := M) (by rw [← HM.out]; omega)]
        cases L[r]? <;> rfl
      · rw [List.getElem?_eq_none (l := L) (by rw [← HN.out]; omega)])
    have HB := Lib.hid hb
    by_cases h1 : r < n
    · have h2 : ¬ (r : Int) < m := by omega
      clear hb
      go_wp2_with fail
      refine (CI.out _).mono ?_
      rintro e w2 ⟨rfl, rfl⟩
      go_wp2_with fail
      go_ret
      exact ⟨ret_int HE.out.symm, HB.out⟩
    · have h2 : ¬ (r : Int) < n := by omega
      clear hb
      go_wp2_with fail
      refine (CI.out _).mono ?_
      rintro e w2 ⟨rfl, rfl⟩
      go_wp2_with fail
      go_ret
      exact ⟨ret_int HE.out.symm, HB.out⟩
end Pa
end Go.Proofs.YtoebhnhiljlljaaDoor
