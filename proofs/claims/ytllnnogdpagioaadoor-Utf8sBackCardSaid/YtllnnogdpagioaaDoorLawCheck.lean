/- The law Utf8sCheck, walked: it answers true, and nothing that was there is turned. -/
import Derived.Test.YtllnnogdpagioaaDoorRefRunes
import Derived.Test.YtllnnogdpagioaaDoorTwin
import Derived.Test.YtllnnogdpagioaaDoorOwn
namespace Go.Proofs.YtllnnogdpagioaaDoor
open Go.RowKit

theorem own_row {w : World} {base g N : Nat} {e : TypeId} {xs : List Value} (h : w.ownsRow base e 1 (.slice (some ⟨g, 0, none⟩) N N) N xs) : ∃ f, w.rowIs g e N f := by
  rcases h.2 with ⟨h', _⟩ | ⟨g', cap, cur, h', _, hg, _, _, hs, _⟩
  · cases h'
  · injection h' with e1 e2 e3
    injection e1 with e1
    injection e1 with e1
    subst e1; subst e3
    refine ⟨fun i => cur[i]?.getD (.bool false), cur, hg, by omega, fun i hi => ?_⟩
    have : i < cur.size := by omega
    simp [this]
/-- Two rows of one's own, and the list of both, as the law hands them over. -/
theorem own_start {B g1 g2 N M : Nat} {e t : TypeId} {u1 u2 : Value} {w2 w4 : World} {f1 f2 : Nat → Value} (h1 : w2.rowIs g1 e N f1) (hb : Below w2.heap.size w2 w4) (h2 : w4.rowIs g2 e M f2) :
    OSt B g1 g2 w4.heap.size N M e u1 u2 (w4.alloc (.cells #[.slice (some ⟨g1, 0, none⟩) N N, .slice (some ⟨g2, 0, none⟩) M M] t)) (w4.alloc (.cells #[.slice (some ⟨g1, 0, none⟩) N N, .slice (some ⟨g2, 0, none⟩) M M] t)) 0 0 :=
  ⟨⟨by rw [World.cell?_alloc_at _ _ _ _ rfl]; rfl, by rw [World.cell?_alloc_at _ _ _ _ rfl]; rfl⟩,
    ⟨f1, (h1.of_block (hb.block g1 h1.lt)).alloc _, fun j hj => absurd hj (by omega)⟩, ⟨f2, h2.alloc _, fun j hj => absurd hj (by omega)⟩, Below.refl _ _⟩

theorem lawcheck_long {l : List UInt8} {A : Option Addr} {n c : Nat} {w : World} (ha : ArgB w A n c l) (hT : Tab w) (h : 2000 < n) :
    Calls Tryd.prog 3 #[.slice A n c] w fun e w' => e = .returned (.bool true) ∧ Below w.heap.size w w' := by
  obtain ⟨_, h1, h2, _⟩ := ha
  unfold maxLen at h2
  have HT := Lib.hid hT
  clear hT
  have h' : (2000 : Int) < n := by omega
  go_enter Tryd.func3, Tryd.ntmps3
  go_wp2_with (go_at_call 9; refine (lives_tab HT.out).mono ?_; rintro e w' ⟨rfl, hb⟩)
  go_ret
  exact ⟨rfl, hb⟩

set_option maxHeartbeats 2000000 in
theorem lawcheck_short {l : List UInt8} {A : Option Addr} {n c : Nat} {w : World} (ha : ArgB w A n c l) (hT : Tab w) (h : n ≤ 2000) :
    Calls Tryd.prog 3 #[.slice A n c] w fun e w' => e = .returned (.bool true) ∧ Below w.heap.size w w' := by
  have HT := Lib.hid hT
  have Ha := Lib.hid ha
  obtain ⟨hn, hnc, hcm, hA, _⟩ := ha
  have hcm' := hcm
  unfold maxLen at hcm'
  have Hn := Lib.hid hn
  have h' : ¬ (2000 : Int) < n := by omega
  have h1 := hT.2.2
  obtain ⟨N, HN⟩ : ∃ N, Hid (N = (rns l).length) := ⟨_, rfl⟩
  have hN : N ≤ 2000 := by have := HN.out; have := rns_le l; have := scn_le l; omega
  clear hT hn
  go_enter Tryd.func3, Tryd.ntmps3
  go_wp2_with fail
  refine (twin_any Ha.out (by omega)).mono ?_
  rintro e w1 ⟨rfl, hB1, hb1, hs1⟩
  have hB1l := hB1.front
  have hA1 := hA.below hb1
  have HT1 := Lib.hid (HT.out.below hb1 h1)
  go_wp2_with fail
  refine (check_any n (n + 3) Hn.out (by omega) hB1l (by unfold maxLen; omega)).mono ?_
  rintro e w' ⟨rfl, rfl⟩
  go_wp2_with fail
  refine (rcheck_any n c Hn.out hnc hA1 hcm).mono ?_
  rintro e w' ⟨rfl, rfl⟩
  go_wp2_with fail
  refine (runes_is n (n + 3) w1.heap.size N Hn.out (by omega) hB1l (Nat.le_refl _) (by unfold maxLen; omega) (by omega) HT1.out.1 (by omega) rfl rfl HN.out).mono ?_
  rintro e w2 ⟨rfl, hown2, hb2⟩
  have hs2 := (hown2.lt _ rfl).2
  obtain ⟨f1, hr1⟩ := own_row hown2
  have hNum2 := own_num hown2
  have hb12 : Below w.heap.size w w2 := hb1.trans (hb2.mono (Nat.le_of_lt hs1))
  have hA2 := hA.below hb12
  clear hA1 hb1
  go_wp2_with fail
  refine (rrunes_any n c Hn.out hnc (hA2.more hb12.size) hcm (by omega)).mono ?_
  rintro e w3 ⟨A3, N3, c3, rfl, hN3, hNc3, hc3, hNum3, hb3⟩
  have HN3 := Lib.hid hN3
  clear hN3
  go_wp2_with fail
  refine (samen_is (p := true) _ _ _ _ HN.out (Lst.below hNum2 hb3) HN3.out hNum3 (by unfold maxLen; omega) (by unfold maxLen at *; omega) (by simp)).mono ?_
  rintro e w3' ⟨rfl, q3, rfl⟩
  have hb3' : Below w2.heap.size w2 (w3.drewN q3) := below_drewN hb3 q3
  clear hNum2 hNum3
  go_wp2_with fail
  refine (left_any _ _ Hn.out ((hB1.below (hb2.mono (Nat.le_refl _))).below (hb3'.mono hb2.size)) (hA2.below (hb3'.mono hb12.size)) (by omega)).mono ?_
  rintro e w' ⟨rfl, rfl⟩
  have hb13 : Below w.heap.size w (w3.drewN q3) := hb12.trans (hb3'.mono hb12.size)
  have hs3 : w2.heap.size ≤ w3.heap.size := hb3.size
  have hB3l := ((hB1l.below (hb2.mono (Nat.le_refl _))).below (hb3'.mono hb2.size)).more (show w1.heap.size ≤ (w3.drewN q3).heap.size from Nat.le_trans (Nat.le_of_lt hs2) hs3)
  have HT3 := Lib.hid (HT.out.below hb13 h1)
  have Hr1 := Lib.hid hr1
  clear hB1 hB1l hA2 hb2 hb3 hown2 hr1 hb12
  go_wp2_with fail
  refine (runes_is n (n + 3) w3.heap.size N Hn.out (by omega) hB3l (Nat.le_refl _) (by unfold maxLen; omega) (by omega) HT3.out.1 (by have := HT3.out.2.2; omega) rfl rfl HN.out).mono ?_
  rintro e w4 ⟨rfl, hown4, hb4⟩
  have hs4 : w3.heap.size < w4.heap.size := (hown4.lt _ rfl).2
  obtain ⟨f2, hr2⟩ := own_row hown4
  have hb24 : Below w2.heap.size w2 w4 := hb3'.trans (hb4.mono hs3)
  have hb14 : Below w.heap.size w w4 := hb13.trans (hb4.mono hb13.size)
  have HO := Lib.hid (own_start (t := 27) (u1 := .int .i64 (-1)) (u2 := .int .i64 (-2)) (B := w.heap.size) Hr1.out hb24 hr2)
  clear hr2 hb24 hown4 hb4 hb3' hb13 hB3l
  go_wp2_with fail
  refine (ownn_any HO.out (by omega) (by omega) (by omega) (by omega) (by omega) (by omega) (by omega)).mono ?_
  rintro e w5 ⟨rfl, hb5⟩
  have hb15 : Below w.heap.size w w5 := (hb14.alloc hb14.size _).trans hb5
  have HT5 := Lib.hid (HT.out.below hb15 h1)
  clear hb5 hb14
  go_wp2_with fail
  refine (lives_tab HT5.out).mono ?_
  rintro e w6 ⟨rfl, hb6⟩
  go_wp2_with fail
  go_ret
  exact ⟨rfl, hb15.trans (hb6.mono hb15.size)⟩
/-- The law Utf8sCheck. -/
theorem lawcheck_any {l : List UInt8} {A : Option Addr} {n c : Nat} {w : World} (ha : ArgB w A n c l) (hT : Tab w) :
    Calls Tryd.prog 3 #[.slice A n c] w fun e w' => e = .returned (.bool true) ∧ Below w.heap.size w w' := by
  by_cases h : 2000 < n
  · exact lawcheck_long ha hT h
  · exact lawcheck_short ha hT (by omega)
end Go.Proofs.YtllnnogdpagioaaDoor
