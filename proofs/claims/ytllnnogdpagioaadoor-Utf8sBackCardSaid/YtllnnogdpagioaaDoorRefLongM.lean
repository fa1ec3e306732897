/- How many bytes the rune has that bytes begin with, as the document's answer goes about it: byte by byte behind the first one, then the four firsts that bound the second one. -/
import Derived.Test.YtllnnogdpagioaaDoorLists
namespace Go.Proofs.YtllnnogdpagioaaDoor
open Go.RowKit

/-- The second byte is one that the first one does not let stand. -/
def spc (c x : Int) : Prop := c = 224 ∧ x < 160 ∨ c = 237 ∧ 159 < x ∨ c = 240 ∧ x < 144 ∨ c = 244 ∧ 143 < x
theorem lohi_spc {c x : Int} (h : wth x 128 191 = true) : wth x (lo1 c) (hi1 c) = true ↔ ¬ spc c x := by
  have := wth_true h
  unfold spc lo1 hi1 wth
  simp only [Bool.and_eq_true, decide_eq_true_eq]
  repeat' split
  all_goals omega
theorem lng_fail {l : List UInt8} {m k : Nat} (h : bhd (bt l 0) = m) (h1 : 1 ≤ k) (hk : k ≤ m) (hf : l.length ≤ k ∨ wth (bt l k) 128 191 = false) : lng l = 0 := by
  by_cases hs : l.length ≤ m
  · exact lng_short hs h
  have hf' : wth (bt l k) 128 191 = false := by rcases hf with h | h
                                                · omega
                                                · exact h
  rcases bhd_cases (bt l 0) with g | g | g | g | g
  · omega
  · omega
  · obtain rfl : m = 1 := by omega
    obtain rfl : k = 1 := by omega
    rw [lng_1 (by omega) g, if_neg]
    intro e
    rw [lohi _ _ e] at hf'; cases hf'
  · obtain rfl : m = 2 := by omega
    rw [lng_2 (by omega) g, if_neg]
    rintro ⟨e1, e2⟩
    have hkk : k = 1 ∨ k = 2 := by omega
    rcases hkk with rfl | rfl
    · rw [lohi _ _ e1] at hf'; cases hf'
    · rw [e2] at hf'; cases hf'
  · obtain rfl : m = 3 := by omega
    rw [lng_3 (by omega) g, if_neg]
    rintro ⟨e1, e2, e3⟩
    have hkk : k = 1 ∨ k = 2 ∨ k = 3 := by omega
    rcases hkk with rfl | rfl | rfl
    · rw [lohi _ _ e1] at hf'; cases hf'
    · rw [e2] at hf'; cases hf'
    · rw [e3] at hf'; cases hf'
/-- The bytes from 1 to below k are there, and within 80 and BF. -/
def CRel (l : List UInt8) (k : Nat) : Prop := ∀ j, 1 ≤ j → j < k → j < l.length ∧ wth (bt l j) 128 191 = true
theorem CRel.one (l : List UInt8) : CRel l 1 := fun j h1 h2 => absurd h2 (by omega)
theorem CRel.next {l : List UInt8} {k : Nat} (h : CRel l k) (h1 : k < l.length) (h2 : wth (bt l k) 128 191 = true) : CRel l (k + 1) := fun j a b => by
  rcases Nat.lt_or_ge j k with e | e
  · exact h j a e
  · obtain rfl : j = k := by omega
    exact ⟨h1, h2⟩
theorem lng_bad {l : List UInt8} {m : Nat} (h : bhd (bt l 0) = m) (h1 : 1 ≤ m) (hC : CRel l (m + 1)) (hs : spc (bt l 0) (bt l 1)) : lng l = 0 := by
  have c1 := hC 1 (by omega) (by omega)
  have cm := hC m (by omega) (by omega)
  have hn : ¬ wth (bt l 1) (lo1 (bt l 0)) (hi1 (bt l 0)) = true := fun e => (lohi_spc c1.2).1 e hs
  rcases bhd_cases (bt l 0) with g | g | g | g | g
  · omega
  · omega
  · obtain rfl : m = 1 := by omega
    rw [lng_1 (by omega) g, if_neg hn]
  · obtain rfl : m = 2 := by omega
    rw [lng_2 (by omega) g, if_neg (fun e => hn e.1)]
  · obtain rfl : m = 3 := by omega
    rw [lng_3 (by omega) g, if_neg (fun e => hn e.1)]
theorem lng_good {l : List UInt8} {m : Nat} (h : bhd (bt l 0) = m) (h1 : 1 ≤ m) (hC : CRel l (m + 1)) (hs : ¬ spc (bt l 0) (bt l 1)) : lng l = m + 1 := by
  have c1 := hC 1 (by omega) (by omega)
  have cm := hC m (by omega) (by omega)
  have hn : wth (bt l 1) (lo1 (bt l 0)) (hi1 (bt l 0)) = true := (lohi_spc c1.2).2 hs
  rcases bhd_cases (bt l 0) with g | g | g | g | g
  · omega
  · omega
  · obtain rfl : m = 1 := by omega
    rw [lng_1 (by omega) g, if_pos hn]
  · obtain rfl : m = 2 := by omega
    rw [lng_2 (by omega) g, if_pos ⟨hn, (hC 2 (by omega) (by omega)).2⟩]
  · obtain rfl : m = 3 := by omega
    rw [lng_3 (by omega) g, if_pos ⟨hn, (hC 2 (by omega) (by omega)).2, (hC 3 (by omega) (by omega)).2⟩]
theorem bhd_range {c : Int} (h0 : 0 ≤ c) (h1 : c ≤ 255) : (bhd c = 0 ∧ c ≤ 127) ∨ (bhd c = 1 ∧ 194 ≤ c ∧ c ≤ 223) ∨ (bhd c = 2 ∧ 224 ≤ c ∧ c ≤ 239) ∨ (bhd c = 3 ∧ 240 ≤ c ∧ c ≤ 244) ∨ (bhd c = -1 ∧ 128 ≤ c ∧ c ≤ 193) ∨ (bhd c = -1 ∧ 245 ≤ c) := by
  unfold bhd wth
  repeat' split
  all_goals simp at *
  all_goals omega
end Go.Proofs.YtllnnogdpagioaaDoor
