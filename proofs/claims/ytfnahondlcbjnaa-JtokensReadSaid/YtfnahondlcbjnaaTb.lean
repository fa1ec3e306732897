/- JSON's tokens as lists: a token's bytes alone are that token; a mark behind changes none. -/
import Derived.Test.YtfnahondlcbjnaaTa
namespace Go.Proofs.Ytfnahondlcbjnaa
open Go.RowKit
namespace Jk

theorem dg_iff {c : Int} : dg c = true ↔ 48 ≤ c ∧ c ≤ 57 := by simp [dg]
theorem dg0 : dg 0 = false := rfl
theorem spc0 : spc 0 = false := rfl
theorem ltr0 : ltr 0 = false := rfl
theorem dg_in {l : List UInt8} {k : Nat} (h : dg (bt l k) = true) : k < l.length := bt_in (by have := dg_iff.1 h; omega)
theorem rw_in (p : Int → Bool) (l : List UInt8) {k : Nat} (h : k ≤ l.length) : k + rw p (l.drop k) ≤ l.length := by
  have := rw_le p (l.drop k)
  rw [List.length_drop] at this
  omega
theorem rw_dg {l : List UInt8} {k : Nat} (h : dg (bt l k) = true) : 0 < rw dg (l.drop k) := by rw [rw_at dg0, if_pos h]; omega
-- the parts of a number
theorem intE_gt {l : List UInt8} {j : Nat} (h : dg (bt l j) = true) : j < intE l j ∧ intE l j ≤ l.length := by
  have h1 := dg_in h
  have h2 := rw_in dg l (Nat.le_of_lt h1)
  have h3 := rw_dg h
  unfold intE
  split <;> omega
theorem frE_ge {l : List UInt8} {k : Nat} (hk : k ≤ l.length) : k ≤ frE l k ∧ frE l k ≤ l.length := by
  unfold frE
  split
  · rename_i h
    have h1 := dg_in h.2
    have h2 := rw_in dg l (Nat.le_of_lt h1)
    omega
  · omega
theorem sgE_ge (l : List UInt8) (k : Nat) : k ≤ sgE l k ∧ sgE l k ≤ k + 1 := by unfold sgE; split <;> omega
theorem exE_ge {l : List UInt8} {k : Nat} (hk : k ≤ l.length) : k ≤ exE l k ∧ exE l k ≤ l.length := by
  unfold exE
  split
  · rename_i h
    have h1 := dg_in h.2
    have h2 := rw_in dg l (Nat.le_of_lt h1)
    have h3 := sgE_ge l (k + 1)
    omega
  · omega
theorem nmE_gt {l : List UInt8} (h : dg (bt l (mnE l)) = true) : mnE l < nmE l ∧ nmE l ≤ l.length := by
  have h1 := intE_gt h
  have h2 := frE_ge h1.2
  have h3 := exE_ge h2.2
  unfold nmE
  omega
-- strings
theorem h4_some {l : List UInt8} {i a : Nat} (h : h4 l i = some a) (hi : i < l.length) : i < a ∧ a ≤ l.length := by
  have hin : ∀ k, hx (bt l k) = true → k < l.length := fun k hk => bt_in (by intro e; rw [e] at hk; revert hk; decide)
  unfold h4 at h
  split at h
  · injection h with h; omega
  · rename_i g1
    have := hin (i + 1) (by simpa using g1)
    split at h
    · injection h with h; omega
    · rename_i g2
      have := hin (i + 2) (by simpa using g2)
      split at h
      · injection h with h; omega
      · rename_i g3
        have := hin (i + 3) (by simpa using g3)
        split at h
        · injection h with h; omega
        · cases h
theorem h4_none {l : List UInt8} {i : Nat} (h : h4 l i = none) : hx (bt l (i + 1)) = true ∧ hx (bt l (i + 2)) = true ∧ hx (bt l (i + 3)) = true ∧ hx (bt l (i + 4)) = true := by
  unfold h4 at h
  split at h
  · cases h
  · rename_i g1
    split at h
    · cases h
    · rename_i g2
      split at h
      · cases h
      · rename_i g3
        split at h
        · cases h
        · rename_i g4
          simp only [Bool.not_eq_false] at g1 g2 g3 g4
          exact ⟨g1, g2, g3, g4⟩
theorem h4_of {l : List UInt8} {i : Nat} (h : hx (bt l (i + 1)) = true ∧ hx (bt l (i + 2)) = true ∧ hx (bt l (i + 3)) = true ∧ hx (bt l (i + 4)) = true) : h4 l i = none := by
  unfold h4
  rw [if_neg (by rw [h.1]; simp), if_neg (by rw [h.2.1]; simp), if_neg (by rw [h.2.2.1]; simp), if_neg (by rw [h.2.2.2]; simp)]
theorem hx_in {l : List UInt8} {k : Nat} (h : hx (bt l k) = true) : k < l.length := bt_in (by intro e; rw [e] at h; revert h; decide)
theorem esc_in {l : List UInt8} {k : Nat} (h : esc (bt l k) = true) : k < l.length := bt_in (by intro e; rw [e] at h; revert h; decide)
theorem strE_ok {l : List UInt8} : ∀ (m i n : Nat), l.length - i ≤ m → strE l i = .ok n → i < n ∧ n ≤ l.length
  | m, i, n, hm, h => by
    rw [strE] at h
    split at h
    · rename_i hi
      split at h
      · injection h with h; omega
      · split at h
        · cases h
        · split at h
          · cases m with
            | zero => omega
            | succ m => have := strE_ok m (i + 1) n (by omega) h; omega
          · split at h
            · cases h
            · split at h
              · cases hq : h4 l (i + 1) with
                | some a => rw [hq] at h; cases h
                | none =>
                  rw [hq] at h
                  cases m with
                  | zero => omega
                  | succ m => have := strE_ok m (i + 6) n (by omega) h; omega
              · split at h
                · cases m with
                  | zero => omega
                  | succ m => have := strE_ok m (i + 2) n (by omega) h; omega
                · cases h
    · cases h
theorem strE_bad {l : List UInt8} : ∀ (m i n : Nat), l.length - i ≤ m → i ≤ l.length → strE l i = .bad n → n ≤ l.length
  | m, i, n, hm, hil, h => by
    rw [strE] at h
    split at h
    · rename_i hi
      split at h
      · cases h
      · split at h
        · injection h with h; omega
        · split at h
          · cases m with
            | zero => omega
            | succ m => exact strE_bad m (i + 1) n (by omega) (by omega) h
          · split at h
            · injection h with h; omega
            · split at h
              · cases hq : h4 l (i + 1) with
                | some a => rw [hq] at h; injection h with h; have := h4_some hq (by omega); omega
                | none =>
                  rw [hq] at h
                  have := hx_in (h4_none hq).2.2.2
                  cases m with
                  | zero => omega
                  | succ m => exact strE_bad m (i + 6) n (by omega) (by omega) h
              · split at h
                · rename_i he
                  have := esc_in he
                  cases m with
                  | zero => omega
                  | succ m => exact strE_bad m (i + 2) n (by omega) (by omega) h
                · injection h with h; omega
    · injection h with h; omega
/-- A string is the same in whatever text has the same bytes up to its end. -/
theorem strE_same {l l' : List UInt8} : ∀ (m i n : Nat), l.length - i ≤ m → strE l i = .ok n → (∀ k, k < n → bt l' k = bt l k) → n ≤ l'.length → strE l' i = .ok n
  | m, i, n, hm, h, hb, hl => by
    have hn := strE_ok m i n hm h
    have h0 := h
    rw [strE] at h
    have hi : i < l.length := by omega
    rw [dif_pos hi] at h
    rw [strE, dif_pos (by omega), hb i (by omega)]
    split at h
    · rename_i g; rw [if_pos g]; exact h
    · rename_i g
      rw [if_neg g]
      split at h
      · cases h
      · rename_i g1
        rw [if_neg g1]
        split at h
        · rename_i g2
          rw [if_pos g2]
          cases m with
          | zero => omega
          | succ m => exact strE_same m (i + 1) n (by omega) h hb hl
        · rename_i g2
          rw [if_neg g2]
          split at h
          · cases h
          · rename_i g3
            split at h
            · rename_i g4
              cases hq : h4 l (i + 1) with
              | some a => rw [hq] at h; cases h
              | none =>
                rw [hq] at h
                cases m with
                | zero => omega
                | succ m =>
                  have h6 := strE_ok m (i + 6) n (by omega) h
                  have hx4 := h4_none hq
                  rw [if_neg (by omega), hb (i + 1) (by omega), if_pos g4, h4_of (l := l') (by
                    rw [hb (i + 1 + 1) (by omega), hb (i + 1 + 2) (by omega), hb (i + 1 + 3) (by omega), hb (i + 1 + 4) (by omega)]; exact hx4)]
                  exact strE_same m (i + 6) n (by omega) h hb hl
            · rename_i g4
              split at h
              · rename_i g5
                cases m with
                | zero => omega
                | succ m =>
                  have h6 := strE_ok m (i + 2) n (by omega) h
                  rw [if_neg (by omega), hb (i + 1) (by omega), if_neg g4, if_pos g5]
                  exact strE_same m (i + 2) n (by omega) h hb hl
              · cases h
end Jk
end Go.Proofs.Ytfnahondlcbjnaa
