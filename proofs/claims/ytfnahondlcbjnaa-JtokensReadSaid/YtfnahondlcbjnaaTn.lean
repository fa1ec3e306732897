/- The document's next token: a string, place by place. -/
import Derived.Test.YtfnahondlcbjnaaTl
import Derived.Test.YtfnahondlcbjnaaTj
namespace Go.Proofs.Ytfnahondlcbjnaa
open Go.RowKit
namespace Jk
/-- A string's end, as many places later. -/
def SR.up (i : Nat) : SR → SR
  | .ok n => .ok (i + n)
  | .bad n => .bad (i + n)
theorem h4_drop (l : List UInt8) (i k : Nat) : h4 l (i + k) = (h4 (l.drop i) k).map (i + ·) := by
  unfold h4
  simp only [bt_drop, Nat.add_assoc]
  split
  · rfl
  · split
    · rfl
    · split
      · rfl
      · split <;> rfl
theorem strE_drop {l : List UInt8} {i : Nat} (hi : i ≤ l.length) : ∀ (m k : Nat), l.length - (i + k) ≤ m → (strE (l.drop i) k).up i = strE l (i + k) ∨ l.length < i + k
  | m, k, hm => by
    by_cases hk : i + k < l.length
    · left
      rw [strE.eq_def (l.drop i) k, strE.eq_def l (i + k), dif_pos (by rw [List.length_drop]; omega), dif_pos hk, bt_drop, bt_drop, List.length_drop, ← Nat.add_assoc i k 1]
      have go : ∀ j, 0 < j → i + (k + j) ≤ l.length → (strE (l.drop i) (k + j)).up i = strE l (i + k + j) := fun j hj hl => by
        cases m with
        | zero => omega
        | succ m =>
          rw [Nat.add_assoc]
          exact (strE_drop hi m (k + j) (by omega)).resolve_right (by omega)
      split
      · simp only [SR.up]; rfl
      · split
        · rfl
        · split
          · exact go 1 (by omega) (by omega)
          · by_cases h1 : i + k + 1 = l.length
            · rw [if_pos (by omega), if_pos h1]; simp only [SR.up]; rfl
            · rw [if_neg (by omega), if_neg h1]
              split
              · have e := h4_drop l i (k + 1)
                rw [← Nat.add_assoc] at e
                rw [e]
                cases hq : h4 (l.drop i) (k + 1) with
                | some a => rfl
                | none =>
                  have hx := hx_in (h4_none hq).2.2.2
                  rw [List.length_drop] at hx
                  exact go 6 (by omega) (by omega)
              · split
                · exact go 2 (by omega) (by omega)
                · simp only [SR.up]; rfl
    · by_cases h2 : l.length < i + k
      · exact .inr h2
      · left
        rw [strE.eq_def (l.drop i) k, strE.eq_def l (i + k), dif_neg (by rw [List.length_drop]; omega), dif_neg hk]
        simp only [SR.up, List.length_drop]
        rw [show i + (l.length - i) = l.length by omega]
/-- What is answered of a string that begins at a place. -/
def stA (i : Nat) : SR → Value
  | .ok n => .tuple #[rtV 4 i (n : Nat), fvV 0 0]
  | .bad n => .tuple #[rtV 0 0 0, fvV 3 (n : Nat)]
theorem nx_str {l : List UInt8} {i : Nat} (hi : i < l.length) (h : bt l i = 34) : nxA i (nx (l.drop i)) = stA i (strE l (i + 1)) := by
  rw [nx_quote (by rw [bt_drop, Nat.add_zero]; exact h), ← (strE_drop (Nat.le_of_lt hi) _ 1 (Nat.le_refl _)).resolve_right (by omega)]
  cases strE (l.drop i) 1 <;> rfl
end Jk
end Go.Proofs.Ytfnahondlcbjnaa
