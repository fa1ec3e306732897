/- Numbers' texts: where their parts begin and end, and what these tell, as plain functions of bytes. -/
import Derived.Test.YthjlnafmpcppfaaGreatDoorBase
namespace Go.Proofs.YthjlnafmpcppfaaGreatDoor
open Go.RowKit

/-- Is a byte a numeral? -/
def nmr (c : Int) : Bool := decide (48 ≤ c) && decide (c ≤ 57)
/-- Where a run of numerals ends that begins at i. -/
def runE (l : List UInt8) (i : Nat) : Nat := if i < l.length ∧ nmr (bt l i) = true then runE l (i + 1) else i
termination_by l.length - i
theorem runE_on {l : List UInt8} {i : Nat} (h : i < l.length) (h2 : nmr (bt l i) = true) : runE l i = runE l (i + 1) := by rw [runE, if_pos ⟨h, h2⟩]
theorem runE_end {l : List UInt8} {i : Nat} (h : ¬ (i < l.length ∧ nmr (bt l i) = true)) : runE l i = i := by rw [runE, if_neg h]
theorem runE_ge (l : List UInt8) (i : Nat) : i ≤ runE l i := by
  by_cases h : i < l.length ∧ nmr (bt l i) = true
  · have := runE_ge l (i + 1); rw [runE_on h.1 h.2]; omega
  · rw [runE_end h]; exact Nat.le_refl _
termination_by l.length - i
theorem runE_le (l : List UInt8) (i : Nat) (hi : i ≤ l.length) : runE l i ≤ l.length := by
  by_cases h : i < l.length ∧ nmr (bt l i) = true
  · have := runE_le l (i + 1) (by omega); rw [runE_on h.1 h.2]; exact this
  · rw [runE_end h]; exact hi
termination_by l.length - i
end Go.Proofs.YthjlnafmpcppfaaGreatDoor
