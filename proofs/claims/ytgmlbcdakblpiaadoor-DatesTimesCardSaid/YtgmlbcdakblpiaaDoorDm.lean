/- Date-times as lists of bytes: what stands where, the parts, what is answered. -/
import Derived.Test.YtgmlbcdakblpiaaDoorBase
namespace Go.Proofs.YtgmlbcdakblpiaaDoor
open Go.RowKit
namespace Da

theorem bt_far {l : List UInt8} {k : Nat} (h : l.length ≤ k) : bt l k = 0 := by simp [bt, h]
theorem bt_in {l : List UInt8} {k : Nat} (h : bt l k ≠ 0) : k < l.length := by
  rcases Nat.lt_or_ge k l.length with h1 | h1
  · exact h1
  · exact absurd (bt_far h1) h
theorem bt_app (a b : List UInt8) (k : Nat) : bt (a ++ b) k = if k < a.length then bt a k else bt b (k - a.length) := by
  unfold bt
  split
  · rename_i h; simp [List.getD_eq_getElem?_getD, List.getElem?_append_left h]
  · rename_i h; simp [List.getD_eq_getElem?_getD, List.getElem?_append_right (Nat.not_lt.1 h)]
theorem bt_l {a : List UInt8} (b : List UInt8) {k : Nat} (h : k < a.length) : bt (a ++ b) k = bt a k := by rw [bt_app, if_pos h]
theorem bt_r (a b : List UInt8) (k : Nat) : bt (a ++ b) (a.length + k) = bt b k := by rw [bt_app, if_neg (by omega), Nat.add_sub_cancel_left]
theorem bt_c (c : UInt8) (b : List UInt8) : bt (c :: b) 0 = (c.toNat : Int) := rfl
theorem bt_s (c : UInt8) (b : List UInt8) (k : Nat) : bt (c :: b) (k + 1) = bt b k := rfl

/-- A digit. -/
def dg (c : Int) : Bool := decide (48 ≤ c ∧ c ≤ 57)
theorem dg_iff {c : Int} : dg c = true ↔ 48 ≤ c ∧ c ≤ 57 := by simp [dg]
def dd (l : List UInt8) (i : Nat) : Bool := dg (bt l i)
theorem dd_in {l : List UInt8} {i : Nat} (h : dd l i = true) : i < l.length := bt_in (by have := dg_iff.1 h; omega)
def t2 (l : List UInt8) (i : Nat) : Bool := dd l i && dd l (i + 1)
def v2 (l : List UInt8) (i : Nat) : Int := 10 * (bt l i - 48) + (bt l (i + 1) - 48)
theorem t2_iff {l : List UInt8} {i : Nat} : t2 l i = true ↔ (48 ≤ bt l i ∧ bt l i ≤ 57) ∧ 48 ≤ bt l (i + 1) ∧ bt l (i + 1) ≤ 57 := by simp [t2, dd, dg]
theorem t2_v {l : List UInt8} {i : Nat} (h : t2 l i = true) : 0 ≤ v2 l i ∧ v2 l i ≤ 99 := by have := t2_iff.1 h; unfold v2; omega
def dte (l : List UInt8) : Bool := t2 l 0 && t2 l 2 && decide (bt l 4 = 45) && t2 l 5 && decide (bt l 7 = 45) && t2 l 8
theorem dte_iff {l : List UInt8} : dte l = true ↔ t2 l 0 = true ∧ t2 l 2 = true ∧ bt l 4 = 45 ∧ t2 l 5 = true ∧ bt l 7 = 45 ∧ t2 l 8 = true := by simp [dte, and_assoc]
def clk (l : List UInt8) (i : Nat) : Bool := t2 l i && decide (bt l (i + 2) = 58) && t2 l (i + 3) && decide (bt l (i + 5) = 58) && t2 l (i + 6)
theorem clk_iff {l : List UInt8} {i : Nat} : clk l i = true ↔ t2 l i = true ∧ bt l (i + 2) = 58 ∧ t2 l (i + 3) = true ∧ bt l (i + 5) = 58 ∧ t2 l (i + 6) = true := by simp [clk, and_assoc]
theorem t2_in {l : List UInt8} {i : Nat} (h : t2 l i = true) : i + 2 ≤ l.length := by
  have : dd l (i + 1) = true := by simp [t2] at h; exact h.2
  exact dd_in this
theorem dte_in {l : List UInt8} (h : dte l = true) : 10 ≤ l.length := t2_in (dte_iff.1 h).2.2.2.2.2
theorem clk_in {l : List UInt8} {i : Nat} (h : clk l i = true) : i + 8 ≤ l.length := t2_in (clk_iff.1 h).2.2.2.2
/-- How many digits stand ahead. -/
def run : List UInt8 → Nat
  | [] => 0
  | c :: l => if dg (c.toNat : Int) then run l + 1 else 0
theorem run_le : ∀ l, run l ≤ l.length
  | [] => Nat.le_refl _
  | c :: l => by
    have := run_le l
    simp only [run, List.length_cons]; split <;> omega
theorem run_all {l : List UInt8} : ∀ c ∈ l.take (run l), dg (c.toNat : Int) = true := by
  induction l with
  | nil => simp [run]
  | cons a l ih =>
    intro c hc
    rw [run] at hc
    split at hc
    · rename_i h
      rw [List.take_succ_cons, List.mem_cons] at hc
      rcases hc with rfl | hc
      · exact h
      · exact ih c hc
    · simp at hc
theorem run_app : ∀ {a b : List UInt8}, (∀ c ∈ a, dg (c.toNat : Int) = true) → run (a ++ b) = a.length + run b
  | [], b, _ => by simp
  | c :: a, b, h => by
    rw [List.cons_append, run, if_pos (h c (by simp)), run_app (fun x hx => h x (by simp [hx])), List.length_cons]; omega
theorem run_no {l : List UInt8} (h : dg (bt l 0) = false) : run l = 0 := by
  cases l with
  | nil => rfl
  | cons c l => rw [run, if_neg (by rw [bt_c] at h; simp [h])]
theorem run_at {l : List UInt8} {k : Nat} : run (l.drop k) = if dd l k = true then run (l.drop (k + 1)) + 1 else 0 := by
  by_cases hk : k < l.length
  · rw [List.drop_eq_getElem_cons hk, run]
    have : bt l k = ((l[k]).toNat : Int) := by simp [bt, hk]
    unfold dd; rw [this]
  · rw [List.drop_eq_nil_of_le (by omega), if_neg]
    · rfl
    · intro h; exact hk (dd_in h)
/-- A part of a second. -/
def frc (l : List UInt8) (i : Nat) : Nat := if bt l i = 46 ∧ dd l (i + 1) = true then run (l.drop (i + 1)) + 1 else 0
def zc (c : Int) : Bool := decide (c = 90 ∨ c = 122)
def zs (l : List UInt8) (i : Nat) : Bool := decide (bt l i = 43 ∨ bt l i = 45) && t2 l (i + 1) && decide (bt l (i + 3) = 58) && t2 l (i + 4)
theorem zs_iff {l : List UInt8} {i : Nat} : zs l i = true ↔ (bt l i = 43 ∨ bt l i = 45) ∧ t2 l (i + 1) = true ∧ bt l (i + 3) = 58 ∧ t2 l (i + 4) = true := by simp [zs, and_assoc]
def zn (l : List UInt8) (i : Nat) : Nat := if zc (bt l i) = true then 1 else if zs l i = true then 6 else 0
def sp (c : Int) : Bool := decide (c = 84 ∨ c = 116 ∨ c = 32)
theorem frc_in {l : List UInt8} {i : Nat} (hi : i ≤ l.length) : i + frc l i ≤ l.length := by
  unfold frc
  split
  · rename_i h
    have h1 := dd_in h.2
    have h2 := run_le (l.drop (i + 1))
    rw [List.length_drop] at h2
    omega
  · omega
theorem zn_in {l : List UInt8} {i : Nat} (hi : i ≤ l.length) : i + zn l i ≤ l.length := by
  unfold zn
  split
  · rename_i h
    have := bt_in (l := l) (k := i) (by simp [zc] at h; omega)
    omega
  · split
    · rename_i h; exact t2_in (zs_iff.1 h).2.2.2
    · omega
section
variable (l : List UInt8)
def tp : Nat := if dte l = true then 11 else 0
def hT : Bool := if dte l = true then sp (bt l 10) && clk l 11 else clk l 0
def nF : Nat := if hT l = true then frc l (tp l + 8) else 0
def nZ : Nat := if dte l = true ∧ hT l = true then zn l (tp l + 8 + nF l) else 0
def en : Nat := if hT l = true then tp l + 8 + nF l + nZ l else if dte l = true then 10 else 0
def pD : List UInt8 := if dte l = true then l.take 10 else []
def pT : List UInt8 := if hT l = true then (l.drop (tp l)).take 8 else []
def pF : List UInt8 := (l.drop (tp l + 8)).take (nF l)
def pZ : List UInt8 := (l.drop (tp l + 8 + nF l)).take (nZ l)
end
/-- The kind of these parts. -/
def kd4 (D T Z : List UInt8) : Nat := if Z ≠ [] then 4 else if D ≠ [] ∧ T ≠ [] then 3 else if T ≠ [] then 2 else if D ≠ [] then 1 else 0
def leap (y : Int) : Bool := decide (y % 400 = 0 ∨ y % 4 = 0 ∧ y % 100 ≠ 0)
def days (y m : Int) : Int := if m = 2 then (if leap y = true then 29 else 28) else if m = 4 ∨ m = 6 ∨ m = 9 ∨ m = 11 then 30 else 31
def mD (D : List UInt8) : Bool := decide (1 ≤ v2 D 5 ∧ v2 D 5 ≤ 12 ∧ 1 ≤ v2 D 8 ∧ v2 D 8 ≤ days (100 * v2 D 0 + v2 D 2) (v2 D 5))
def mT (T : List UInt8) : Bool := decide (v2 T 0 ≤ 23 ∧ v2 T 3 ≤ 59 ∧ (v2 T 6 ≤ 59 ∨ v2 T 6 = 60 ∧ v2 T 3 = 59))
def mZ (Z : List UInt8) : Bool := decide (Z.length < 6 ∨ v2 Z 1 ≤ 23 ∧ v2 Z 4 ≤ 59)
def ok (D T Z : List UInt8) : Bool := (decide (D = []) || mD D) && (decide (T = []) || mT T) && (decide (Z = []) || mZ Z)
/-- Noughts at the end are dropped. -/
def st0 (l : List UInt8) : List UInt8 := (l.reverse.dropWhile (· == 48)).reverse
def stp (l : List UInt8) : List UInt8 := if st0 l = [46] then [] else st0 l
def up (c : UInt8) : UInt8 := if c = 122 then 90 else c
def md (D T : List UInt8) (c : UInt8) : List UInt8 := if D ≠ [] ∧ T ≠ [] then [c] else []
def asm (c : UInt8) (D T F Z : List UInt8) : List UInt8 := D ++ (md D T c ++ (T ++ (F ++ Z)))
def nm (D T F Z : List UInt8) : List UInt8 := asm 84 D T (stp F) (Z.map up)
def kd (l : List UInt8) : Nat := kd4 (pD l) (pT l) (pZ l)
/-- What is read. -/
def rdD (l : List UInt8) : List UInt8 × Int :=
  if en l = l.length ∧ kd l ≠ 0 then (if ok (pD l) (pT l) (pZ l) = true then (nm (pD l) (pT l) (pF l) (pZ l), 0) else ([], 9)) else ([], 3)
def ofD (l : List UInt8) : Nat := if (rdD l).2 = 0 ∧ (rdD l).1 = l then kd l else 0
end Da
end Go.Proofs.YtgmlbcdakblpiaaDoor
