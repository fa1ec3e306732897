/- JSON's tokens as lists of bytes: the token that a text begins with. -/
import Derived.Test.YtdclhepjoifpiaaGreatDoorAm
namespace Go.Proofs.YtdclhepjoifpiaaGreatDoor
open Go.RowKit
namespace Jk

theorem bt_far {l : List UInt8} {k : Nat} (h : l.length ≤ k) : bt l k = 0 := by simp [bt, h]
theorem bt_in {l : List UInt8} {k : Nat} (h : bt l k ≠ 0) : k < l.length := by
  rcases Nat.lt_or_ge k l.length with h1 | h1
  · exact h1
  · exact absurd (bt_far h1) h
theorem bt_app (a b : List UInt8) (k : Nat) : bt (a ++ b) k = if k < a.length then bt a k else bt b (k - a.length) := by
  unfold bt
  split
  · rename_i h; simp [List.getD_eq_getElem?_getD, List.getElem?_append_left h]
  · rename_i h; simp [List.getD_eq_getElem?_getD, List.getElem?_append_right (Nat.not_lt.1 h)]
theorem bt_tk (l : List UInt8) (n k : Nat) : bt (l.take n) k = if k < n then bt l k else 0 := by
  split
  · rename_i h; exact bt_take l h
  · rename_i h; exact bt_far (by rw [List.length_take]; omega)
def spc (c : Int) : Bool := decide (c = 32 ∨ c = 9 ∨ c = 10 ∨ c = 13)
def mrk (c : Int) : Bool := decide (c = 123 ∨ c = 125 ∨ c = 91 ∨ c = 93 ∨ c = 44 ∨ c = 58)
def ltr (c : Int) : Bool := decide (97 ≤ c ∧ c ≤ 122)
def dg (c : Int) : Bool := decide (48 ≤ c ∧ c ≤ 57)
def hx (c : Int) : Bool := decide (48 ≤ c ∧ c ≤ 57 ∨ 97 ≤ c ∧ c ≤ 102 ∨ 65 ≤ c ∧ c ≤ 70)
def esc (c : Int) : Bool := decide (c = 34 ∨ c = 92 ∨ c = 47 ∨ c = 98 ∨ c = 102 ∨ c = 110 ∨ c = 114 ∨ c = 116)
/-- How many bytes ahead are so. -/
def rw (p : Int → Bool) : List UInt8 → Nat
  | [] => 0
  | c :: l => if p (c.toNat : Int) then rw p l + 1 else 0
theorem rw_le (p : Int → Bool) : ∀ l, rw p l ≤ l.length
  | [] => Nat.le_refl _
  | c :: l => by
    have := rw_le p l
    simp only [rw, List.length_cons]; split <;> omega
theorem rw_at {p : Int → Bool} (h0 : p 0 = false) {l : List UInt8} {k : Nat} : rw p (l.drop k) = if p (bt l k) = true then rw p (l.drop (k + 1)) + 1 else 0 := by
  by_cases hk : k < l.length
  · rw [List.drop_eq_getElem_cons hk, rw]
    have : bt l k = ((l[k]).toNat : Int) := by simp [bt, hk]
    rw [this]
  · rw [List.drop_eq_nil_of_le (by omega), bt_far (by omega), h0]; rfl
/-- What stands behind them is not. -/
theorem rw_end {p : Int → Bool} (h0 : p 0 = false) : ∀ l : List UInt8, p (bt l (rw p l)) = false
  | [] => h0
  | c :: l => by
    rw [rw]
    split
    · exact rw_end h0 l
    · rename_i h; exact Bool.eq_false_iff.2 h
theorem rw_take (p : Int → Bool) : ∀ (l : List UInt8) (n : Nat), rw p (l.take n) = min (rw p l) n
  | [], n => by simp [rw]
  | c :: l, 0 => by simp [rw]
  | c :: l, n + 1 => by
    rw [List.take_succ_cons, rw, rw]
    split
    · rw [rw_take p l n]; omega
    · simp
theorem rw_app {p : Int → Bool} {c : UInt8} (hc : p (c.toNat : Int) = false) (b : List UInt8) : ∀ l : List UInt8, rw p (l ++ c :: b) = rw p l
  | [] => by rw [List.nil_append, rw, rw, hc]; rfl
  | d :: l => by rw [List.cons_append, rw, rw, rw_app hc b l]
theorem rw_pos {p : Int → Bool} (h0 : p 0 = false) {l : List UInt8} (h : p (bt l 0) = true) : 0 < rw p l := by
  have := rw_at (p := p) h0 (l := l) (k := 0)
  rw [List.drop_zero, h, if_pos rfl] at this
  omega
theorem rw_all {p : Int → Bool} (h0 : p 0 = false) : ∀ (l : List UInt8) (k : Nat), k < rw p l → p (bt l k) = true
  | [], k, h => by simp [rw] at h
  | c :: l, k, h => by
    rw [rw] at h
    split at h
    · rename_i hc
      cases k with
      | zero => exact hc
      | succ k => exact rw_all h0 l k (by omega)
    · omega
/-- Where the parts of a number end. -/
def intE (l : List UInt8) (j : Nat) : Nat := if bt l j = 48 then j + 1 else j + rw dg (l.drop j)
def frE (l : List UInt8) (k : Nat) : Nat := if bt l k = 46 ∧ dg (bt l (k + 1)) = true then k + 1 + rw dg (l.drop (k + 1)) else k
def sgE (l : List UInt8) (k : Nat) : Nat := if bt l k = 43 ∨ bt l k = 45 then k + 1 else k
def exE (l : List UInt8) (k : Nat) : Nat := if (bt l k = 101 ∨ bt l k = 69) ∧ dg (bt l (sgE l (k + 1))) = true then sgE l (k + 1) + rw dg (l.drop (sgE l (k + 1))) else k
def mnE (l : List UInt8) : Nat := if bt l 0 = 45 then 1 else 0
def nmE (l : List UInt8) : Nat := exE l (frE l (intE l (mnE l)))
/-- A string's end from a place on, or where it is wrong. -/
inductive SR where
  | ok (n : Nat)
  | bad (n : Nat)
def h4 (l : List UInt8) (i : Nat) : Option Nat :=
  if hx (bt l (i + 1)) = false then some (i + 1) else if hx (bt l (i + 2)) = false then some (i + 2) else if hx (bt l (i + 3)) = false then some (i + 3) else if hx (bt l (i + 4)) = false then some (i + 4) else none
def strE (l : List UInt8) (i : Nat) : SR :=
  if h : i < l.length then
    if bt l i = 34 then .ok (i + 1)
    else if bt l i < 32 then .bad i
    else if bt l i ≠ 92 then strE l (i + 1)
    else if i + 1 = l.length then .bad (i + 1)
    else if bt l (i + 1) = 117 then
      match h4 l (i + 1) with
      | some a => .bad a
      | none => strE l (i + 6)
    else if esc (bt l (i + 1)) = true then strE l (i + 2)
    else .bad (i + 1)
  else .bad l.length
termination_by l.length - i
def words (l : List UInt8) : Bool := decide (l = [116, 114, 117, 101] ∨ l = [102, 97, 108, 115, 101] ∨ l = [110, 117, 108, 108])
/-- A token: its kind, and how long it is; or where the text is wrong. -/
inductive TR where
  | tok (k n : Nat)
  | bad (n : Nat)
def nx (l : List UInt8) : TR :=
  if l = [] then .bad 0
  else if spc (bt l 0) = true then .tok 0 (rw spc l)
  else if mrk (bt l 0) = true then .tok 1 1
  else if ltr (bt l 0) = true then (if words (l.take (rw ltr l)) = true then .tok 2 (rw ltr l) else .bad 0)
  else if bt l 0 = 45 ∨ dg (bt l 0) = true then (if dg (bt l (mnE l)) = true then .tok 3 (nmE l) else .bad (mnE l))
  else if bt l 0 = 34 then (match strE l 1 with | .ok n => .tok 4 n | .bad n => .bad n)
  else .bad 0
/-- All tokens from a place on: kind, from, to; and where the text is wrong. -/
def tks (l : List UInt8) (i : Nat) : List (Nat × Nat × Nat) × Option Nat :=
  if _h : i < l.length then
    match nx (l.drop i) with
    | .tok k n => if _h2 : 0 < n then ((k, i, i + n) :: (tks l (i + n)).1, (tks l (i + n)).2) else ([], some i)
    | .bad n => ([], some (i + n))
  else ([], none)
termination_by l.length - i
end Jk
end Go.Proofs.YtdclhepjoifpiaaGreatDoor
