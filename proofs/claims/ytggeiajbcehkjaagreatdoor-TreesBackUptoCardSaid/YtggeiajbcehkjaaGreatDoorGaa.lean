/- A slice's cells: that they hold what a function of the place gives; what keeps that, and what a cut of it holds. -/
import Derived.Below
import Derived.Calls
import Derived.Laws.OwnMore
import Derived.Deep.Draws
import Derived.Lib.Hide
import Derived.Test.YtggeiajbcehkjaaGreatDoorProg
import Derived.WalkKit
import Derived.WalkSpells
import Derived.PlainAid
namespace Go.Proofs.YtggeiajbcehkjaaGreatDoor
open Go.RowKit

theorem addAt (b off k : Nat) : (⟨b, off, none⟩ : Addr).add k = ⟨b, off + k, none⟩ := by
  by_cases hk : k = 0 <;> simp [Addr.add, hk]

/-- The slice at A holds, at the places below n, what f gives; its block lies below B. -/
def Lst (w : World) (B : Nat) (A : Option Addr) (n : Nat) (f : Nat → Value) : Prop :=
  0 < n → ∃ b off, A = some ⟨b, off, none⟩ ∧ b < B ∧ ∀ k, k < n → w.cell? ⟨b, off + k, none⟩ = some (f k)

section
variable {w w' : World} {B B' n : Nat} {A : Option Addr} {f : Nat → Value}
theorem Lst.keep (h : Lst w B A n f) (hk : ∀ p : Addr, p.block < B → w'.cell? p = w.cell? p) : Lst w' B A n f := fun hn => by
  obtain ⟨b, off, e, hb, hc⟩ := h hn
  exact ⟨b, off, e, hb, fun k hk' => (hk _ hb).trans (hc k hk')⟩
theorem Lst.more (h : Lst w B A n f) (hB : B ≤ B') : Lst w B' A n f := fun hn => by
  obtain ⟨b, off, e, hb, hc⟩ := h hn
  exact ⟨b, off, e, by omega, hc⟩
theorem Lst.less (h : Lst w B A n f) {m : Nat} (hm : m ≤ n) : Lst w B A m f := fun hn => by
  obtain ⟨b, off, e, hb, hc⟩ := h (by omega)
  exact ⟨b, off, e, hb, fun k hk => hc k (by omega)⟩
theorem Lst.same (h : Lst w B A n f) {g : Nat → Value} (hg : ∀ k, k < n → f k = g k) : Lst w B A n g := fun hn => by
  obtain ⟨b, off, e, hb, hc⟩ := h hn
  exact ⟨b, off, e, hb, fun k hk => by rw [hc k hk, hg k hk]⟩
theorem Lst.below (h : Lst w B A n f) (hb : Below B w w') : Lst w' B A n f := h.keep fun _ hp => hb.cell hp
theorem Lst.drewN (h : Lst w B A n f) (k : Nat) : Lst (w.drewN k) B A n f := h
theorem Lst.alloc (h : Lst w B A n f) (hB : B ≤ w.heap.size) (o : Obj) : Lst (w.alloc o) B A n f := h.keep fun p hp => World.cell?_alloc_lt w o p (by omega)
theorem Lst.setCell (h : Lst w B A n f) {p : Addr} (hB : B ≤ p.block) (u : Value) : Lst (w.setCell p u) B A n f :=
  h.keep fun q hq => World.cell?_setCell_other w p q u (fun e => by subst e; omega)
theorem Lst.cut' (h : Lst w B A n f) {k : Nat} (hk : k ≤ n) : Lst w B (A.map (·.add k)) (n - k) (fun i => f (k + i)) := fun hn => by
  obtain ⟨b, off, rfl, hb, hcell⟩ := h (by omega)
  exact ⟨b, off + k, by simp only [Option.map_some, addAt], hb, fun i hi => by rw [Nat.add_assoc]; exact hcell _ (by omega)⟩
end

/-- A byte of a list, as a number; 0 behind its end. -/
def bt (l : List UInt8) (k : Nat) : Int := (((l.getD k 0).toNat : Nat) : Int)
theorem bt_lo (l : List UInt8) (k : Nat) : 0 ≤ bt l k := by unfold bt; omega
theorem bt_hi (l : List UInt8) (k : Nat) : bt l k ≤ 255 := by unfold bt; have := (l.getD k 0).toNat_lt; omega
theorem bt_drop (l : List UInt8) (i k : Nat) : bt (l.drop i) k = bt l (i + k) := by simp [bt, List.getElem?_drop]
theorem bt_take (l : List UInt8) {i k : Nat} (h : k < i) : bt (l.take i) k = bt l k := by simp [bt, h]

/-- A slice of bytes. -/
def Byt (w : World) (B : Nat) (A : Option Addr) (l : List UInt8) : Prop := Lst w B A l.length (fun k => .int .u8 (bt l k))
section
variable {w w' : World} {B B' : Nat} {A : Option Addr} {l : List UInt8}
theorem Byt.below (h : Byt w B A l) (hb : Below B w w') : Byt w' B A l := Lst.below h hb
theorem Byt.more (h : Byt w B A l) (hB : B ≤ B') : Byt w B' A l := Lst.more h hB
theorem Byt.at_ (h : Byt w B A l) {k : Nat} (hk : k < l.length) : ∃ b off, A = some ⟨b, off, none⟩ ∧ b < B ∧ ∀ k, k < l.length → w.cell? ⟨b, off + k, none⟩ = some (.int .u8 (bt l k)) := h (by omega)
theorem Byt.cut' (h : Byt w B A l) {k : Nat} (hk : k ≤ l.length) : Byt w B (A.map (·.add k)) (l.drop k) := by
  have := Lst.cut' h hk
  unfold Byt
  rw [List.length_drop]
  exact this.same fun i _ => by rw [bt_drop]
theorem Byt.cutAt {b off : Nat} (h : Byt w B (some ⟨b, off, none⟩) l) {k : Nat} (hk : k ≤ l.length) : Byt w B (some ⟨b, off + k, none⟩) (l.drop k) := by
  have := h.cut' hk
  simpa only [Option.map_some, addAt] using this
theorem Byt.take (h : Byt w B A l) (k : Nat) : Byt w B A (l.take k) := by
  have := Lst.less (m := (l.take k).length) h (by simp; omega)
  exact this.same fun i hi => by rw [bt_take l (by simp at hi; omega)]
end
end Go.Proofs.YtggeiajbcehkjaaGreatDoor
/- The small functions of utf8s: what each answers, for every argument of its type. -/
namespace Go.Proofs.YtggeiajbcehkjaaGreatDoor
open Go.RowKit

theorem ret_int {k : IntKind} {a b : Int} (h : a = b) : Ending.returned (.int k a) = .returned (.int k b) := by rw [h]
theorem ret_str {a b : ByteArray} (h : a = b) : Ending.returned (.string a) = .returned (.string b) := by rw [h]
theorem ret_bool {a b : Bool} (h : a = b) : Ending.returned (.bool a) = .returned (.bool b) := by rw [h]

theorem ret_ib {k : IntKind} {a b : Int} {p q : Bool} (h : a = b) (h' : p = q) : Ending.returned (.tuple #[.int k a, .bool p]) = .returned (.tuple #[.int k b, .bool q]) := by rw [h, h']
/-- How many bytes a rune has behind its first one. -/
def mor (r : Int) : Int := if r < 128 then 0 else if r < 2048 then 1 else if r < 65536 then 2 else 3
theorem more_any (r : Int) (w : World) : Calls Tryz.prog 273 #[.int .i64 r] w fun e w' => e = .returned (.int .i64 (mor r)) ∧ w = w' := by
  by_cases h1 : r < 128
  · go_enter Tryz.func273, Tryz.ntmps273
    go_wp2
    go_ret
    exact ⟨ret_int (by unfold mor; split <;> (try split) <;> (try split) <;> omega), rfl⟩
  by_cases h2 : r < 2048
  · go_enter Tryz.func273, Tryz.ntmps273
    go_wp2
    go_ret
    exact ⟨ret_int (by unfold mor; split <;> (try split) <;> (try split) <;> omega), rfl⟩
  by_cases h3 : r < 65536
  · go_enter Tryz.func273, Tryz.ntmps273
    go_wp2
    go_ret
    exact ⟨ret_int (by unfold mor; split <;> (try split) <;> (try split) <;> omega), rfl⟩
  · go_enter Tryz.func273, Tryz.ntmps273
    go_wp2
    go_ret
    exact ⟨ret_int (by unfold mor; split <;> (try split) <;> (try split) <;> omega), rfl⟩

/-- The number itself, or 65533 for what is no rune's number. -/
def knw (r : Int) : Int := if 0 ≤ r ∧ r ≤ 1114111 ∧ (r < 55296 ∨ 57343 < r) then r else 65533
theorem known_any (r : Int) (w : World) : Calls Tryz.prog 274 #[.int .i64 r] w fun e w' => e = .returned (.int .i64 (knw r)) ∧ w = w' := by
  by_cases h1 : r < 0
  · go_enter Tryz.func274, Tryz.ntmps274
    go_wp2
    go_ret
    exact ⟨ret_int (by rw [knw, if_neg (by omega)]), rfl⟩
  by_cases h2 : 1114111 < r
  · go_enter Tryz.func274, Tryz.ntmps274
    go_wp2
    go_ret
    exact ⟨ret_int (by rw [knw, if_neg (by omega)]), rfl⟩
  by_cases h3 : r < 55296
  · go_enter Tryz.func274, Tryz.ntmps274
    go_wp2
    go_ret
    exact ⟨ret_int (by rw [knw, if_pos (by omega)]), rfl⟩
  by_cases h4 : 57343 < r
  · go_enter Tryz.func274, Tryz.ntmps274
    go_wp2
    go_ret
    exact ⟨ret_int (by rw [knw, if_pos (by omega)]), rfl⟩
  · go_enter Tryz.func274, Tryz.ntmps274
    go_wp2
    go_ret
    exact ⟨ret_int (by rw [knw, if_neg (by omega)]), rfl⟩
end Go.Proofs.YtggeiajbcehkjaaGreatDoor
/- Small words for walks: endings; a text's bytes. -/
namespace Go.Proofs.YtggeiajbcehkjaaGreatDoor
open Go.RowKit

/-- A text of bytes. -/
def txt (l : List UInt8) : ByteArray := ⟨l.toArray⟩
theorem txt_size (l : List UInt8) : (txt l).size = l.length := by simp [txt, ByteArray.size]
theorem txt_at {l : List UInt8} {s : ByteArray} (hs : s = txt l) {k : Nat} : ∀ (h : k < s.size), ((s[k]'h).toNat : Int) = bt l k := by
  subst hs
  intro h
  rw [txt_size] at h
  have e : (txt l)[k]'(by rw [txt_size]; exact h) = l[k] := by simp [txt, ByteArray.getElem_eq_getElem_data]
  rw [e]; simp [bt, h]
theorem txt_app (a b : List UInt8) : txt a ++ txt b = txt (a ++ b) := by
  apply ByteArray.ext; simp [txt]
theorem txt_cut (l : List UInt8) (i j : Nat) : (txt l).extract i j = txt ((l.take j).drop i) := by
  apply ByteArray.ext; simp [txt, List.drop_take]
end Go.Proofs.YtggeiajbcehkjaaGreatDoor
/- JSON's tokens as lists of bytes: the token that a text begins with. -/
namespace Go.Proofs.YtggeiajbcehkjaaGreatDoor
open Go.RowKit
namespace Jk

theorem bt_far {l : List UInt8} {k : Nat} (h : l.length ≤ k) : bt l k = 0 := by simp [bt, h]
theorem bt_in {l : List UInt8} {k : Nat} (h : bt l k ≠ 0) : k < l.length := by
  rcases Nat.lt_or_ge k l.length with h1 | h1
  · exact h1
  · exact absurd (bt_far h1) h
def spc (c : Int) : Bool := decide (c = 32 ∨ c = 9 ∨ c = 10 ∨ c = 13)
def mrk (c : Int) : Bool := decide (c = 123 ∨ c = 125 ∨ c = 91 ∨ c = 93 ∨ c = 44 ∨ c = 58)
def ltr (c : Int) : Bool := decide (97 ≤ c ∧ c ≤ 122)
def dg (c : Int) : Bool := decide (48 ≤ c ∧ c ≤ 57)
def hx (c : Int) : Bool := decide (48 ≤ c ∧ c ≤ 57 ∨ 97 ≤ c ∧ c ≤ 102 ∨ 65 ≤ c ∧ c ≤ 70)
def esc (c : Int) : Bool := decide (c = 34 ∨ c = 92 ∨ c = 47 ∨ c = 98 ∨ c = 102 ∨ c = 110 ∨ c = 114 ∨ c = 116)
/-- How many bytes ahead are so. -/
def rw (p : Int → Bool) : List UInt8 → Nat
  | [] => 0
  | c :: l => if p (c.toNat : Int) then rw p l + 1 else 0
theorem rw_le (p : Int → Bool) : ∀ l, rw p l ≤ l.length
  | [] => Nat.le_refl _
  | c :: l => by
    have := rw_le p l
    simp only [rw, List.length_cons]; split <;> omega
theorem rw_at {p : Int → Bool} (h0 : p 0 = false) {l : List UInt8} {k : Nat} : rw p (l.drop k) = if p (bt l k) = true then rw p (l.drop (k + 1)) + 1 else 0 := by
  by_cases hk : k < l.length
  · rw [List.drop_eq_getElem_cons hk, rw]
    have : bt l k = ((l[k]).toNat : Int) := by simp [bt, hk]
    rw [this]
  · rw [List.drop_eq_nil_of_le (by omega), bt_far (by omega), h0]; rfl
theorem rw_pos {p : Int → Bool} (h0 : p 0 = false) {l : List UInt8} (h : p (bt l 0) = true) : 0 < rw p l := by
  have := rw_at (p := p) h0 (l := l) (k := 0)
  rw [List.drop_zero, h, if_pos rfl] at this
  omega
/-- Where the parts of a number end. -/
def intE (l : List UInt8) (j : Nat) : Nat := if bt l j = 48 then j + 1 else j + rw dg (l.drop j)
def frE (l : List UInt8) (k : Nat) : Nat := if bt l k = 46 ∧ dg (bt l (k + 1)) = true then k + 1 + rw dg (l.drop (k + 1)) else k
def sgE (l : List UInt8) (k : Nat) : Nat := if bt l k = 43 ∨ bt l k = 45 then k + 1 else k
def exE (l : List UInt8) (k : Nat) : Nat := if (bt l k = 101 ∨ bt l k = 69) ∧ dg (bt l (sgE l (k + 1))) = true then sgE l (k + 1) + rw dg (l.drop (sgE l (k + 1))) else k
def mnE (l : List UInt8) : Nat := if bt l 0 = 45 then 1 else 0
def nmE (l : List UInt8) : Nat := exE l (frE l (intE l (mnE l)))
/-- A string's end from a place on, or where it is wrong. -/
inductive SR where
  | ok (n : Nat)
  | bad (n : Nat)
def h4 (l : List UInt8) (i : Nat) : Option Nat :=
  if hx (bt l (i + 1)) = false then some (i + 1) else if hx (bt l (i + 2)) = false then some (i + 2) else if hx (bt l (i + 3)) = false then some (i + 3) else if hx (bt l (i + 4)) = false then some (i + 4) else none
def strE (l : List UInt8) (i : Nat) : SR :=
  if h : i < l.length then
    if bt l i = 34 then .ok (i + 1)
    else if bt l i < 32 then .bad i
    else if bt l i ≠ 92 then strE l (i + 1)
    else if i + 1 = l.length then .bad (i + 1)
    else if bt l (i + 1) = 117 then
      match h4 l (i + 1) with
      | some a => .bad a
      | none => strE l (i + 6)
    else if esc (bt l (i + 1)) = true then strE l (i + 2)
    else .bad (i + 1)
  else .bad l.length
termination_by l.length - i
def words (l : List UInt8) : Bool := decide (l = [116, 114, 117, 101] ∨ l = [102, 97, 108, 115, 101] ∨ l = [110, 117, 108, 108])
/-- A token: its kind, and how long it is; or where the text is wrong. -/
inductive TR where
  | tok (k n : Nat)
  | bad (n : Nat)
def nx (l : List UInt8) : TR :=
  if l = [] then .bad 0
  else if spc (bt l 0) = true then .tok 0 (rw spc l)
  else if mrk (bt l 0) = true then .tok 1 1
  else if ltr (bt l 0) = true then (if words (l.take (rw ltr l)) = true then .tok 2 (rw ltr l) else .bad 0)
  else if bt l 0 = 45 ∨ dg (bt l 0) = true then (if dg (bt l (mnE l)) = true then .tok 3 (nmE l) else .bad (mnE l))
  else if bt l 0 = 34 then (match strE l 1 with | .ok n => .tok 4 n | .bad n => .bad n)
  else .bad 0
/-- All tokens from a place on: kind, from, to; and where the text is wrong. -/
def tks (l : List UInt8) (i : Nat) : List (Nat × Nat × Nat) × Option Nat :=
  if _h : i < l.length then
    match nx (l.drop i) with
    | .tok k n => if _h2 : 0 < n then ((k, i, i + n) :: (tks l (i + n)).1, (tks l (i + n)).2) else ([], some i)
    | .bad n => ([], some (i + n))
  else ([], none)
termination_by l.length - i
end Jk
end Go.Proofs.YtggeiajbcehkjaaGreatDoor
/- JSON's tokens as lists: a token's bytes alone are that token; a mark behind changes none. -/
namespace Go.Proofs.YtggeiajbcehkjaaGreatDoor
open Go.RowKit
namespace Jk

theorem dg_iff {c : Int} : dg c = true ↔ 48 ≤ c ∧ c ≤ 57 := by simp [dg]
theorem dg0 : dg 0 = false := rfl
theorem spc0 : spc 0 = false := rfl
theorem ltr0 : ltr 0 = false := rfl
theorem dg_in {l : List UInt8} {k : Nat} (h : dg (bt l k) = true) : k < l.length := bt_in (by have := dg_iff.1 h; omega)
theorem rw_in (p : Int → Bool) (l : List UInt8) {k : Nat} (h : k ≤ l.length) : k + rw p (l.drop k) ≤ l.length := by
  have := rw_le p (l.drop k)
  rw [List.length_drop] at this
  omega
theorem rw_dg {l : List UInt8} {k : Nat} (h : dg (bt l k) = true) : 0 < rw dg (l.drop k) := by rw [rw_at dg0, if_pos h]; omega
-- the parts of a number
theorem intE_gt {l : List UInt8} {j : Nat} (h : dg (bt l j) = true) : j < intE l j ∧ intE l j ≤ l.length := by
  have h1 := dg_in h
  have h2 := rw_in dg l (Nat.le_of_lt h1)
  have h3 := rw_dg h
  unfold intE
  split <;> omega
theorem frE_ge {l : List UInt8} {k : Nat} (hk : k ≤ l.length) : k ≤ frE l k ∧ frE l k ≤ l.length := by
  unfold frE
  split
  · rename_i h
    have h1 := dg_in h.2
    have h2 := rw_in dg l (Nat.le_of_lt h1)
    omega
  · omega
theorem sgE_ge (l : List UInt8) (k : Nat) : k ≤ sgE l k ∧ sgE l k ≤ k + 1 := by unfold sgE; split <;> omega
theorem exE_ge {l : List UInt8} {k : Nat} (hk : k ≤ l.length) : k ≤ exE l k ∧ exE l k ≤ l.length := by
  unfold exE
  split
  · rename_i h
    have h1 := dg_in h.2
    have h2 := rw_in dg l (Nat.le_of_lt h1)
    have h3 := sgE_ge l (k + 1)
    omega
  · omega
theorem nmE_gt {l : List UInt8} (h : dg (bt l (mnE l)) = true) : mnE l < nmE l ∧ nmE l ≤ l.length := by
  have h1 := intE_gt h
  have h2 := frE_ge h1.2
  have h3 := exE_ge h2.2
  unfold nmE
  omega
-- strings
theorem h4_none {l : List UInt8} {i : Nat} (h : h4 l i = none) : hx (bt l (i + 1)) = true ∧ hx (bt l (i + 2)) = true ∧ hx (bt l (i + 3)) = true ∧ hx (bt l (i + 4)) = true := by
  unfold h4 at h
  split at h
  · cases h
  · rename_i g1
    split at h
    · cases h
    · rename_i g2
      split at h
      · cases h
      · rename_i g3
        split at h
        · cases h
        · rename_i g4
          simp only [Bool.not_eq_false] at g1 g2 g3 g4
          exact ⟨g1, g2, g3, g4⟩
theorem hx_in {l : List UInt8} {k : Nat} (h : hx (bt l k) = true) : k < l.length := bt_in (by intro e; rw [e] at h; revert h; decide)
theorem esc_in {l : List UInt8} {k : Nat} (h : esc (bt l k) = true) : k < l.length := bt_in (by intro e; rw [e] at h; revert h; decide)
theorem strE_ok {l : List UInt8} : ∀ (m i n : Nat), l.length - i ≤ m → strE l i = .ok n → i < n ∧ n ≤ l.length
  | m, i, n, hm, h => by
    rw [strE] at h
    split at h
    · rename_i hi
      split at h
      · injection h with h; omega
      · split at h
        · cases h
        · split at h
          · cases m with
            | zero => omega
            | succ m => have := strE_ok m (i + 1) n (by omega) h; omega
          · split at h
            · cases h
            · split at h
              · cases hq : h4 l (i + 1) with
                | some a => rw [hq] at h; cases h
                | none =>
                  rw [hq] at h
                  cases m with
                  | zero => omega
                  | succ m => have := strE_ok m (i + 6) n (by omega) h; omega
              · split at h
                · cases m with
                  | zero => omega
                  | succ m => have := strE_ok m (i + 2) n (by omega) h; omega
                · cases h
    · cases h
end Jk
end Go.Proofs.YtggeiajbcehkjaaGreatDoor
/- JSON's tokens as lists: what a token is told by; its bytes alone; with a mark behind. -/
namespace Go.Proofs.YtggeiajbcehkjaaGreatDoor
open Go.RowKit
namespace Jk

theorem ne_of {l : List UInt8} (h : bt l 0 ≠ 0) : l ≠ [] := by rintro rfl; exact h rfl
theorem spc_v {c : Int} : spc c = true ↔ c = 32 ∨ c = 9 ∨ c = 10 ∨ c = 13 := by simp [spc]
theorem mrk_v {c : Int} : mrk c = true ↔ c = 123 ∨ c = 125 ∨ c = 91 ∨ c = 93 ∨ c = 44 ∨ c = 58 := by simp [mrk]
theorem ltr_v {c : Int} : ltr c = true ↔ 97 ≤ c ∧ c ≤ 122 := by simp [ltr]
theorem spc_no {c : Int} (h : ¬ (c = 32 ∨ c = 9 ∨ c = 10 ∨ c = 13)) : spc c = false := decide_eq_false h
theorem mrk_no {c : Int} (h : ¬ (c = 123 ∨ c = 125 ∨ c = 91 ∨ c = 93 ∨ c = 44 ∨ c = 58)) : mrk c = false := decide_eq_false h
theorem ltr_no {c : Int} (h : ¬ (97 ≤ c ∧ c ≤ 122)) : ltr c = false := decide_eq_false h
theorem nx_space {l : List UInt8} (h : spc (bt l 0) = true) : nx l = .tok 0 (rw spc l) := by
  have := spc_v.1 h
  rw [nx, if_neg (ne_of (by omega)), if_pos h]
theorem nx_mark {l : List UInt8} (h : mrk (bt l 0) = true) : nx l = .tok 1 1 := by
  have := mrk_v.1 h
  rw [nx, if_neg (ne_of (by omega)), if_neg (by rw [spc_no (by omega)]; simp), if_pos h]
theorem nx_letter {l : List UInt8} (h : ltr (bt l 0) = true) : nx l = if words (l.take (rw ltr l)) = true then .tok 2 (rw ltr l) else .bad 0 := by
  have := ltr_v.1 h
  rw [nx, if_neg (ne_of (by omega)), if_neg (by rw [spc_no (by omega)]; simp), if_neg (by rw [mrk_no (by omega)]; simp), if_pos h]
theorem nx_digit {l : List UInt8} (h : bt l 0 = 45 ∨ dg (bt l 0) = true) : nx l = if dg (bt l (mnE l)) = true then .tok 3 (nmE l) else .bad (mnE l) := by
  have : bt l 0 = 45 ∨ 48 ≤ bt l 0 ∧ bt l 0 ≤ 57 := h.imp id dg_iff.1
  rw [nx, if_neg (ne_of (by omega)), if_neg (by rw [spc_no (by omega)]; simp), if_neg (by rw [mrk_no (by omega)]; simp), if_neg (by rw [ltr_no (by omega)]; simp), if_pos h]
theorem nx_quote {l : List UInt8} (h : bt l 0 = 34) : nx l = match strE l 1 with | .ok n => .tok 4 n | .bad n => .bad n := by
  rw [nx, if_neg (ne_of (by omega)), if_neg (by rw [spc_no (by omega)]; simp), if_neg (by rw [mrk_no (by omega)]; simp), if_neg (by rw [ltr_no (by omega)]; simp), if_neg (by
    rintro (g | g)
    · omega
    · have := dg_iff.1 g; omega), if_pos h]
  all_goals (cases strE l 1 <;> rfl)
theorem nx_other {l : List UInt8} (h1 : spc (bt l 0) = false) (h2 : mrk (bt l 0) = false) (h3 : ltr (bt l 0) = false) (h4 : bt l 0 ≠ 45) (h5 : dg (bt l 0) = false) (h6 : bt l 0 ≠ 34) : nx l = .bad 0 := by
  rw [nx]
  split
  · rfl
  · rw [if_neg (by rw [h1]; simp), if_neg (by rw [h2]; simp), if_neg (by rw [h3]; simp), if_neg (by rw [h5]; simp [h4])]
    try rw [if_neg h6]
/-- What a token is. -/
inductive TK (l : List UInt8) : Nat → Nat → Prop where
  | space (h : spc (bt l 0) = true) : TK l 0 (rw spc l)
  | mark (h : mrk (bt l 0) = true) : TK l 1 1
  | word (h : ltr (bt l 0) = true) (h2 : words (l.take (rw ltr l)) = true) : TK l 2 (rw ltr l)
  | num (h : bt l 0 = 45 ∨ dg (bt l 0) = true) (h2 : dg (bt l (mnE l)) = true) : TK l 3 (nmE l)
  | str (n : Nat) (h : bt l 0 = 34) (h2 : strE l 1 = .ok n) : TK l 4 n
theorem tk_of {l : List UInt8} {k n : Nat} (h : nx l = .tok k n) : TK l k n := by
  cases h1 : spc (bt l 0)
  · cases h2 : mrk (bt l 0)
    · cases h3 : ltr (bt l 0)
      · by_cases h4 : bt l 0 = 45 ∨ dg (bt l 0) = true
        · rw [nx_digit h4] at h
          split at h
          · rename_i g; injection h with a b; subst a b; exact .num h4 g
          · cases h
        · by_cases h5 : bt l 0 = 34
          · rw [nx_quote h5] at h
            cases hs : strE l 1 with
            | ok m => rw [hs] at h; injection h with a b; subst a b; exact .str m h5 hs
            | bad m => rw [hs] at h; cases h
          · rw [nx_other h1 h2 h3 (fun g => h4 (.inl g)) (by cases g : dg (bt l 0)
                                                             · rfl
                                                             · exact absurd (.inr g) h4) h5] at h
            cases h
      · rw [nx_letter h3] at h
        split at h
        · rename_i g; injection h with a b; subst a b; exact .word h3 g
        · cases h
    · rw [nx_mark h2] at h; injection h with a b; subst a b; exact .mark h2
  · rw [nx_space h1] at h; injection h with a b; subst a b; exact .space h1
theorem nx_of {l : List UInt8} {k n : Nat} (h : TK l k n) : nx l = .tok k n := by
  cases h with
  | space h => exact nx_space h
  | mark h => exact nx_mark h
  | word h h2 => rw [nx_letter h, if_pos h2]
  | num h h2 => rw [nx_digit h, if_pos h2]
  | str n h h2 => rw [nx_quote h, h2]
theorem tk_len {l : List UInt8} {k n : Nat} (h : TK l k n) : 0 < n ∧ n ≤ l.length := by
  cases h with
  | space h => exact ⟨rw_pos spc0 h, rw_le _ _⟩
  | mark h => exact ⟨by omega, bt_in (by have := mrk_v.1 h; omega)⟩
  | word h h2 => exact ⟨rw_pos ltr0 h, rw_le _ _⟩
  | num h h2 => have := nmE_gt h2; omega
  | str n h h2 => have := strE_ok _ 1 n (Nat.le_refl _) h2; omega
end Jk
end Go.Proofs.YtggeiajbcehkjaaGreatDoor
/- JSON's tokens as lists: a mark behind changes no token; all tokens of two texts with a mark between. -/
namespace Go.Proofs.YtggeiajbcehkjaaGreatDoor
open Go.RowKit
namespace Jk

section
variable {l b : List UInt8} {c : UInt8} (hc : mrk (c.toNat : Int) = true)
include hc
end
/-- A round of all tokens. -/
theorem tks_tok {l : List UInt8} {i k n : Nat} (h : TK (l.drop i) k n) : tks l i = ((k, i, i + n) :: (tks l (i + n)).1, (tks l (i + n)).2) := by
  have hn := tk_len h
  rw [List.length_drop] at hn
  rw [tks, dif_pos (by omega), nx_of h]
  show (if h2 : 0 < n then _ else _) = _
  rw [dif_pos hn.1]
theorem tks_bad {l : List UInt8} {i n : Nat} (hi : i < l.length) (h : nx (l.drop i) = .bad n) : tks l i = ([], some (i + n)) := by
  rw [tks, dif_pos hi, h]
theorem tks_end {l : List UInt8} {i : Nat} (hi : l.length ≤ i) : tks l i = ([], none) := by
  rw [tks, dif_neg (by omega)]
def sh (d : Nat) (t : Nat × Nat × Nat) : Nat × Nat × Nat := (t.1, t.2.1 + d, t.2.2 + d)
end Jk
end Go.Proofs.YtggeiajbcehkjaaGreatDoor
/- JSON documents as lists: the parser of tokens, by recursion; its trees. -/
namespace Go.Proofs.YtggeiajbcehkjaaGreatDoor
open Go.RowKit
namespace Jt
open Jk (sh)
abbrev Bs := List UInt8
abbrev Tok := Nat × Nat × Nat

mutual
/-- A value: a scalar, a list, a map; and what stands in one (of a list: keys and spots of nothing). -/
inductive JV where
  | sc (kind : Nat) (text : Bs) (span : Nat × Nat)
  | box (map : Bool) (span : Nat × Nat) (items : JI)
inductive JI where
  | nil
  | cons (key : Bs) (spot : Nat × Nat) (v : JV) (rest : JI)
end
/-- What the parser asks of a text: a string's runes, a number's normal form; what is told at the end of the tokens. -/
structure Env where
  l : Bs
  rq : Bs → Except (Nat × Nat) Bs
  rn : Bs → Except Nat Bs
  en : Nat × Nat
def Env.by (E : Env) (t : Tok) : Bs := (E.l.take t.2.2).drop t.2.1
def Env.mk? (E : Env) (t : Tok) (c : Int) : Bool := decide (t.1 = 1 ∧ bt (E.by t) 0 = c)
/-- What a step answers: done, with the tokens that are left; a fault; or no more steps. -/
inductive PR (α : Type) where
  | ok (a : α) (rest : List Tok)
  | bad (c a : Nat)
  | out
def null : Bs := [110, 117, 108, 108]
def comma (E : Env) (first : Bool) (T : List Tok) : PR Unit :=
  if first = true then .ok () T
  else match T with
    | [] => .bad E.en.1 E.en.2
    | t :: r => if E.mk? t 44 = true then .ok () r else .bad 3 t.2.1
def entry (E : Env) (m : Bool) (ks : List Bs) (T : List Tok) : PR (Bs × (Nat × Nat)) :=
  if m = false then .ok ([], (0, 0)) T
  else match T with
    | [] => .bad E.en.1 E.en.2
    | t :: r =>
      if t.1 = 4 then
        match E.rq (E.by t) with
        | .error (c, a) => .bad c (t.2.1 + a)
        | .ok s =>
          if s ∈ ks then .bad 5 t.2.1
          else match r with
            | [] => .bad E.en.1 E.en.2
            | u :: r2 => if E.mk? u 58 = true then .ok (s, t.2) r2 else .bad 3 u.2.1
      else .bad 3 t.2.1
/-- The mark at which it ends. -/
def enM (m : Bool) : Int := if m = true then 125 else 93
mutual
def pv (E : Env) : Nat → Nat → List Tok → PR JV
  | 0, _, _ => .out
  | _ + 1, _, [] => .bad E.en.1 E.en.2
  | f + 1, d, t :: r =>
    if t.1 = 2 then (if E.by t = null then .ok (.sc 0 [] t.2) r else .ok (.sc 1 (E.by t) t.2) r)
    else if t.1 = 3 then (match E.rn (E.by t) with | .error c => .bad c t.2.1 | .ok s => .ok (.sc 2 s t.2) r)
    else if t.1 = 4 then (match E.rq (E.by t) with | .error (c, a) => .bad c (t.2.1 + a) | .ok s => .ok (.sc 3 s t.2) r)
    else if E.mk? t 91 = true ∨ E.mk? t 123 = true then
      if d = 256 then .bad 4 t.2.1
      else match pl E f d (E.mk? t 123) true [] r with
        | .ok (is, e) r2 => .ok (.box (E.mk? t 123) (t.2.1, e) is) r2
        | .bad c a => .bad c a
        | .out => .out
    else .bad 3 t.2.1
def pl (E : Env) : Nat → Nat → Bool → Bool → List Bs → List Tok → PR (JI × Nat)
  | 0, _, _, _, _, _ => .out
  | _ + 1, _, _, _, _, [] => .bad E.en.1 E.en.2
  | f + 1, d, m, first, ks, t :: r =>
    if E.mk? t (enM m) = true then .ok (.nil, t.2.2) r
    else match comma E first (t :: r) with
      | .bad c a => .bad c a
      | .out => .out
      | .ok _ T1 =>
        match entry E m ks T1 with
        | .bad c a => .bad c a
        | .out => .out
        | .ok (k, sp) T2 =>
          match pv E f (d + 1) T2 with
          | .bad c a => .bad c a
          | .out => .out
          | .ok v T3 =>
            match pl E f d m false (ks ++ [k]) T3 with
            | .bad c a => .bad c a
            | .out => .out
            | .ok (is, e) T4 => .ok (.cons k sp v is, e) T4
end
/-- A tree's nodes, from a number on. -/
structure Nd where
  kind : Nat
  text : Bs
  keys : List Bs
  spots : List (Nat × Nat)
  subs : List Nat
  span : Nat × Nat
mutual
def JV.size : JV → Nat
  | .sc _ _ _ => 1
  | .box _ _ is => is.size + 1
def JI.size : JI → Nat
  | .nil => 0
  | .cons _ _ v r => v.size + r.size
end
def JI.keys : JI → List Bs
  | .nil => []
  | .cons k _ _ r => k :: r.keys
def JI.spots : JI → List (Nat × Nat)
  | .nil => []
  | .cons _ s _ r => s :: r.spots
def JI.subs : Nat → JI → List Nat
  | _, .nil => []
  | n, .cons _ _ v r => n :: r.subs (n + v.size)
mutual
def JV.nds : Nat → JV → List Nd
  | _, .sc k t sp => [⟨k, t, [], [], [], sp⟩]
  | n, .box m sp is => ⟨if m = true then 8 else 7, [], if m = true then is.keys else [], if m = true then is.spots else [], is.subs (n + 1), sp⟩ :: is.nds (n + 1)
def JI.nds : Nat → JI → List Nd
  | _, .nil => []
  | n, .cons _ _ v r => v.nds n ++ r.nds (n + v.size)
end
/-! ### Steps suffice; what is left is less -/
end Jt
end Go.Proofs.YtggeiajbcehkjaaGreatDoor
/- JSON documents as lists: a value's tokens alone, wherever they stand, and whatever stands behind, are that value, by its places. -/
namespace Go.Proofs.YtggeiajbcehkjaaGreatDoor
open Go.RowKit
namespace Jt
open Jk (sh)

def up2 (p : Nat) (s : Nat × Nat) : Nat × Nat := (s.1 + p, s.2 + p)
mutual
/-- A value's places, so much later. -/
def JV.up (p : Nat) : JV → JV
  | .sc k t sp => .sc k t (up2 p sp)
  | .box m sp is => .box m (up2 p sp) (is.up p m)
def JI.up (p : Nat) (m : Bool) : JI → JI
  | .nil => .nil
  | .cons k s v r => .cons k (if m = true then up2 p s else s) (v.up p) (r.up p m)
end
/-- What two parsers have in common, of tokens that stand p later in the second one's text. -/
structure Alike (E E' : Env) (p : Nat) (seg' : List Tok) : Prop where
  rq : E'.rq = E.rq
  rn : E'.rn = E.rn
  by_ : ∀ t ∈ seg', E'.by t = E.by (sh p t)
section
variable {E E' : Env} {p : Nat} {a b : List Tok}
theorem Alike.left (h : Alike E E' p (a ++ b)) : Alike E E' p a := ⟨h.rq, h.rn, fun t ht => h.by_ t (List.mem_append_left _ ht)⟩
theorem Alike.right (h : Alike E E' p (a ++ b)) : Alike E E' p b := ⟨h.rq, h.rn, fun t ht => h.by_ t (List.mem_append_right _ ht)⟩
theorem Alike.tail {t : Tok} (h : Alike E E' p (t :: b)) : Alike E E' p b := ⟨h.rq, h.rn, fun u hu => h.by_ u (List.mem_cons_of_mem _ hu)⟩
theorem Alike.head {t : Tok} (h : Alike E E' p (t :: b)) : E'.by t = E.by (sh p t) := h.by_ t (List.mem_cons_self ..)
theorem Alike.mark {t : Tok} (h : Alike E E' p (t :: b)) (c : Int) : E'.mk? t c = E.mk? (sh p t) c := by
  unfold Env.mk?
  rw [h.head]; rfl
end
end Jt
end Go.Proofs.YtggeiajbcehkjaaGreatDoor
/- JSON documents as lists: each node's value; where it begins and ends; its own tokens. -/
namespace Go.Proofs.YtggeiajbcehkjaaGreatDoor
open Go.RowKit
namespace Jt
open Jk (sh)

mutual
/-- The value that is node n of a value's nodes. -/
def JV.at_ : Nat → JV → Option JV
  | 0, v => some v
  | _ + 1, .sc _ _ _ => none
  | n + 1, .box _ _ is => is.at_ n
def JI.at_ : Nat → JI → Option JV
  | _, .nil => none
  | n, .cons _ _ v r => if n < v.size then v.at_ n else r.at_ (n - v.size)
end
def JV.span : JV → Nat × Nat
  | .sc _ _ sp => sp
  | .box _ sp _ => sp
end Jt
end Go.Proofs.YtggeiajbcehkjaaGreatDoor
/- JSON documents as lists: nodes are told in the order in which they begin; one that stands in another one lies within it. -/
namespace Go.Proofs.YtggeiajbcehkjaaGreatDoor
open Go.RowKit
namespace Jt

/-- Tokens stand one behind the other. -/
def Ord (T : List Tok) : Prop := (∀ t ∈ T, t.2.1 < t.2.2) ∧ T.Pairwise fun a b => a.2.2 ≤ b.2.1
theorem Ord.right {a b : List Tok} (h : Ord (a ++ b)) : Ord b := ⟨fun t ht => h.1 t (List.mem_append_right _ ht), (List.pairwise_append.1 h.2).2.1⟩
theorem Ord.left {a b : List Tok} (h : Ord (a ++ b)) : Ord a := ⟨fun t ht => h.1 t (List.mem_append_left _ ht), (List.pairwise_append.1 h.2).1⟩
end Jt
end Go.Proofs.YtggeiajbcehkjaaGreatDoor
