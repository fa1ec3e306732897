/- TOML's integers as lists of bytes: the reading, the normal form, the order (lists alone, no program). -/
import Derived.Test.YtbeefjhcbphiaaaGreatDoorProg
import Derived.Test.YtbeefjhcbphiaaaGreatDoorGe
import Derived.Lib.IndexAny
import Derived.Lib.Replace
import Derived.Lib.IndexBytes
import Derived.Lib.IndexMore
import Derived.Lib.Join
namespace Go.Proofs.YtbeefjhcbphiaaaGreatDoor.II

namespace In
/-- A digit's sign, in small letters. -/
def ch (d : Nat) : UInt8 := if d < 10 then UInt8.ofNat (48 + d) else UInt8.ofNat (87 + d)
/-- A number's digits of a base (of at least 2). -/
def dN (b n : Nat) : List UInt8 := if _h : 2 ≤ b ∧ b ≤ n then dN b (n / b) ++ [ch (n % b)] else [ch n]
termination_by n
decreasing_by exact Nat.div_lt_self (by omega) _h.1
/-- A digit's value; 99: none. -/
def dg (c : UInt8) : Nat := if 48 ≤ c.toNat ∧ c.toNat ≤ 57 then c.toNat - 48 else if 97 ≤ c.toNat ∧ c.toNat ≤ 102 then c.toNat - 87 else if 65 ≤ c.toNat ∧ c.toNat ≤ 70 then c.toNat - 55 else 99
/-- The value of digits, with low marks between some; p: a digit stands ahead. -/
def vl (b : Nat) : Bool → Nat → List UInt8 → Option Nat
  | _, n, [] => some n
  | p, n, c :: r => if c = 95 then (if p = true ∧ r ≠ [] then vl b false n r else none) else if dg c < b then vl b true (n * b + dg c) r else none
inductive R where
  | ok (t : List UInt8)
  | syn
  | big
deriving DecidableEq
/-- Base, sign, and what stands behind both. -/
def pre (l : List UInt8) : Nat × Bool × List UInt8 := match l with
  | 48 :: 120 :: r => (16, false, r)
  | 48 :: 111 :: r => (8, false, r)
  | 48 :: 98 :: r => (2, false, r)
  | 43 :: r => (10, false, r)
  | 45 :: r => (10, true, r)
  | r => (10, false, r)
/-- A number's normal form. -/
def nf (m : Bool) (n : Nat) : List UInt8 := if m = true ∧ n ≠ 0 then 45 :: dN 10 n else dN 10 n
def fin (m : Bool) : Option Nat → R
  | none => .syn
  | some n => if n > (if m = true then 9223372036854775808 else 9223372036854775807) then .big else .ok (nf m n)
def body (b : Nat) (m : Bool) (r : List UInt8) : R := if r = [] ∨ b = 10 ∧ 1 < r.length ∧ r.head? = some 48 then .syn else fin m (vl b false 0 r)
def rd (l : List UInt8) : R := body (pre l).1 (pre l).2.1 (pre l).2.2
/-- Is a text a normal form? -/
def nor (l : List UInt8) : Bool := decide (rd l = .ok l)
/-- A normal form's value. -/
def val (l : List UInt8) : Int := match l with
  | 45 :: r => -(((vl 10 false 0 r).getD 0 : Nat) : Int)
  | r => (((vl 10 false 0 r).getD 0 : Nat) : Int)
def sgn (a b : Int) : Int := if a < b then -1 else if b < a then 1 else 0
def cm (a b : List UInt8) : Int := if nor a = true ∧ nor b = true then sgn (val a) (val b) else 0

theorem dN_lt {b n : Nat} (h : n < b) : dN b n = [ch n] := by rw [dN, dif_neg (by omega)]
theorem dN_ge {b n : Nat} (hb : 2 ≤ b) (h : b ≤ n) : dN b n = dN b (n / b) ++ [ch (n % b)] := by rw [dN, dif_pos ⟨hb, h⟩]
theorem dg_ch {d : Nat} (h : d < 16) : dg (ch d) = d := by
  have : (List.range 16).all (fun d => dg (ch d) == d) = true := by decide +kernel
  simpa using (List.all_eq_true.1 this) d (List.mem_range.2 h)
theorem ch_ne {d : Nat} (h : d < 16) : ch d ≠ 95 := by
  have : (List.range 16).all (fun d => ch d != 95) = true := by decide +kernel
  simpa using (List.all_eq_true.1 this) d (List.mem_range.2 h)
theorem vl_nil (b : Nat) (p : Bool) (n : Nat) : vl b p n [] = some n := by cases p <;> rfl
theorem vl_ch {b d : Nat} (hd : d < b) (hb : b ≤ 16) (p : Bool) (n : Nat) (r : List UInt8) : vl b p n (ch d :: r) = vl b true (n * b + d) r := by
  rw [vl, if_neg (ch_ne (by omega)), dg_ch (by omega), if_pos hd]
/-- Digits ahead of others. -/
theorem vl_dN {b : Nat} (hb : 2 ≤ b) (hb2 : b ≤ 16) : ∀ (n : Nat) (p : Bool) (r : List UInt8), vl b p 0 (dN b n ++ r) = vl b true n r := fun n => by
  induction n using Nat.strongRecOn with
  | _ n ih =>
    intro p r
    by_cases h : b ≤ n
    · have hd : n / b < n := Nat.div_lt_self (by omega) (by omega)
      rw [dN_ge hb h, List.append_assoc, ih (n / b) hd, List.singleton_append, vl_ch (Nat.mod_lt _ (by omega)) hb2, Nat.mul_comm]
      rw [Nat.div_add_mod]
    · rw [dN_lt (by omega), List.singleton_append, vl_ch (by omega) hb2]; simp
theorem dN_ne (b n : Nat) : dN b n ≠ [] := by rw [dN]; split <;> simp
theorem vl_dN' {b : Nat} (hb : 2 ≤ b) (hb2 : b ≤ 16) (n : Nat) (p : Bool) : vl b p 0 (dN b n) = some n := by
  have := vl_dN hb hb2 n p []
  rwa [List.append_nil, vl_nil] at this
/-- The first digit of a number that is not 0 is not 0. -/
theorem dN_head {b : Nat} (hb : 2 ≤ b) (hb2 : b ≤ 16) : ∀ {n : Nat}, n ≠ 0 → ∃ d r, dN b n = ch d :: r ∧ 0 < d ∧ d < b := fun {n} => by
  induction n using Nat.strongRecOn with
  | _ n ih =>
    intro hn
    by_cases h : b ≤ n
    · have hd : n / b < n := Nat.div_lt_self (by omega) (by omega)
      have h0 : n / b ≠ 0 := by have := Nat.div_pos h (by omega); omega
      obtain ⟨d, r, e, h1, h2⟩ := ih (n / b) hd h0
      exact ⟨d, r ++ [ch (n % b)], by rw [dN_ge hb h, e]; rfl, h1, h2⟩
    · exact ⟨n, [], dN_lt (by omega), by omega, by omega⟩
theorem ch_48 {d : Nat} (h : d < 16) (h0 : 0 < d) : ch d ≠ 48 := by
  have : (List.range 16).all (fun d => d == 0 || ch d != 48) = true := by decide +kernel
  have := (List.all_eq_true.1 this) d (List.mem_range.2 h)
  simp at this
  rcases this with h | h
  · omega
  · exact h
theorem ch_signs {d : Nat} (h : d < 16) : ch d ≠ 43 ∧ ch d ≠ 45 := by
  have : (List.range 16).all (fun d => ch d != 43 && ch d != 45) = true := by decide +kernel
  simpa using (List.all_eq_true.1 this) d (List.mem_range.2 h)
theorem dN_zero {b : Nat} (hb : 2 ≤ b) : dN b 0 = [48] := by rw [dN_lt (by omega)]; rfl
/-- Digits of base 10 alone: nothing stands ahead of them. -/
theorem pre_dN (n : Nat) : pre (dN 10 n) = (10, false, dN 10 n) := by
  by_cases h0 : n = 0
  · subst h0; rw [dN_zero (by omega)]; rfl
  · obtain ⟨d, r, e, h1, h2⟩ := dN_head (b := 10) (by omega) (by omega) h0
    rw [e]
    have n0 := ch_48 (d := d) (by omega) h1
    obtain ⟨n1, n2⟩ := ch_signs (d := d) (by omega)
    unfold pre
    split
    · rename_i h; injection h with h _; exact absurd h n0
    · rename_i h; injection h with h _; exact absurd h n0
    · rename_i h; injection h with h _; exact absurd h n0
    · rename_i h; injection h with h _; exact absurd h n1
    · rename_i h; injection h with h _; exact absurd h n2
    · rfl
theorem pre_minus (r : List UInt8) : pre (45 :: r) = (10, true, r) := rfl
theorem pre_plus (r : List UInt8) : pre (43 :: r) = (10, false, r) := rfl
theorem body_dN (m : Bool) (n : Nat) : body 10 m (dN 10 n) = fin m (some n) := by
  rw [body, if_neg, vl_dN' (by omega) (by omega)]
  rintro (h | ⟨_, h1, h2⟩)
  · exact dN_ne _ _ h
  · by_cases h0 : n = 0
    · subst h0; rw [dN_zero (by omega)] at h1; simp at h1
    · obtain ⟨d, r, e, h3, h4⟩ := dN_head (b := 10) (by omega) (by omega) h0
      rw [e] at h2
      simp at h2
      exact ch_48 (d := d) (by omega) h3 h2
/-- A number within 64 bits reads as its normal form, and as itself. -/
theorem rd_dN (n : Nat) : rd (dN 10 n) = fin false (some n) := by rw [rd, pre_dN]; exact body_dN _ _
theorem rd_minus (n : Nat) : rd (45 :: dN 10 n) = fin true (some n) := by rw [rd, pre_minus]; exact body_dN _ _
theorem rd_plus (n : Nat) : rd (43 :: dN 10 n) = fin false (some n) := by rw [rd, pre_plus]; exact body_dN _ _
def lim (m : Bool) : Nat := if m = true then 9223372036854775808 else 9223372036854775807
theorem fin_ok {m : Bool} {n : Nat} (h : n ≤ lim m) : fin m (some n) = .ok (nf m n) := by
  unfold fin lim at *
  simp only
  rw [if_neg (by omega)]
theorem fin_big {m : Bool} {n : Nat} (h : lim m < n) : fin m (some n) = .big := by
  unfold fin lim at *
  simp only
  rw [if_pos (by omega)]
/-- A value's normal form. -/
def nfI (v : Int) : List UInt8 := if v < 0 then 45 :: dN 10 (-v).toNat else dN 10 v.toNat
theorem nf_nfI (m : Bool) (n : Nat) : nf m n = nfI (if m = true then -(n : Int) else n) := by
  unfold nf nfI
  cases m with
  | false => simp; intro h; omega
  | true =>
    by_cases h : n = 0
    · subst h; simp
    · rw [if_pos ⟨rfl, h⟩, if_pos rfl, if_pos (by omega)]; congr 2; omega
def fits (v : Int) : Prop := -9223372036854775808 ≤ v ∧ v ≤ 9223372036854775807
theorem rd_nfI {v : Int} (h : fits v) : rd (nfI v) = .ok (nfI v) := by
  obtain ⟨h1, h2⟩ := h
  unfold nfI
  by_cases hv : v < 0
  · rw [if_pos hv, rd_minus, fin_ok (by simp [lim]; omega), nf, if_pos ⟨rfl, by omega⟩]
  · rw [if_neg hv, rd_dN, fin_ok (by simp [lim]; omega), nf, if_neg (by simp)]
theorem nor_nfI {v : Int} (h : fits v) : nor (nfI v) = true := by rw [nor, decide_eq_true_eq]; exact rd_nfI h
/-- What is read is a normal form of a value that fits. -/
theorem rd_ok {l t : List UInt8} (h : rd l = .ok t) : ∃ v, fits v ∧ t = nfI v := by
  unfold rd body at h
  split at h
  · cases h
  · cases hv : vl (pre l).1 false 0 (pre l).2.2 with
    | none => rw [hv] at h; cases h
    | some n =>
      rw [hv] at h
      by_cases hn : n ≤ lim (pre l).2.1
      · rw [fin_ok hn] at h
        cases h
        refine ⟨if (pre l).2.1 = true then -(n : Int) else n, ?_, nf_nfI _ _⟩
        unfold fits
        revert hn
        unfold lim
        cases (pre l).2.1 <;> simp <;> omega
      · rw [fin_big (by omega)] at h; cases h
theorem nor_iff {l : List UInt8} : nor l = true ↔ ∃ v, fits v ∧ l = nfI v := by
  constructor
  · intro h
    rw [nor, decide_eq_true_eq] at h
    exact rd_ok h
  · rintro ⟨v, h, rfl⟩; exact nor_nfI h
theorem val_nfI (v : Int) : val (nfI v) = v := by
  unfold nfI
  by_cases hv : v < 0
  · rw [if_pos hv]
    show -(((vl 10 false 0 (dN 10 (-v).toNat)).getD 0 : Nat) : Int) = v
    rw [vl_dN' (by omega) (by omega)]; simp; omega
  · rw [if_neg hv]
    have hd : ∀ r, dN 10 v.toNat ≠ 45 :: r := by
      intro r e
      by_cases h0 : v.toNat = 0
      · rw [h0, dN_zero (by omega)] at e; cases e
      · obtain ⟨d, r', e', h1, h2⟩ := dN_head (b := 10) (by omega) (by omega) h0
        rw [e'] at e
        injection e with e _
        exact (ch_signs (d := d) (by omega)).2 e
    unfold val
    split
    · rename_i r e; exact absurd e (hd r)
    · rw [vl_dN' (by omega) (by omega)]; simp; omega
theorem cm_nfI {a b : Int} (ha : fits a) (hb : fits b) : cm (nfI a) (nfI b) = sgn a b := by
  rw [cm, if_pos ⟨nor_nfI ha, nor_nfI hb⟩, val_nfI, val_nfI]
end In
end Go.Proofs.YtbeefjhcbphiaaaGreatDoor.II
/- What landed, over lists: digits parted by low marks, their amount, its sign. -/
namespace Go.Proofs.YtbeefjhcbphiaaaGreatDoor.II

namespace In
/-- Are there digits of a base, with one low mark between two of them at most; p: a digit stands ahead. -/
def spc (b : Nat) : Bool → List UInt8 → Bool
  | p, [] => p
  | p, c :: r => if c = 95 then (if p = true then spc b false r else false) else if dg c < b then spc b true r else false
theorem spc_vl (b : Nat) : ∀ (r : List UInt8) (p : Bool) (n : Nat), r ≠ [] ∨ p = true → (vl b p n r).isSome = spc b p r
  | [], p, n, h => by
    rcases h with h | h
    · exact absurd rfl h
    · subst h; rfl
  | c :: r, p, n, _ => by
    rw [vl, spc]
    by_cases hc : c = 95
    · rw [if_pos hc, if_pos hc]
      by_cases hp : p = true
      · rw [if_pos hp]
        by_cases hr : r = []
        · subst hr; rw [if_neg (fun h => h.2 rfl)]; rfl
        · rw [if_pos ⟨hp, hr⟩]; exact spc_vl b r false n (.inl hr)
      · rw [if_neg hp, if_neg (fun h => hp h.1)]; rfl
    · rw [if_neg hc, if_neg hc]
      by_cases hd : dg c < b
      · rw [if_pos hd, if_pos hd]; exact spc_vl b r true _ (.inr rfl)
      · rw [if_neg hd, if_neg hd]; rfl
/-- The amount of digits, as far as it is no more than may be. -/
def amt (b most : Nat) : Nat → List UInt8 → Option Nat
  | m, [] => some m
  | m, c :: r => if c = 95 then amt b most m r else if (most - dg c) / b < m then none else amt b most (m * b + dg c) r
/-- Bytes that are digits of a base, or low marks. -/
def okB (b : Nat) (r : List UInt8) : Prop := ∀ c ∈ r, c = 95 ∨ dg c < b
theorem spc_ok (b : Nat) : ∀ (r : List UInt8) (p : Bool), spc b p r = true → okB b r
  | [], _, _ => fun _ h => by cases h
  | c :: r, p, h => by
    rw [spc] at h
    intro x hx
    by_cases hc : c = 95
    · rw [if_pos hc] at h
      cases p
      · cases h
      · rw [if_pos rfl] at h
        rcases List.mem_cons.1 hx with rfl | hx
        · exact .inl hc
        · exact spc_ok b r false h x hx
    · rw [if_neg hc] at h
      by_cases hd : dg c < b
      · rw [if_pos hd] at h
        rcases List.mem_cons.1 hx with rfl | hx
        · exact .inr hd
        · exact spc_ok b r true h x hx
      · rw [if_neg hd] at h; cases h
theorem vl_ge {b : Nat} (hb : 0 < b) : ∀ (r : List UInt8) (p : Bool) (n v : Nat), vl b p n r = some v → n ≤ v
  | [], p, n, v, h => by rw [vl_nil] at h; injection h with h; omega
  | c :: r, p, n, v, h => by
    rw [vl] at h
    split at h
    · split at h
      · exact vl_ge hb r _ _ _ h
      · cases h
    · split at h
      · have h1 := vl_ge hb r _ _ _ h
        have h2 : n * 1 ≤ n * b := Nat.mul_le_mul_left n hb
        omega
      · cases h
theorem vl_amt {b most : Nat} (hb : 0 < b) (hm : b ≤ most) : ∀ (r : List UInt8) (p : Bool) (n v : Nat), n ≤ most → vl b p n r = some v → amt b most n r = if v ≤ most then some v else none
  | [], p, n, v, hn, h => by rw [vl_nil] at h; injection h with h; subst h; rw [amt, if_pos hn]
  | c :: r, p, n, v, hn, h => by
    rw [vl] at h
    rw [amt]
    split at h
    · rename_i hc
      rw [if_pos hc]
      split at h
      · exact vl_amt hb hm r _ _ _ hn h
      · cases h
    · rename_i hc
      rw [if_neg hc]
      split at h
      · rename_i hd
        by_cases hq : (most - dg c) / b < n
        · rw [if_pos hq, if_neg]
          have h1 := vl_ge hb r _ _ _ h
          have h2 := (Nat.div_lt_iff_lt_mul hb).1 hq
          omega
        · rw [if_neg hq]
          have h2 : n ≤ (most - dg c) / b := by omega
          have h3 := (Nat.le_div_iff_mul_le hb).1 h2
          exact vl_amt hb hm r _ _ _ (by omega) h
      · cases h
theorem lim_le (m : Bool) : 9223372036854775807 ≤ lim m ∧ lim m ≤ 9223372036854775808 := by cases m <;> simp [lim]
/-- A text's value with its sign, and its parts: what is read of it. -/
def sg2 (m : Bool) (v : Nat) : Int := if m = true then -(v : Int) else v
theorem fin_some (m : Bool) (v : Nat) : fin m (some v) = if v ≤ lim m then .ok (nfI (sg2 m v)) else .big := by
  by_cases h : v ≤ lim m
  · rw [if_pos h, fin_ok h, nf_nfI]; rfl
  · rw [if_neg h, fin_big (by omega)]
/-- Is a text an integer's? -/
def good (b : Nat) (r : List UInt8) : Bool := !decide (b = 10 ∧ 1 < r.length ∧ r.head? = some 48) && spc b false r
theorem spc_nil (b : Nat) : spc b false [] = false := rfl
theorem body_bad {b : Nat} {m : Bool} {r : List UInt8} (h : good b r = false) : body b m r = .syn := by
  unfold body
  by_cases h1 : r = [] ∨ b = 10 ∧ 1 < r.length ∧ r.head? = some 48
  · rw [if_pos h1]
  · rw [if_neg h1]
    have h2 : ¬ (b = 10 ∧ 1 < r.length ∧ r.head? = some 48) := fun h => h1 (.inr h)
    unfold good at h
    rw [decide_eq_false h2] at h
    have hs : spc b false r = false := by simpa using h
    rw [← spc_vl b r false 0 (.inl (fun h => h1 (.inl h)))] at hs
    cases hv : vl b false 0 r with
    | none => rfl
    | some v => rw [hv] at hs; cases hs
theorem body_good {b : Nat} {m : Bool} {r : List UInt8} (h : good b r = true) : ∃ v, vl b false 0 r = some v ∧ body b m r = fin m (some v) ∧ okB b r := by
  unfold good at h
  simp only [Bool.and_eq_true, Bool.not_eq_true', decide_eq_false_iff_not] at h
  obtain ⟨h2, hs⟩ := h
  have hr : r ≠ [] := by rintro rfl; cases hs
  have ho := spc_ok b r false hs
  rw [← spc_vl b r false 0 (.inl hr), Option.isSome_iff_exists] at hs
  obtain ⟨v, hv⟩ := hs
  refine ⟨v, hv, ?_, ho⟩
  unfold body
  rw [if_neg (by rintro (h | h); exact hr h; exact h2 h), hv]
end In
end Go.Proofs.YtbeefjhcbphiaaaGreatDoor.II
/- TOML's floats as lists of bytes: low marks, the parts of a text, their forms (lists alone, no program). -/
namespace Go.Proofs.YtbeefjhcbphiaaaGreatDoor
namespace Fl
open De

/-- Does a digit stand first? -/
def hdd : List UInt8 → Bool
  | [] => false
  | c :: _ => nb c
/-- Does each low mark stand between two digits? p: a digit stands ahead. -/
def mks : Bool → List UInt8 → Bool
  | _, [] => true
  | p, c :: r => if c = 95 then p && hdd r && mks false r else mks (nb c) r
/-- The text without low marks. -/
def st (l : List UInt8) : List UInt8 := l.filter (fun c => c != 95)
/-- A run of digits, with single marks between: how many bytes, and the digits. -/
def rn : Bool → List UInt8 → Nat × List UInt8
  | _, [] => (0, [])
  | p, c :: r => if nb c = true then ((rn true r).1 + 1, c :: (rn true r).2) else if c = 95 ∧ p = true ∧ hdd r = true then ((rn false r).1 + 1, (rn false r).2) else (0, [])
/-- An exponent's letter. -/
def isE (c : UInt8) : Bool := c == 101 || c == 69
/-- The part ahead of the point; the one behind it, with it; the exponent, with its letter. -/
def cw : List UInt8 → List UInt8 × List UInt8 × List UInt8
  | [] => ([], [], [])
  | c :: t => if c = 46 then ([], 46 :: t.takeWhile (fun x => !isE x), t.dropWhile (fun x => !isE x)) else if isE c = true then ([], [], c :: t) else (c :: (cw t).1, (cw t).2.1, (cw t).2.2)
def digs (d : List UInt8) : Bool := decide (d ≠ []) && d.all nb
def num (d : List UInt8) : Bool := digs d && !decide (1 < d.length ∧ d.head? = some 48)
/-- Without a sign. -/
def uns : List UInt8 → List UInt8
  | 43 :: r => r
  | 45 :: r => r
  | r => r
/-- The sign alone. -/
def sgo : List UInt8 → List UInt8
  | 43 :: _ => [43]
  | 45 :: _ => [45]
  | _ => []
/-- Parts without marks: is each of its form? -/
def snd0 (w p e : List UInt8) : Bool := num w && (decide (p = []) || digs (p.drop 1)) && (decide (e = []) || digs (uns (e.drop 1)))
/-- Digits, with one mark between two of them at most. -/
def sp : Bool → List UInt8 → Bool
  | p, [] => p
  | p, c :: r => if c = 95 then p && sp false r else nb c && sp true r
/-- Parts with marks. -/
def snd (w p e : List UInt8) : Bool := II.In.good 10 w && (decide (p = []) || sp false (p.drop 1)) && (decide (e = []) || sp false (uns (e.drop 1)))

theorem nb95 : nb 95 = false := by decide
theorem nb46 : nb 46 = false := by decide
theorem nbE {c : UInt8} (h : isE c = true) : nb c = false := by
  simp only [isE, Bool.or_eq_true, beq_iff_eq] at h
  rcases h with rfl | rfl <;> decide
theorem E95 {c : UInt8} (h : isE c = true) : c ≠ 95 := by rintro rfl; revert h; decide
theorem E46 {c : UInt8} (h : isE c = true) : c ≠ 46 := by rintro rfl; revert h; decide
theorem st_nil : st [] = [] := rfl
theorem st_95 (r : List UInt8) : st (95 :: r) = st r := rfl
theorem st_cons {c : UInt8} (h : c ≠ 95) (r : List UInt8) : st (c :: r) = c :: st r := by simp [st, h]
theorem st_app (a b : List UInt8) : st (a ++ b) = st a ++ st b := by simp [st]
theorem st_len (a : List UInt8) : (st a).length ≤ a.length := List.length_filter_le ..
theorem nb_ne95 {c : UInt8} (h : nb c = true) : c ≠ 95 := by rintro rfl; rw [nb95] at h; cases h
/-- What is digits with marks, in other words. -/
theorem sp_mks : ∀ (l : List UInt8) (p : Bool), sp p l = if l = [] then p else mks p l && (st l).all nb
  | [], p => by rw [if_pos rfl]; rfl
  | c :: r, p => by
    rw [if_neg (by simp), sp, mks]
    by_cases hc : c = 95
    · subst hc
      rw [if_pos rfl, if_pos rfl, st_95, sp_mks r false]
      cases r with
      | nil => cases p <;> rfl
      | cons d r =>
        rw [if_neg (by simp)]
        by_cases hd : d = 95
        · subst hd; simp [mks, hdd, nb95]
        · cases h : nb d
          · rw [st_cons hd]; simp [hdd, h]
          · simp [hdd, h, Bool.and_assoc]
    · rw [if_neg hc, if_neg hc, st_cons hc, List.all_cons]
      cases h : nb c
      · simp
      · rw [sp_mks r true]
        cases r with
        | nil => rfl
        | cons d r => simp
theorem mks_st {l : List UInt8} (h : mks false l = true) (h2 : st l = []) : l = [] := by
  cases l with
  | nil => rfl
  | cons c r =>
    by_cases hc : c = 95
    · subst hc; simp [mks] at h
    · rw [st_cons hc] at h2; cases h2
theorem sp_false (l : List UInt8) : sp false l = (mks false l && digs (st l)) := by
  rw [sp_mks, digs]
  by_cases hl : l = []
  · subst hl; rfl
  · rw [if_neg hl]
    cases h : mks false l
    · rfl
    · rw [decide_eq_true (show st l ≠ [] from fun h2 => hl (mks_st h h2))]; simp
theorem dg10 (c : UInt8) : (II.In.dg c < 10) ↔ nb c = true := by
  unfold II.In.dg nb nmr
  have := c.toNat_lt
  simp only [Bool.and_eq_true, decide_eq_true_eq]
  split
  · constructor <;> intro _ <;> omega
  · split
    · constructor <;> intro _ <;> omega
    · split <;> constructor <;> intro _ <;> omega
theorem spc_sp : ∀ (l : List UInt8) (p : Bool), II.In.spc 10 p l = sp p l
  | [], p => rfl
  | c :: r, p => by
    rw [II.In.spc, sp]
    by_cases hc : c = 95
    · rw [if_pos hc, if_pos hc, spc_sp r false]; cases p <;> simp
    · rw [if_neg hc, if_neg hc, spc_sp r true]
      by_cases h : nb c = true
      · rw [if_pos ((dg10 c).2 h), h]; simp
      · rw [if_neg (fun h2 => h ((dg10 c).1 h2))]; simp [h]
theorem good_num (w : List UInt8) : II.In.good 10 w = (mks false w && num (st w)) := by
  unfold II.In.good num
  rw [spc_sp, sp_false]
  cases hm : mks false w
  · simp
  · cases hd : digs (st w)
    · simp
    · simp only [Bool.true_and, Bool.and_true]
      congr 1
      apply decide_eq_decide.2
      cases w with
      | nil => simp [st_nil]
      | cons c r =>
        by_cases hc : c = 95
        · subst hc; simp [mks] at hm
        · rw [st_cons hc]
          simp only [List.length_cons, List.head?_cons, true_and]
          constructor
          · rintro ⟨h1, h2⟩
            refine ⟨?_, h2⟩
            have hr : r ≠ [] := by rintro rfl; simp at h1
            have h3 : st r ≠ [] := by
              intro h3
              rw [mks, if_neg hc] at hm
              cases r with
              | nil => exact hr rfl
              | cons d r =>
                by_cases hd' : d = 95
                · subst hd'
                  rw [st_95] at h3
                  rw [mks, if_pos rfl] at hm
                  cases r with
                  | nil => simp [hdd] at hm
                  | cons x r =>
                    by_cases hx : x = 95
                    · subst hx; simp [hdd, nb95] at hm
                    · rw [st_cons hx] at h3; cases h3
                · rw [st_cons hd'] at h3; cases h3
            have := List.length_pos_iff.2 h3
            omega
          · rintro ⟨h1, h2⟩
            have := st_len r
            exact ⟨by omega, h2⟩
theorem hdd_app {c : UInt8} (h : nb c = false) (a b : List UInt8) : hdd (a ++ c :: b) = hdd a := by
  cases a with
  | nil => simp [hdd, h]
  | cons => rfl
/-- A byte that is neither a digit nor a mark parts the marks. -/
theorem mks_app {c : UInt8} (h : nb c = false) (h2 : c ≠ 95) (b : List UInt8) : ∀ (a : List UInt8) (p : Bool), mks p (a ++ c :: b) = (mks p a && mks false b)
  | [], p => by
    show mks p (c :: b) = (true && mks false b)
    rw [mks, if_neg h2, h]; rfl
  | d :: a, p => by
    rw [List.cons_append, mks, mks]
    by_cases hd : d = 95
    · rw [if_pos hd, if_pos hd, mks_app h h2 b a false, hdd_app h]; simp [Bool.and_assoc]
    · rw [if_neg hd, if_neg hd, mks_app h h2 b a _]
theorem uns_mks (x : List UInt8) : mks false (uns x) = mks false x := by
  unfold uns
  split
  · rw [mks, if_neg (by decide)]; rfl
  · rw [mks, if_neg (by decide)]; rfl
  · rfl
theorem uns_other {c : UInt8} {r : List UInt8} (h1 : c ≠ 43) (h2 : c ≠ 45) : uns (c :: r) = c :: r := by
  unfold uns
  split
  · rename_i h; injection h with h _; exact absurd h h1
  · rename_i h; injection h with h _; exact absurd h h2
  · rfl
theorem sgo_other {c : UInt8} {r : List UInt8} (h1 : c ≠ 43) (h2 : c ≠ 45) : sgo (c :: r) = [] := by
  unfold sgo
  split
  · rename_i h; injection h with h _; exact absurd h h1
  · rename_i h; injection h with h _; exact absurd h h2
  · rfl
theorem sgo_uns (x : List UInt8) : sgo x ++ uns x = x := by
  cases x with
  | nil => rfl
  | cons c r =>
    by_cases h1 : c = 43
    · subst h1; rfl
    · by_cases h2 : c = 45
      · subst h2; rfl
      · rw [uns_other h1 h2, sgo_other h1 h2]; rfl
/-- A text that begins with no mark: the sign, and what is behind it, with marks taken off. -/
theorem uns_st {x : List UInt8} (h : x.head? ≠ some 95) : uns (st x) = st (uns x) ∧ sgo (st x) = sgo x := by
  cases x with
  | nil => exact ⟨rfl, rfl⟩
  | cons c r =>
    have hc : c ≠ 95 := by rintro rfl; exact h rfl
    rw [st_cons hc]
    by_cases h1 : c = 43
    · subst h1; exact ⟨rfl, rfl⟩
    · by_cases h2 : c = 45
      · subst h2; exact ⟨rfl, rfl⟩
      · rw [uns_other h1 h2, uns_other h1 h2, st_cons hc, sgo_other h1 h2, sgo_other h1 h2]; exact ⟨rfl, rfl⟩
end Fl
end Go.Proofs.YtbeefjhcbphiaaaGreatDoor
/- TOML's floats as lists: the parts found one behind the other are the parts cut (lists alone). -/
namespace Go.Proofs.YtbeefjhcbphiaaaGreatDoor
namespace Fl
open De

theorem cw_app : ∀ t : List UInt8, (cw t).1 ++ ((cw t).2.1 ++ (cw t).2.2) = t
  | [] => rfl
  | c :: t => by
    rw [cw]
    split
    · rename_i h; subst h; simp
    · split
      · simp
      · show c :: ((cw t).1 ++ ((cw t).2.1 ++ (cw t).2.2)) = c :: t
        rw [cw_app t]
theorem cw_w : ∀ (t : List UInt8), ∀ c ∈ (cw t).1, c ≠ 46 ∧ isE c = false
  | [] => by intro c h; cases h
  | d :: t => by
    intro c hc
    rw [cw] at hc
    by_cases h : d = 46
    · rw [if_pos h] at hc; cases hc
    · rw [if_neg h] at hc
      by_cases h2 : isE d = true
      · rw [if_pos h2] at hc; cases hc
      · rw [if_neg h2] at hc
        rcases List.mem_cons.1 hc with rfl | hc
        · exact ⟨h, by simpa using h2⟩
        · exact cw_w t c hc
theorem tk_mem {q : UInt8 → Bool} : ∀ (t : List UInt8), ∀ c ∈ t.takeWhile q, q c = true
  | [] => by intro c h; cases h
  | d :: t => by
    intro c hc
    rw [List.takeWhile_cons] at hc
    split at hc
    · rcases List.mem_cons.1 hc with rfl | hc
      · assumption
      · exact tk_mem t c hc
    · cases hc
theorem dr_head {q : UInt8 → Bool} : ∀ (t : List UInt8), t.dropWhile q = [] ∨ ∃ c X, t.dropWhile q = c :: X ∧ q c = false
  | [] => .inl rfl
  | d :: t => by
    rw [List.dropWhile_cons]
    split
    · exact dr_head t
    · rename_i h; exact .inr ⟨d, t, rfl, by simpa using h⟩
theorem cw_p : ∀ t : List UInt8, (cw t).2.1 = [] ∨ ∃ V, (cw t).2.1 = 46 :: V ∧ ∀ c ∈ V, isE c = false
  | [] => .inl rfl
  | d :: t => by
    rw [cw]
    split
    · exact .inr ⟨_, rfl, fun c hc => by simpa using tk_mem t c hc⟩
    · split
      · exact .inl rfl
      · exact cw_p t
theorem cw_e : ∀ t : List UInt8, (cw t).2.2 = [] ∨ ∃ c X, (cw t).2.2 = c :: X ∧ isE c = true
  | [] => .inl rfl
  | d :: t => by
    rw [cw]
    split
    · rcases dr_head (q := fun x => !isE x) t with h | ⟨c, X, h, h2⟩
      · exact .inl h
      · exact .inr ⟨c, X, h, by simpa using h2⟩
    · split
      · rename_i h; exact .inr ⟨d, t, rfl, h⟩
      · exact cw_e t
theorem tk_st {q : UInt8 → Bool} (h : q 95 = true) : ∀ t : List UInt8, (st t).takeWhile q = st (t.takeWhile q) ∧ (st t).dropWhile q = st (t.dropWhile q)
  | [] => ⟨rfl, rfl⟩
  | c :: t => by
    obtain ⟨a, b⟩ := tk_st h t
    by_cases hc : c = 95
    · subst hc
      rw [st_95, List.takeWhile_cons, List.dropWhile_cons, if_pos h, if_pos h, st_95]; exact ⟨a, b⟩
    · rw [st_cons hc, List.takeWhile_cons, List.dropWhile_cons, List.takeWhile_cons, List.dropWhile_cons]
      by_cases hq : q c = true
      · rw [if_pos hq, if_pos hq, if_pos hq, if_pos hq, st_cons hc, a]; exact ⟨rfl, b⟩
      · rw [if_neg hq, if_neg hq, if_neg hq, if_neg hq, st_cons hc]; exact ⟨rfl, rfl⟩
theorem cw_st : ∀ t : List UInt8, cw (st t) = (st (cw t).1, st (cw t).2.1, st (cw t).2.2)
  | [] => rfl
  | c :: t => by
    by_cases hc : c = 95
    · subst hc
      rw [st_95, cw_st t, cw, if_neg (by decide), if_neg (by decide), st_95]
    · rw [st_cons hc, cw, cw]
      by_cases h : c = 46
      · obtain ⟨a, b⟩ := tk_st (q := fun x => !isE x) (by decide) t
        rw [if_pos h, if_pos h, a, b, st_cons (by decide)]; rfl
      · rw [if_neg h, if_neg h]
        by_cases h2 : isE c = true
        · rw [if_pos h2, if_pos h2, st_cons hc]; rfl
        · rw [if_neg h2, if_neg h2, cw_st t, st_cons hc]
/-- The cuts as they were made: ahead of the letter first, then ahead of the point. -/
theorem cw_two : ∀ t : List UInt8, cw t = ((t.takeWhile (fun x => !isE x)).takeWhile (fun x => x != 46), (t.takeWhile (fun x => !isE x)).dropWhile (fun x => x != 46), t.dropWhile (fun x => !isE x))
  | [] => rfl
  | c :: t => by
    rw [cw]
    by_cases h : c = 46
    · subst h
      rw [if_pos rfl, List.takeWhile_cons, List.dropWhile_cons, if_pos (by decide), if_pos (by decide), List.takeWhile_cons, List.dropWhile_cons, if_neg (by decide), if_neg (by decide)]
    · rw [if_neg h]
      by_cases h2 : isE c = true
      · rw [if_pos h2, List.takeWhile_cons, List.dropWhile_cons, if_neg (by simp [h2]), if_neg (by simp [h2])]; rfl
      · rw [if_neg h2, List.takeWhile_cons, List.dropWhile_cons, if_pos (by simpa using h2), if_pos (by simpa using h2), List.takeWhile_cons, List.dropWhile_cons, if_pos (by simpa using h), if_pos (by simpa using h), cw_two t]
/-- An exponent's digits, behind its sign. -/
theorem sp_uns (x : List UInt8) : sp false (uns x) = (mks false x && digs (uns (st x))) := by
  rw [sp_false, uns_mks]
  by_cases h : x.head? = some 95
  · cases x with
    | nil => cases h
    | cons c r =>
      obtain rfl : c = 95 := by simpa using h
      rw [mks, if_pos rfl]; simp
  · rw [(uns_st h).1]
theorem snd_is (t : List UInt8) : snd (cw t).1 (cw t).2.1 (cw t).2.2 = (mks false t && snd0 (st (cw t).1) (st (cw t).2.1) (st (cw t).2.2)) := by
  have ht := cw_app t
  have hp := cw_p t
  have he := cw_e t
  generalize (cw t).1 = W at *
  generalize (cw t).2.1 = P at *
  generalize (cw t).2.2 = E at *
  unfold snd snd0
  rw [good_num]
  have n46 : (46 : UInt8) ≠ 95 := by decide
  rcases hp with rfl | ⟨V, rfl, -⟩ <;> rcases he with rfl | ⟨c, X, rfl, hc⟩
  · rw [← ht]; simp [st_nil]
  · rw [← ht, List.nil_append, mks_app (nbE hc) (E95 hc)]
    rw [st_cons (E95 hc), st_nil]
    simp only [List.drop_succ_cons, List.drop_zero, sp_uns, decide_true, Bool.true_or, Bool.and_true, reduceCtorEq, decide_false, Bool.false_or]
    cases mks false W <;> cases mks false X <;> simp
  · rw [← ht, List.append_nil, mks_app nb46 n46, st_cons n46, st_nil]
    simp only [List.drop_succ_cons, List.drop_zero, sp_false, decide_true, Bool.true_or, Bool.and_true, reduceCtorEq, decide_false, Bool.false_or]
    cases mks false W <;> cases mks false V <;> simp
  · rw [← ht, List.cons_append, mks_app nb46 n46, mks_app (nbE hc) (E95 hc), st_cons n46, st_cons (E95 hc)]
    simp only [List.drop_succ_cons, List.drop_zero, sp_uns, reduceCtorEq, decide_false, Bool.false_or]
    rw [sp_false]
    cases mks false W <;> cases mks false V <;> cases mks false X <;> simp
/-- A text of a float that is none of the special ones, without marks. -/
def shp (x : List UInt8) : Bool := (decide ((cw x).2.1 ≠ []) || decide ((cw x).2.2 ≠ [])) && snd0 (cw x).1 (cw x).2.1 (cw x).2.2
theorem st_part {t : List UInt8} : (st (cw t).2.1 = [] ↔ (cw t).2.1 = []) ∧ (st (cw t).2.2 = [] ↔ (cw t).2.2 = []) := by
  refine ⟨⟨fun h => ?_, fun h => by rw [h]; rfl⟩, fun h => ?_, fun h => by rw [h]; rfl⟩
  · rcases cw_p t with h2 | ⟨V, h2, _⟩
    · exact h2
    · rw [h2, st_cons (by decide)] at h; cases h
  · rcases cw_e t with h2 | ⟨c, X, h2, hc⟩
    · exact h2
    · rw [h2, st_cons (E95 hc)] at h; cases h
theorem shp_is (t : List UInt8) : ((decide ((cw t).2.1 ≠ []) || decide ((cw t).2.2 ≠ [])) && snd (cw t).1 (cw t).2.1 (cw t).2.2) = (mks false t && shp (st t)) := by
  rw [snd_is, shp, cw_st]
  simp only [ne_eq, st_part.1, st_part.2]
  cases mks false t <;> simp
/-- Runs. -/
theorem rn_le : ∀ (l : List UInt8) (p : Bool), (rn p l).1 ≤ l.length
  | [], p => Nat.le_refl _
  | c :: r, p => by
    rw [rn]
    split
    · have := rn_le r true; simp; omega
    · split
      · have := rn_le r false; simp; omega
      · simp
theorem rn_all : ∀ (l : List UInt8) (p : Bool), mks p l = true → (st l).all nb = true → rn p l = (l.length, st l)
  | [], p, _, _ => rfl
  | c :: r, p, h1, h2 => by
    rw [rn]
    by_cases hc : c = 95
    · subst hc
      rw [mks, if_pos rfl] at h1
      simp only [Bool.and_eq_true] at h1
      rw [st_95] at h2
      rw [if_neg (by rw [nb95]; simp), if_pos ⟨rfl, h1.1.1, h1.1.2⟩, rn_all r false h1.2 h2]; rfl
    · rw [mks, if_neg hc] at h1
      rw [st_cons hc, List.all_cons, Bool.and_eq_true] at h2
      rw [h2.1] at h1
      rw [if_pos h2.1, rn_all r true h1 h2.2, st_cons hc]; rfl
theorem rn_full : ∀ (l : List UInt8) (p : Bool), (rn p l).1 = l.length → mks p l = true ∧ (st l).all nb = true
  | [], p, _ => ⟨rfl, rfl⟩
  | c :: r, p, h => by
    rw [rn] at h
    by_cases hn : nb c = true
    · rw [if_pos hn] at h
      have hc := nb_ne95 hn
      obtain ⟨a, b⟩ := rn_full r true (by simpa using h)
      rw [mks, if_neg hc, hn, st_cons hc, List.all_cons, hn]; exact ⟨a, b⟩
    · rw [if_neg hn] at h
      by_cases hm : c = 95 ∧ p = true ∧ hdd r = true
      · rw [if_pos hm] at h
        obtain ⟨rfl, rfl, h3⟩ := hm
        obtain ⟨a, b⟩ := rn_full r false (by simpa using h)
        rw [mks, if_pos rfl, st_95, a, h3]; exact ⟨rfl, b⟩
      · rw [if_neg hm] at h; simp at h
theorem rn_stop {c : UInt8} (h : nb c = false) (h2 : c ≠ 95) (b : List UInt8) : ∀ (a : List UInt8) (p : Bool), rn p (a ++ c :: b) = rn p a
  | [], p => by
    show rn p (c :: b) = (0, [])
    rw [rn, if_neg (by rw [h]; simp), if_neg (fun h3 => h2 h3.1)]
  | d :: a, p => by
    rw [List.cons_append, rn, rn, hdd_app h, rn_stop h h2 b a true, rn_stop h h2 b a false]
end Fl
end Go.Proofs.YtbeefjhcbphiaaaGreatDoor
/- TOML's floats as lists: the document's way through a text, place by place, is the cuts' (lists alone). -/
namespace Go.Proofs.YtbeefjhcbphiaaaGreatDoor
namespace Fl
open De

/-- Where the sign ends, and what is met behind it. -/
def sg0 (l : List UInt8) : Nat := if bt l 0 = 43 ∨ bt l 0 = 45 then 1 else 0
def mn (l : List UInt8) : List UInt8 := if bt l 0 = 45 then [45] else []
def R1 (l : List UInt8) : Nat × List UInt8 := rn false (l.drop (sg0 l))
def p1 (l : List UInt8) : Nat := sg0 l + (R1 l).1
def dt (l : List UInt8) : Bool := decide (bt l (p1 l) = 46)
def R2 (l : List UInt8) : Nat × List UInt8 := rn false (l.drop (p1 l + 1))
def p2 (l : List UInt8) : Nat := if dt l = true then p1 l + 1 + (R2 l).1 else p1 l
def ex (l : List UInt8) : Bool := decide (bt l (p2 l) = 101 ∨ bt l (p2 l) = 69)
def es (l : List UInt8) : Bool := decide (bt l (p2 l + 1) = 43 ∨ bt l (p2 l + 1) = 45)
def p3 (l : List UInt8) : Nat := if es l = true then p2 l + 1 + 1 else p2 l + 1
def R3 (l : List UInt8) : Nat × List UInt8 := rn false (l.drop (p3 l))
def p4 (l : List UInt8) : Nat := if ex l = true then p3 l + (R3 l).1 else p2 l
def b1 (l : List UInt8) : Bool := !num (R1 l).2
def b2 (l : List UInt8) : Bool := dt l && decide ((R2 l).2 = [])
def b3 (l : List UInt8) : Bool := ex l && decide ((R3 l).2 = [])
def b4 (l : List UInt8) : Bool := decide (p4 l < l.length)
/-- Is something wrong on the way? -/
def bad (l : List UInt8) : Bool := b1 l || b2 l || b3 l || b4 l
/-- The text of the decimal that is told. -/
def tx (l : List UInt8) : List UInt8 := mn l ++ (R1 l).2 ++ (if dt l = true then 46 :: (R2 l).2 else []) ++ (if ex l = true then 101 :: ((if es l = true then [UInt8.ofNat (bt l (p2 l + 1)).toNat] else []) ++ (R3 l).2) else [])
abbrev INF : List UInt8 := [105, 110, 102]
abbrev NAN : List UInt8 := [110, 97, 110]
/-- The document's answer. -/
def docF (l : List UInt8) : List UInt8 × Int :=
  if l.drop (sg0 l) = INF then (mn l ++ INF, 0) else if l.drop (sg0 l) = NAN then (NAN, 0) else
  if bad l = true then ([], 3) else if dt l = false ∧ ex l = false then ([], 3) else rd (tx l)
/-- The answer by the cuts. -/
def rdF (l : List UInt8) : List UInt8 × Int :=
  if l.drop (sg0 l) = INF then (mn l ++ INF, 0) else if l.drop (sg0 l) = NAN then (NAN, 0) else
  if (mks false (l.drop (sg0 l)) && shp (st (l.drop (sg0 l)))) = true then rd (mn l ++ st (l.drop (sg0 l))) else ([], 3)

theorem sg0_le (l : List UInt8) : sg0 l ≤ l.length := by
  unfold sg0
  split
  · rename_i h
    rcases Nat.eq_zero_or_pos l.length with h2 | h2
    · rw [bt_far (by omega)] at h; omega
    · exact h2
  · omega
theorem rn_part (a : List UInt8) {b : List UInt8} (hb : b = [] ∨ ∃ c r, b = c :: r ∧ nb c = false ∧ c ≠ 95) (p : Bool) : rn p (a ++ b) = rn p a := by
  rcases hb with rfl | ⟨c, r, rfl, h1, h2⟩
  · rw [List.append_nil]
  · exact rn_stop h1 h2 r a p
theorem bt_mem {x : List UInt8} {k : Nat} (h : k < x.length) : ∃ c ∈ x, bt x k = (c.toNat : Int) := ⟨x[k], List.getElem_mem h, by simp [bt, h]⟩
theorem notE {c : UInt8} (h : isE c = false) : (c.toNat : Int) ≠ 101 ∧ (c.toNat : Int) ≠ 69 := by
  simp only [isE, Bool.or_eq_false_iff, beq_eq_false_iff_ne] at h
  refine ⟨fun e => h.1 (UInt8.toNat_inj.1 ?_), fun e => h.2 (UInt8.toNat_inj.1 ?_)⟩
  · show c.toNat = 101; omega
  · show c.toNat = 69; omega
theorem yesE {c : UInt8} (h : isE c = true) : (c.toNat : Int) = 101 ∨ (c.toNat : Int) = 69 := by
  simp only [isE, Bool.or_eq_true, beq_iff_eq] at h
  rcases h with rfl | rfl
  · left; rfl
  · right; rfl
theorem not46 {c : UInt8} (h : c ≠ 46) : (c.toNat : Int) ≠ 46 := fun e => h (UInt8.toNat_inj.1 (show c.toNat = 46 by omega))
/-- What is met, in terms of the cuts. -/
structure Met (l W P E : List UInt8) : Prop where
  hb : bad l = !snd W P E
  hdt : bad l = false → dt l = decide (P ≠ [])
  hex : bad l = false → ex l = decide (E ≠ [])
  htx : bad l = false → ∃ c X, (E = [] ∨ E = c :: X ∧ isE c = true) ∧ tx l = mn l ++ st W ++ st P ++ (if E = [] then [] else 101 :: st X)
theorem Met.off {l W P E : List UInt8} (h : bad l = true) (hs : snd W P E = false) : Met l W P E where
  hb := by rw [h, hs]; rfl
  hdt := by rw [h]; intro h; cases h
  hex := by rw [h]; intro h; cases h
  htx := by rw [h]; intro h; cases h
theorem num_all {w : List UInt8} (h : num w = true) : w.all nb = true := by
  simp only [num, digs, Bool.and_eq_true] at h; exact h.1.2
theorem digs_all {w : List UInt8} (h : digs w = true) : w.all nb = true := by
  simp only [digs, Bool.and_eq_true] at h; exact h.2
theorem bad_4 {l : List UInt8} (h : p4 l < l.length) : bad l = true := by
  unfold bad b4; rw [decide_eq_true h]; simp
theorem met_e {l W P E u : List UInt8} (hE : E = [] ∨ ∃ c X, E = c :: X ∧ isE c = true) (hlen : p2 l + E.length = l.length) (hu : l.drop (p2 l) = E) (hb1 : b1 l = !II.In.good 10 W) (hr1 : (R1 l).2 = st W)
    (hb2 : b2 l = !(decide (P = []) || sp false (P.drop 1))) (hd : dt l = decide (P ≠ [])) (hr2 : (if dt l = true then 46 :: (R2 l).2 else []) = st P) (_hu : u = u) : Met l W P E := by
  have hbt : ∀ k, bt l (p2 l + k) = bt E k := fun k => by rw [← bt_drop, hu]
  rcases hE with rfl | ⟨c, X, rfl, hc⟩
  · have hx : ex l = false := by
      unfold ex
      have := hbt 0
      rw [Nat.add_zero] at this
      rw [this]; rfl
    have h4 : p4 l = l.length := by unfold p4; rw [hx]; simpa using hlen
    have hbd : bad l = !snd W P [] := by
      unfold bad b3 b4 snd
      rw [hb1, hb2, hx, h4]; simp
    refine ⟨hbd, fun _ => hd, fun _ => by rw [hx]; rfl, fun _ => ⟨0, [], .inl rfl, ?_⟩⟩
    unfold tx; rw [hr1, hr2, hx]; simp
  · have hx : ex l = true := by
      unfold ex
      have := hbt 0
      rw [Nat.add_zero] at this
      rw [this]; exact decide_eq_true (yesE hc)
    have hx1 : ∀ k, bt l (p2 l + 1 + k) = bt X k := fun k => by rw [Nat.add_assoc, hbt]; simp [bt, Nat.add_comm 1 k]
    have hdr : l.drop (p2 l + 1) = X := by rw [← List.drop_drop, hu]; rfl
    have hes : es l = decide (sgo X ≠ []) ∧ l.drop (p3 l) = uns X ∧ (if es l = true then [UInt8.ofNat (bt l (p2 l + 1)).toNat] else []) = sgo X ∧ p3 l + (uns X).length = l.length := by
      have h0 := hx1 0
      rw [Nat.add_zero] at h0
      simp only [List.length_cons] at hlen
      cases X with
      | nil =>
        have e : es l = false := by unfold es; rw [h0]; rfl
        refine ⟨by rw [e]; rfl, ?_, by rw [e]; rfl, ?_⟩
        · unfold p3; rw [e]; exact hdr
        · unfold p3; rw [e]; simpa [uns] using hlen
      | cons y X =>
        rw [bt_cons] at h0
        by_cases h43 : y = 43
        · subst h43
          have e : es l = true := by unfold es; rw [h0]; rfl
          refine ⟨by rw [e]; rfl, ?_, ?_, ?_⟩
          · unfold p3; rw [e, if_pos rfl, ← List.drop_drop, hdr]; rfl
          · rw [e, if_pos rfl, h0]; rfl
          · unfold p3; rw [e, if_pos rfl]; simp only [uns, List.length_cons] at *; omega
        · by_cases h45 : y = 45
          · subst h45
            have e : es l = true := by unfold es; rw [h0]; rfl
            refine ⟨by rw [e]; rfl, ?_, ?_, ?_⟩
            · unfold p3; rw [e, if_pos rfl, ← List.drop_drop, hdr]; rfl
            · rw [e, if_pos rfl, h0]; rfl
            · unfold p3; rw [e, if_pos rfl]; simp only [uns, List.length_cons] at *; omega
          · have e : es l = false := by
              unfold es; rw [h0]
              apply decide_eq_false
              rintro (h | h)
              · exact h43 (UInt8.toNat_inj.1 (show y.toNat = 43 by omega))
              · exact h45 (UInt8.toNat_inj.1 (show y.toNat = 45 by omega))
            rw [uns_other h43 h45, sgo_other h43 h45]
            refine ⟨by rw [e]; rfl, ?_, by rw [e]; rfl, ?_⟩
            · unfold p3; rw [e]; exact hdr
            · unfold p3; rw [e]; simp only [List.length_cons] at *; simp; omega
    obtain ⟨_, hd3, hs3, hl3⟩ := hes
    have hR3 : R3 l = rn false (uns X) := by unfold R3; rw [hd3]
    have h4 : p4 l = p3 l + (rn false (uns X)).1 := by unfold p4; rw [if_pos hx, hR3]
    have hle := rn_le (uns X) false
    have hb34 : (b3 l || b4 l) = !sp false (uns X) := by
      unfold b3 b4
      rw [hx, hR3, sp_false, h4]
      by_cases hf : (rn false (uns X)).1 = (uns X).length
      · obtain ⟨m1, m2⟩ := rn_full _ _ hf
        rw [rn_all _ _ m1 m2, m1]
        have : ¬ (p3 l + (uns X).length < l.length) := by omega
        simp only [this, digs, m2]
        simp
      · have : p3 l + (rn false (uns X)).1 < l.length := by omega
        have hno : (mks false (uns X) && digs (st (uns X))) = false := by
          cases h : (mks false (uns X) && digs (st (uns X)))
          · rfl
          · rw [Bool.and_eq_true] at h
            exact absurd (by rw [rn_all _ _ h.1 (digs_all h.2)]) hf
        rw [hno]; simp [this]
    have hbd : bad l = !snd W P (c :: X) := by
      unfold bad snd
      rw [hb1, hb2, Bool.or_assoc, hb34]
      simp
    refine ⟨hbd, fun _ => hd, fun _ => by rw [hx]; rfl, fun hg => ⟨c, X, .inr ⟨rfl, hc⟩, ?_⟩⟩
    have hsp : sp false (uns X) = true := by
      have : (b3 l || b4 l) = false := by
        unfold bad at hg
        rw [Bool.or_assoc] at hg
        exact (Bool.or_eq_false_iff.1 hg).2
      rw [hb34] at this
      simpa using this
    rw [sp_false, Bool.and_eq_true] at hsp
    have hX95 : X.head? ≠ some 95 := by
      intro h
      cases X with
      | nil => cases h
      | cons y X =>
        obtain rfl : y = 95 := by simpa using h
        have := hsp.1
        rw [uns_other (by decide) (by decide), mks, if_pos rfl] at this
        simp at this
    unfold tx
    rw [hr1, hr2, if_pos hx, hs3, hR3, rn_all _ _ hsp.1 (digs_all hsp.2), if_neg (by simp), ← (uns_st hX95).1, ← (uns_st hX95).2, sgo_uns]
theorem met (l : List UInt8) : Met l (cw (l.drop (sg0 l))).1 (cw (l.drop (sg0 l))).2.1 (cw (l.drop (sg0 l))).2.2 := by
  obtain ⟨t, ht⟩ : ∃ t, t = l.drop (sg0 l) := ⟨_, rfl⟩
  rw [← ht]
  have hlen : sg0 l + t.length = l.length := by rw [ht, List.length_drop]; have := sg0_le l; omega
  have hbt : ∀ k, bt l (sg0 l + k) = bt t k := fun k => by rw [ht, bt_drop]
  have hdrop : ∀ k, l.drop (sg0 l + k) = t.drop k := fun k => by rw [ht, List.drop_drop]
  have happ := cw_app t
  have hw := cw_w t
  have hp := cw_p t
  have he := cw_e t
  have hR1 : R1 l = rn false t := by unfold R1; rw [ht]
  generalize (cw t).1 = W at *
  generalize (cw t).2.1 = P at *
  generalize (cw t).2.2 = E at *
  have hbE : E = [] ∨ ∃ c r, E = c :: r ∧ nb c = false ∧ c ≠ 95 := by
    rcases he with rfl | ⟨c, X, rfl, hc⟩
    · exact .inl rfl
    · exact .inr ⟨c, X, rfl, nbE hc, E95 hc⟩
  have hbPE : P ++ E = [] ∨ ∃ c r, P ++ E = c :: r ∧ nb c = false ∧ c ≠ 95 := by
    rcases hp with rfl | ⟨V, rfl, -⟩
    · exact hbE
    · exact .inr ⟨46, V ++ E, rfl, by decide, by decide⟩
  have hR1W : R1 l = rn false W := by rw [hR1, ← happ, rn_part W hbPE]
  have hle := rn_le W false
  have hlW : t.length = W.length + (P.length + E.length) := by rw [← happ]; simp
  by_cases hf : (rn false W).1 = W.length
  · obtain ⟨m1, m2⟩ := rn_full _ _ hf
    have hrW := rn_all _ _ m1 m2
    have hp1 : p1 l = sg0 l + W.length := by unfold p1; rw [hR1W, hf]
    have hr1 : (R1 l).2 = st W := by rw [hR1W, hrW]
    have hb1 : b1 l = !II.In.good 10 W := by unfold b1; rw [hr1, good_num, m1]; simp
    have hu : l.drop (p1 l) = P ++ E := by rw [hp1, hdrop, ← happ, List.drop_left]
    have hbu : ∀ k, bt l (p1 l + k) = bt (P ++ E) k := fun k => by rw [← bt_drop, hu]
    rcases hp with rfl | ⟨V, rfl, hV⟩
    · have hdt : dt l = false := by
        unfold dt
        have := hbu 0
        rw [Nat.add_zero] at this
        rw [this]
        rcases he with rfl | ⟨c, X, rfl, hc⟩
        · rfl
        · rw [List.nil_append, bt_cons]; exact decide_eq_false (by rcases yesE hc with h | h <;> omega)
      have hp2 : p2 l = p1 l := by unfold p2; rw [hdt]; rfl
      exact met_e (u := []) he (by rw [hp2, hp1]; simp at hlW; omega) (by rw [hp2, hu]; rfl) hb1 hr1 (by unfold b2; rw [hdt]; rfl) (by rw [hdt]; rfl) (by rw [hdt]; rfl) rfl
    · have hdt : dt l = true := by
        unfold dt
        have := hbu 0
        rw [Nat.add_zero] at this
        rw [this]; rfl
      have hd1 : l.drop (p1 l + 1) = V ++ E := by rw [← List.drop_drop, hu]; rfl
      have hR2 : R2 l = rn false V := by unfold R2; rw [hd1, rn_part V hbE]
      have hle2 := rn_le V false
      have hp2 : p2 l = p1 l + 1 + (rn false V).1 := by unfold p2; rw [if_pos hdt, hR2]
      simp only [List.length_cons] at hlW
      by_cases hf2 : (rn false V).1 = V.length
      · obtain ⟨n1, n2⟩ := rn_full _ _ hf2
        have hrV := rn_all _ _ n1 n2
        refine met_e (u := []) he (by rw [hp2, hf2, hp1]; omega) (by rw [hp2, hf2, ← List.drop_drop, hd1, List.drop_left]) hb1 hr1 ?_ (by rw [hdt]; rfl) (by rw [hdt, if_pos rfl, hR2, hrV, st_cons (by decide)]) rfl
        unfold b2
        rw [hdt, hR2, hrV]
        simp only [List.drop_succ_cons, List.drop_zero, sp_false, n1, digs, n2]
        simp
      · have hb2' : ∀ k, bt l (p1 l + 1 + k) = bt (V ++ E) k := fun k => by rw [← bt_drop, hd1]
        obtain ⟨c, hc, hbc⟩ := bt_mem (x := V) (k := (rn false V).1) (by omega)
        have hx : ex l = false := by
          unfold ex
          rw [hp2, hb2', bt_app_lt _ (by omega), hbc]
          exact decide_eq_false (by have := notE (hV c hc); omega)
        have h4 : p4 l < l.length := by unfold p4; rw [hx, hp2, hp1]; simp; omega
        have hbad := bad_4 h4
        have hs : snd W (46 :: V) E = false := by
          unfold snd
          simp only [List.drop_succ_cons, List.drop_zero, sp_false]
          cases h : (mks false V && digs (st V))
          · simp
          · rw [Bool.and_eq_true] at h
            exact absurd (by rw [rn_all _ _ h.1 (digs_all h.2)]) hf2
        exact Met.off hbad hs
  · obtain ⟨c, hc, hbc⟩ := bt_mem (x := W) (k := (rn false W).1) (by omega)
    have hb0 : bt l (p1 l) = (c.toNat : Int) := by
      unfold p1
      rw [hR1W, hbt, ← happ, bt_app_lt _ (by omega), hbc]
    have hdt : dt l = false := by unfold dt; rw [hb0]; exact decide_eq_false (not46 (hw c hc).1)
    have hp2 : p2 l = p1 l := by unfold p2; rw [hdt]; rfl
    have hx : ex l = false := by
      unfold ex
      rw [hp2, hb0]
      exact decide_eq_false (by have := notE (hw c hc).2; omega)
    have h4 : p4 l < l.length := by unfold p4; rw [hx, hp2]; unfold p1; rw [hR1W]; simp; omega
    have hbad := bad_4 h4
    have hs : snd W P E = false := by
      unfold snd
      rw [good_num]
      cases h : (mks false W && num (st W))
      · simp
      · rw [Bool.and_eq_true] at h
        exact absurd (by rw [rn_all _ _ h.1 (num_all h.2)]) hf
    exact Met.off hbad hs
end Fl
end Go.Proofs.YtbeefjhcbphiaaaGreatDoor
/- TOML's floats as lists: the document's answer is that by the cuts; JSON's numbers among them (lists alone). -/
namespace Go.Proofs.YtbeefjhcbphiaaaGreatDoor
namespace Fl
open De

/-- Alike but for an exponent's letter. -/
structure Eqv (l l' : List UInt8) : Prop where
  len : l.length = l'.length
  at_ : ∀ k, bt l k = bt l' k ∨ (bt l k = 101 ∨ bt l k = 69) ∧ (bt l' k = 101 ∨ bt l' k = 69)
section
variable {l l' : List UInt8} (h : Eqv l l')
include h
theorem Eqv.nmr (k : Nat) : nmr (bt l k) = nmr (bt l' k) := by
  rcases h.at_ k with e | ⟨a, b⟩
  · rw [e]
  · rw [nmr_no (by omega), nmr_no (by omega)]
theorem Eqv.digit {k : Nat} (hn : Go.Proofs.YtbeefjhcbphiaaaGreatDoor.De.nmr (bt l k) = true) : bt l k = bt l' k := by
  rcases h.at_ k with e | ⟨a, _⟩
  · exact e
  · rw [nmr_no (by omega)] at hn; cases hn
theorem Eqv.iff {k : Nat} {c : Int} (h1 : c ≠ 101) (h2 : c ≠ 69) : bt l k = c ↔ bt l' k = c := by
  rcases h.at_ k with e | ⟨a, b⟩
  · rw [e]
  · constructor <;> intro e <;> omega
theorem Eqv.e {k : Nat} : (bt l k = 101 ∨ bt l k = 69) ↔ (bt l' k = 101 ∨ bt l' k = 69) := by
  rcases h.at_ k with e | ⟨a, b⟩
  · rw [e]
  · exact ⟨fun _ => b, fun _ => a⟩
theorem Eqv.run (i : Nat) : runE l i = runE l' i := by
  by_cases hc : i < l.length ∧ Go.Proofs.YtbeefjhcbphiaaaGreatDoor.De.nmr (bt l i) = true
  · have hc' : i < l'.length ∧ Go.Proofs.YtbeefjhcbphiaaaGreatDoor.De.nmr (bt l' i) = true := by rw [← h.len, ← h.nmr]; exact hc
    rw [runE_on hc.1 hc.2, runE_on hc'.1 hc'.2]
    exact Eqv.run (i + 1)
  · have hc' : ¬ (i < l'.length ∧ Go.Proofs.YtbeefjhcbphiaaaGreatDoor.De.nmr (bt l' i) = true) := by rw [← h.len, ← h.nmr]; exact hc
    rw [runE_end hc, runE_end hc']
termination_by l.length - i
theorem Eqv.powA {e i : Nat} (n : Int) (hn : ∀ k, i ≤ k → k < e → Go.Proofs.YtbeefjhcbphiaaaGreatDoor.De.nmr (bt l k) = true) : powA l e i n = powA l' e i n := by
  by_cases hi : i < e
  · have hb := h.digit (hn i (Nat.le_refl _) hi)
    by_cases h2 : 10 * n + (bt l i - 48) > 1000000000
    · rw [powA_big hi h2, powA_big hi (by rw [← hb]; exact h2)]
    · rw [powA_on hi h2, powA_on hi (by rw [← hb]; exact h2), ← hb]
      exact Eqv.powA _ (fun k h1 h2 => hn k (by omega) h2)
  · rw [powA_end hi, powA_end hi]
termination_by e - i
theorem Eqv.sub {i j : Nat} (hn : ∀ k, i ≤ k → k < j → bt l k = bt l' k) : (l.take j).drop i = (l'.take j).drop i := by
  have hl := h.len
  apply List.ext_getElem
  · simp [hl]
  · intro n h1 h2
    simp only [List.length_drop, List.length_take] at h1 h2
    have := hn (i + n) (by omega) (by omega)
    have u1 : bt l (i + n) = ((l[i + n]'(by omega)).toNat : Int) := by simp [bt, show i + n < l.length by omega]
    have u2 : bt l' (i + n) = ((l'[i + n]'(by omega)).toNat : Int) := by simp [bt, show i + n < l'.length by omega]
    rw [u1, u2] at this
    simp only [List.getElem_drop, List.getElem_take]
    exact UInt8.toNat_inj.1 (by omega)
theorem rd_eqv : rd l = rd l' := by
  have e0 : q0 l = q0 l' := by unfold q0; simp only [h.iff (k := 0) (c := 45) (by omega) (by omega)]
  have e1 : q1 l = q1 l' := by unfold q1; rw [e0, h.run]
  have eb : bad1 l = bad1 l' := by unfold bad1; simp only [e1, e0, h.iff (c := 48) (by omega) (by omega)]
  have ed : dot l = dot l' := by unfold dot; simp only [e1, h.iff (c := 46) (by omega) (by omega)]
  have e2 : q2 l = q2 l' := by unfold q2; rw [ed, e1]
  have e3 : q3 l = q3 l' := by unfold q3; rw [ed, e2, e1, h.run]
  have ex : exq l = exq l' := by unfold exq; simp only [e3, h.e]
  have es : sgn l = sgn l' := by unfold sgn; simp only [e3, h.iff (c := 43) (by omega) (by omega), h.iff (c := 45) (by omega) (by omega)]
  have e4 : q4 l = q4 l' := by unfold q4; rw [ex, es, e3]
  have e5 : q5 l = q5 l' := by unfold q5; rw [ex, e4, e3, h.run]
  have ei : isB l = isB l' := by unfold isB; rw [eb, ed, e3, e2, ex, e5, e4, h.len]
  obtain ⟨o1, o2, o3, o4, o5, o6, o7, o8⟩ := q_order (l := l)
  have ep : powR l (q4 l) (q5 l) = powR l' (q4 l') (q5 l') := by
    unfold powR
    rw [h.powA 0 o8, ← e4, ← e5]
    simp only [h.iff (c := 45) (by omega) (by omega)]
  have hd1 : ∀ k, q0 l ≤ k → k < q1 l → bt l k = bt l' k := fun k a b => h.digit (runE_nmr l (q0 l) k a b)
  have hd2 : ∀ k, q2 l ≤ k → k < q3 l → bt l k = bt l' k := fun k a b => by
    unfold q3 at b
    split at b
    · exact h.digit (runE_nmr l (q2 l) k a b)
    · omega
  have eD : rdD l = rdD l' := by unfold rdD; rw [h.sub hd1, h.sub hd2, e0, e1, e2, e3]
  have eT : rdT l = rdT l' := by unfold rdT; rw [eD]
  have eN : rdN l = rdN l' := by unfold rdN; rw [ep, eD, e3, e2]
  unfold rd
  rw [ei, ep, eT, eN]
  simp only [h.iff (k := 0) (c := 45) (by omega) (by omega)]
end
theorem rd_letter {c : UInt8} (hc : isE c = true) (a b : List UInt8) : rd (a ++ 101 :: b) = rd (a ++ c :: b) := by
  apply rd_eqv
  refine ⟨by simp, fun k => ?_⟩
  rcases Nat.lt_trichotomy k a.length with h | h | h
  · left; rw [bt_app_lt _ h, bt_app_lt _ h]
  · right
    subst h
    rw [bt_app, bt_app, bt_cons, bt_cons]
    exact ⟨.inl rfl, yesE hc⟩
  · left
    rw [bt_app_ge _ _ (by omega), bt_app_ge _ _ (by omega), show k - a.length = (k - a.length - 1) + 1 by omega]
    simp [bt]
/-- The document's answer is that by the cuts. -/
theorem docF_is (l : List UInt8) : docF l = rdF l := by
  have M := met l
  have hs := shp_is (l.drop (sg0 l))
  have ha := cw_app (l.drop (sg0 l))
  unfold docF rdF
  generalize l.drop (sg0 l) = t at *
  rw [← hs]
  have h1 := M.hb
  have h2 := M.hdt
  have h3 := M.hex
  have h4 := M.htx
  clear M hs
  generalize (cw t).1 = W at *
  generalize (cw t).2.1 = P at *
  generalize (cw t).2.2 = E at *
  split
  · rfl
  split
  · rfl
  cases hb : bad l
  · have hsn : snd W P E = true := by
      rw [hb] at h1
      cases h : snd W P E
      · rw [h] at h1; cases h1
      · rfl
    rw [h2 hb, h3 hb, hsn]
    obtain ⟨c, X, hE, htx⟩ := h4 hb
    by_cases hPE : P = [] ∧ E = []
    · rw [hPE.1, hPE.2]; simp
    · rw [if_neg (by simp), if_neg (by simpa using hPE), if_pos (by
        rcases Classical.em (P = []) with h | h
        · have : E ≠ [] := fun h2 => hPE ⟨h, h2⟩
          simp [this]
        · simp [h])]
      rw [htx, ← ha, st_app, st_app]
      rcases hE with rfl | ⟨rfl, hc⟩
      · simp [st_nil]
      · rw [if_neg (by simp), st_cons (E95 hc), rd_letter hc]
        simp
  · have hsn : snd W P E = false := by
      rw [hb] at h1
      cases h : snd W P E
      · rfl
      · rw [h] at h1; cases h1
    rw [hsn]; simp
/-- A number's bytes. -/
theorem isB_bytes {l : List UInt8} (h : isB l = true) : ∀ c ∈ l, nb c = true ∨ c = 45 ∨ c = 46 ∨ c = 101 ∨ c = 69 ∨ c = 43 := by
  intro c hc
  obtain ⟨k, hk, rfl⟩ := List.mem_iff_getElem.1 hc
  have hb : bt l k = ((l[k]).toNat : Int) := by simp [bt, hk]
  have num_of : ∀ n : Nat, n < 256 → bt l k = n → l[k] = UInt8.ofNat n := fun n hn e => UInt8.toNat_inj.1 (by rw [UInt8.toNat_ofNat_of_lt' (by simp [UInt8.size]; omega)]; omega)
  have nb_of : nmr (bt l k) = true → nb l[k] = true := fun e => by unfold nb; rw [← hb]; exact e
  obtain ⟨o1, o2, o3, o4, o5, o6, o7, o8⟩ := q_order (l := l)
  have h5 : q5 l = l.length := by
    unfold isB at h
    simp only [Bool.and_eq_true, decide_eq_true_eq] at h
    exact h.2
  by_cases k0 : k < q0 l
  · unfold q0 at k0
    split at k0
    · rename_i e
      obtain rfl : k = 0 := by omega
      exact .inr (.inl (num_of 45 (by omega) e))
    · omega
  by_cases k1 : k < q1 l
  · exact .inl (nb_of (runE_nmr l (q0 l) k (by omega) k1))
  by_cases k2 : k < q2 l
  · unfold q2 at k2
    split at k2
    · rename_i e
      obtain rfl : k = q1 l := by omega
      exact .inr (.inr (.inl (num_of 46 (by omega) (of_decide_eq_true e))))
    · omega
  by_cases k3 : k < q3 l
  · unfold q3 at k3
    split at k3
    · exact .inl (nb_of (runE_nmr l (q2 l) k (by omega) k3))
    · omega
  by_cases k4 : k < q4 l
  · unfold q4 at k4
    split at k4
    · rename_i e
      by_cases k3' : k = q3 l
      · subst k3'
        rcases of_decide_eq_true e with e | e
        · exact .inr (.inr (.inr (.inl (num_of 101 (by omega) e))))
        · exact .inr (.inr (.inr (.inr (.inl (num_of 69 (by omega) e)))))
      · split at k4
        · rename_i e2
          obtain rfl : k = q3 l + 1 := by omega
          rcases of_decide_eq_true e2 with e | e
          · exact .inr (.inr (.inr (.inr (.inr (num_of 43 (by omega) e)))))
          · exact .inr (.inl (num_of 45 (by omega) e))
        · omega
    · omega
  · exact .inl (nb_of (o8 k (by omega) (by omega)))
theorem isB_no95 {l : List UInt8} (h : isB l = true) : (95 : UInt8) ∉ l := fun hm => by
  rcases isB_bytes h 95 hm with h | h | h | h | h | h
  · rw [nb95] at h; cases h
  all_goals revert h; decide
theorem runE_tk (l : List UInt8) (i : Nat) : runE l i = i + ((l.drop i).takeWhile nb).length := by
  by_cases h : i < l.length
  · rw [List.drop_eq_getElem_cons h, List.takeWhile_cons]
    have hb : nmr (bt l i) = nb l[i] := by unfold nb; congr 1; simp [bt, h]
    by_cases hn : nb l[i] = true
    · rw [runE_on h (by rw [hb]; exact hn), if_pos hn, runE_tk l (i + 1), List.length_cons]; omega
    · rw [runE_end (by rw [hb]; exact fun h => hn h.2), if_neg hn]; rfl
  · rw [runE_end (fun h2 => h h2.1), List.drop_eq_nil_of_le (by omega)]; rfl
termination_by l.length - i
theorem rn_tk : ∀ (x : List UInt8) (p : Bool), (95 : UInt8) ∉ x → rn p x = ((x.takeWhile nb).length, x.takeWhile nb)
  | [], p, _ => rfl
  | c :: r, p, h => by
    have hc : c ≠ 95 := fun e => h (by simp [e])
    have hr : (95 : UInt8) ∉ r := fun e => h (by simp [e])
    rw [rn, List.takeWhile_cons]
    by_cases hn : nb c = true
    · rw [if_pos hn, if_pos hn, rn_tk r true hr]; rfl
    · rw [if_neg hn, if_neg hn, if_neg (fun e => hc e.1)]; rfl
theorem rn_run {l : List UInt8} (h : (95 : UInt8) ∉ l) (i : Nat) : i + (rn false (l.drop i)).1 = runE l i ∧ ((rn false (l.drop i)).2 = [] ↔ runE l i = i) ∧ (rn false (l.drop i)).2 = (l.drop i).takeWhile nb := by
  have h2 : (95 : UInt8) ∉ l.drop i := fun e => h (List.mem_of_mem_drop e)
  rw [rn_tk _ _ h2, runE_tk]
  refine ⟨rfl, ?_, rfl⟩
  constructor
  · intro e; simp only at e; rw [e]; rfl
  · intro e; exact List.length_eq_zero_iff.1 (by simp only; omega)
theorem isB_bad {l : List UInt8} (h : (95 : UInt8) ∉ l) (h43 : bt l 0 ≠ 43) : isB l = !bad l := by
  have e0 : sg0 l = q0 l := by unfold sg0 q0; simp [h43]
  have r1 := rn_run h (q0 l)
  have e1 : p1 l = q1 l := by unfold p1 R1 q1; rw [e0]; exact r1.1
  have ed : dt l = dot l := by unfold dt dot; rw [e1]
  have r2 := rn_run h (q1 l + 1)
  have e3 : p2 l = q3 l := by
    unfold p2 q3 q2 R2
    rw [ed, e1]
    split
    · exact r2.1
    · rfl
  have ee : ex l = exq l := by unfold ex exq; rw [e3]
  have es' : es l = sgn l := by unfold es sgn; rw [e3]
  have e4 : ex l = true → p3 l = q4 l := fun hx => by
    unfold p3 q4
    rw [es', e3, ← ee, if_pos hx]
  have r3 := rn_run h (q4 l)
  have e5 : p4 l = q5 l := by
    unfold p4 q5
    rw [ee]
    split
    · rename_i hx
      unfold R3; rw [e4 (by rw [ee]; exact hx)]; exact r3.1
    · exact e3
  have g1 : b1 l = bad1 l := by
    unfold b1 bad1 R1
    rw [e0]
    have hq : q1 l = q0 l + ((l.drop (q0 l)).takeWhile nb).length := runE_tk l (q0 l)
    rw [r1.2.2, hq]
    have hall : ((l.drop (q0 l)).takeWhile nb).all nb = true := List.all_eq_true.2 (tk_mem _)
    have hbt : (l.drop (q0 l)).takeWhile nb ≠ [] → bt l (q0 l) = bt ((l.drop (q0 l)).takeWhile nb) 0 := fun hne => by
      have e := List.takeWhile_append_dropWhile (p := nb) (l := l.drop (q0 l))
      have := bt_drop l (q0 l) 0
      rw [Nat.add_zero] at this
      rw [← this]
      conv => lhs; rw [← e]
      exact bt_app_lt _ (List.length_pos_iff.2 hne)
    generalize (l.drop (q0 l)).takeWhile nb = d at *
    unfold num digs
    rw [hall]
    cases d with
    | nil => simp
    | cons c d =>
      rw [hbt (by simp), bt_cons]
      have : ((c.toNat : Int) = 48) ↔ c = 48 := ⟨fun e => UInt8.toNat_inj.1 (show c.toNat = 48 by omega), fun e => by rw [e]; rfl⟩
      simp [this]
      by_cases hc : c = 48 <;> simp [hc]
  have g2 : b2 l = (dot l && decide (q3 l = q2 l)) := by
    unfold b2
    rw [ed]
    cases hd : dot l
    · rfl
    · unfold R2 q3 q2
      rw [hd, if_pos rfl, if_pos rfl, e1]
      simp only [Bool.true_and]
      exact decide_eq_decide.2 r2.2.1
  have g3 : b3 l = (exq l && decide (q5 l = q4 l)) := by
    unfold b3
    rw [ee]
    cases hx : exq l
    · rfl
    · unfold R3 q5
      rw [hx, if_pos rfl, e4 (by rw [ee]; exact hx)]
      simp only [Bool.true_and]
      exact decide_eq_decide.2 r3.2.1
  have hle := (q_order (l := l)).2.2.2.2.2.1
  have g4 : b4 l = !decide (q5 l = l.length) := by
    unfold b4; rw [e5]
    by_cases hq : q5 l = l.length
    · simp [hq]
    · simp [hq]; omega
  unfold isB bad
  rw [g1, g2, g3, g4]
  cases bad1 l <;> cases dot l <;> cases exq l <;> simp
theorem isB_43 {l : List UInt8} (h : bt l 0 = 43) : isB l = false := by
  have e0 : q0 l = 0 := by unfold q0; rw [h]; rfl
  have e1 : q1 l = 0 := by unfold q1; rw [e0, runE_end]; rw [h]; exact fun h => by cases h.2
  unfold isB bad1
  rw [e0, e1]; simp
/-- A number's text is its parts, each of its form. -/
theorem isB_snd {l : List UInt8} (h : (95 : UInt8) ∉ l) (h43 : bt l 0 ≠ 43) : isB l = snd (cw (l.drop (sg0 l))).1 (cw (l.drop (sg0 l))).2.1 (cw (l.drop (sg0 l))).2.2 := by
  rw [isB_bad h h43, (met l).hb]; simp
end Fl
end Go.Proofs.YtbeefjhcbphiaaaGreatDoor
/- TOML's floats as lists: what the laws ask (lists alone). -/
namespace Go.Proofs.YtbeefjhcbphiaaaGreatDoor
namespace Fl
open De

/-- All low marks replaced by nothing. -/
theorem replaceK_st : ∀ (s : List UInt8) (k : Nat), s.count 95 ≤ k → Lib.replaceK [95] [] k s = st s
  | [], k, _ => by cases k <;> rfl
  | c :: r, 0, h => by
    have hc : c ≠ 95 := by rintro rfl; simp at h
    have ih := replaceK_st r 0 (by rw [List.count_cons_of_ne hc] at h; exact h)
    rw [st_cons hc, ← ih]; rfl
  | c :: r, k + 1, h => by
    by_cases hc : c = 95
    · subst hc
      rw [Lib.replaceK_hit [95] [] k (95 :: r) 0 (by rw [Lib.index_one]; rfl), st_95]
      have ih := replaceK_st r k (by simpa using h)
      simpa using ih
    · have ih := replaceK_st r (k + 1) (by rw [List.count_cons_of_ne hc] at h; exact h)
      have hi : Lib.index (c :: r) [95] = if (Lib.index r [95] == -1) = true then -1 else Lib.index r [95] + 1 := by
        rw [Lib.index_one, Lib.index_one, Lib.indexByte, if_neg (by simpa using hc)]
      have hge := Lib.index_ge r [95]
      rw [st_cons hc, ← ih, Lib.replaceK, Lib.replaceK, hi]
      by_cases hm : (Lib.index r [95] == -1) = true
      · rw [if_pos hm, if_pos (by decide), if_pos hm]
      · have hne : Lib.index r [95] ≠ -1 := fun e => hm (beq_iff_eq.2 e)
        rw [if_neg hm, if_neg (fun e => by have := beq_iff_eq.1 e; omega), if_neg hm]
        have e : (Lib.index r [95] + 1).toNat = (Lib.index r [95]).toNat + 1 := by omega
        rw [e]
        simp
theorem replaceAll_st (s : List UInt8) : Lib.replaceAll s [95] [] = st s := by
  unfold Lib.replaceAll Lib.replace
  rw [if_neg (by decide)]
  apply replaceK_st
  unfold Lib.replaceNum
  rw [if_pos (.inl (by omega)), Lib.count_one]
  exact Nat.le_refl _
theorem join_four (a b c d : List UInt8) : Lib.join [a, b, c, d] [] = a ++ (b ++ (c ++ d)) := by
  rw [Lib.join_cons]; simp [Lib.joinTail]
/-- Ahead of the first one of some bytes. -/
theorem indexAny_tk (m : List UInt8) : ∀ l : List UInt8, Lib.indexAny l m = if l.dropWhile (fun x => !m.contains x) = [] then -1 else ((l.takeWhile (fun x => !m.contains x)).length : Int)
  | [] => rfl
  | c :: l => by
    rw [Lib.indexAny, List.takeWhile_cons, List.dropWhile_cons]
    cases hc : m.contains c
    · rw [if_neg (by simp), indexAny_tk m l]
      simp only [Bool.not_false, if_true]
      by_cases hd : l.dropWhile (fun x => !m.contains x) = []
      · rw [if_pos hd, if_pos hd]; rfl
      · rw [if_neg hd, if_neg hd, if_neg (fun e => by have := beq_iff_eq.1 e; omega)]; simp
    · simp
theorem tk_dr (q : UInt8 → Bool) (l : List UInt8) : l.take (l.takeWhile q).length = l.takeWhile q ∧ l.drop (l.takeWhile q).length = l.dropWhile q := by
  have e := List.takeWhile_append_dropWhile (p := q) (l := l)
  constructor
  · conv => lhs; arg 2; rw [← e]
    rw [List.take_left]
  · conv => lhs; arg 2; rw [← e]
    rw [List.drop_left]
end Fl
end Go.Proofs.YtbeefjhcbphiaaaGreatDoor
