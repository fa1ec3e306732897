/- TOML's integers as lists of bytes: the reading, the normal form, the order (lists alone, no program). -/
import Derived.Test.YtonfaphllpjmpaaDoorProg
namespace Go.Proofs.YtonfaphllpjmpaaDoor

namespace In
/-- A digit's sign, in small letters. -/
def ch (d : Nat) : UInt8 := if d < 10 then UInt8.ofNat (48 + d) else UInt8.ofNat (87 + d)
/-- A number's digits of a base (of at least 2). -/
def dN (b n : Nat) : List UInt8 := if _h : 2 ≤ b ∧ b ≤ n then dN b (n / b) ++ [ch (n % b)] else [ch n]
termination_by n
decreasing_by exact Nat.div_lt_self (by omega) _h.1
/-- A digit's value; 99: none. -/
def dg (c : UInt8) : Nat := if 48 ≤ c.toNat ∧ c.toNat ≤ 57 then c.toNat - 48 else if 97 ≤ c.toNat ∧ c.toNat ≤ 102 then c.toNat - 87 else if 65 ≤ c.toNat ∧ c.toNat ≤ 70 then c.toNat - 55 else 99
/-- The value of digits, with low marks between some; p: a digit stands ahead. -/
def vl (b : Nat) : Bool → Nat → List UInt8 → Option Nat
  | _, n, [] => some n
  | p, n, c :: r => if c = 95 then (if p = true ∧ r ≠ [] then vl b false n r else none) else if dg c < b then vl b true (n * b + dg c) r else none
inductive R where
  | ok (t : List UInt8)
  | syn
  | big
deriving DecidableEq
/-- Base, sign, and what stands behind both. -/
def pre (l : List UInt8) : Nat × Bool × List UInt8 := match l with
  | 48 :: 120 :: r => (16, false, r)
  | 48 :: 111 :: r => (8, false, r)
  | 48 :: 98 :: r => (2, false, r)
  | 43 :: r => (10, false, r)
  | 45 :: r => (10, true, r)
  | r => (10, false, r)
/-- A number's normal form. -/
def nf (m : Bool) (n : Nat) : List UInt8 := if m = true ∧ n ≠ 0 then 45 :: dN 10 n else dN 10 n
def fin (m : Bool) : Option Nat → R
  | none => .syn
  | some n => if n > (if m = true then 9223372036854775808 else 9223372036854775807) then .big else .ok (nf m n)
def body (b : Nat) (m : Bool) (r : List UInt8) : R := if r = [] ∨ b = 10 ∧ 1 < r.length ∧ r.head? = some 48 then .syn else fin m (vl b false 0 r)
def rd (l : List UInt8) : R := body (pre l).1 (pre l).2.1 (pre l).2.2
/-- Is a text a normal form? -/
def nor (l : List UInt8) : Bool := decide (rd l = .ok l)
/-- A normal form's value. -/
def val (l : List UInt8) : Int := match l with
  | 45 :: r => -(((vl 10 false 0 r).getD 0 : Nat) : Int)
  | r => (((vl 10 false 0 r).getD 0 : Nat) : Int)
def sgn (a b : Int) : Int := if a < b then -1 else if b < a then 1 else 0
def cm (a b : List UInt8) : Int := if nor a = true ∧ nor b = true then sgn (val a) (val b) else 0

theorem dN_lt {b n : Nat} (h : n < b) : dN b n = [ch n] := by rw [dN, dif_neg (by omega)]
theorem dN_ge {b n : Nat} (hb : 2 ≤ b) (h : b ≤ n) : dN b n = dN b (n / b) ++ [ch (n % b)] := by rw [dN, dif_pos ⟨hb, h⟩]
theorem dg_ch {d : Nat} (h : d < 16) : dg (ch d) = d := by
  have : (List.range 16).all (fun d => dg (ch d) == d) = true := by decide +kernel
  simpa using (List.all_eq_true.1 this) d (List.mem_range.2 h)
theorem ch_ne {d : Nat} (h : d < 16) : ch d ≠ 95 := by
  have : (List.range 16).all (fun d => ch d != 95) = true := by decide +kernel
  simpa using (List.all_eq_true.1 this) d (List.mem_range.2 h)
theorem vl_nil (b : Nat) (p : Bool) (n : Nat) : vl b p n [] = some n := by cases p <;> rfl
theorem vl_ch {b d : Nat} (hd : d < b) (hb : b ≤ 16) (p : Bool) (n : Nat) (r : List UInt8) : vl b p n (ch d :: r) = vl b true (n * b + d) r := by
  rw [vl, if_neg (ch_ne (by omega)), dg_ch (by omega), if_pos hd]
/-- Digits ahead of others. -/
theorem vl_dN {b : Nat} (hb : 2 ≤ b) (hb2 : b ≤ 16) : ∀ (n : Nat) (p : Bool) (r : List UInt8), vl b p 0 (dN b n ++ r) = vl b true n r := fun n => by
  induction n using Nat.strongRecOn with
  | _ n ih =>
    intro p r
    by_cases h : b ≤ n
    · have hd : n / b < n := Nat.div_lt_self (by omega) (by omega)
      rw [dN_ge hb h, List.append_assoc, ih (n / b) hd, List.singleton_append, vl_ch (Nat.mod_lt _ (by omega)) hb2, Nat.mul_comm]
      rw [Nat.div_add_mod]
    · rw [dN_lt (by omega), List.singleton_append, vl_ch (by omega) hb2]; simp
theorem dN_ne (b n : Nat) : dN b n ≠ [] := by rw [dN]; split <;> simp
theorem vl_dN' {b : Nat} (hb : 2 ≤ b) (hb2 : b ≤ 16) (n : Nat) (p : Bool) : vl b p 0 (dN b n) = some n := by
  have := vl_dN hb hb2 n p []
  rwa [List.append_nil, vl_nil] at this
/-- The first digit of a number that is not 0 is not 0. -/
theorem dN_head {b : Nat} (hb : 2 ≤ b) (hb2 : b ≤ 16) : ∀ {n : Nat}, n ≠ 0 → ∃ d r, dN b n = ch d :: r ∧ 0 < d ∧ d < b := fun {n} => by
  induction n using Nat.strongRecOn with
  | _ n ih =>
    intro hn
    by_cases h : b ≤ n
    · have hd : n / b < n := Nat.div_lt_self (by omega) (by omega)
      have h0 : n / b ≠ 0 := by have := Nat.div_pos h (by omega); omega
      obtain ⟨d, r, e, h1, h2⟩ := ih (n / b) hd h0
      exact ⟨d, r ++ [ch (n % b)], by rw [dN_ge hb h, e]; rfl, h1, h2⟩
    · exact ⟨n, [], dN_lt (by omega), by omega, by omega⟩
theorem ch_48 {d : Nat} (h : d < 16) (h0 : 0 < d) : ch d ≠ 48 := by
  have : (List.range 16).all (fun d => d == 0 || ch d != 48) = true := by decide +kernel
  have := (List.all_eq_true.1 this) d (List.mem_range.2 h)
  simp at this
  rcases this with h | h
  · omega
  · exact h
theorem ch_signs {d : Nat} (h : d < 16) : ch d ≠ 43 ∧ ch d ≠ 45 := by
  have : (List.range 16).all (fun d => ch d != 43 && ch d != 45) = true := by decide +kernel
  simpa using (List.all_eq_true.1 this) d (List.mem_range.2 h)
theorem dN_zero {b : Nat} (hb : 2 ≤ b) : dN b 0 = [48] := by rw [dN_lt (by omega)]; rfl
/-- Digits of base 10 alone: nothing stands ahead of them. -/
theorem pre_dN (n : Nat) : pre (dN 10 n) = (10, false, dN 10 n) := by
  by_cases h0 : n = 0
  · subst h0; rw [dN_zero (by omega)]; rfl
  · obtain ⟨d, r, e, h1, h2⟩ := dN_head (b := 10) (by omega) (by omega) h0
    rw [e]
    have n0 := ch_48 (d := d) (by omega) h1
    obtain ⟨n1, n2⟩ := ch_signs (d := d) (by omega)
    unfold pre
    split
    · rename_i h; injection h with h _; exact absurd h n0
    · rename_i h; injection h with h _; exact absurd h n0
    · rename_i h; injection h with h _; exact absurd h n0
    · rename_i h; injection h with h _; exact absurd h n1
    · rename_i h; injection h with h _; exact absurd h n2
    · rfl
theorem pre_minus (r : List UInt8) : pre (45 :: r) = (10, true, r) := rfl
theorem pre_plus (r : List UInt8) : pre (43 :: r) = (10, false, r) := rfl
theorem body_dN (m : Bool) (n : Nat) : body 10 m (dN 10 n) = fin m (some n) := by
  rw [body, if_neg, vl_dN' (by omega) (by omega)]
  rintro (h | ⟨_, h1, h2⟩)
  · exact dN_ne _ _ h
  · by_cases h0 : n = 0
    · subst h0; rw [dN_zero (by omega)] at h1; simp at h1
    · obtain ⟨d, r, e, h3, h4⟩ := dN_head (b := 10) (by omega) (by omega) h0
      rw [e] at h2
      simp at h2
      exact ch_48 (d := d) (by omega) h3 h2
/-- A number within 64 bits reads as its normal form, and as itself. -/
theorem rd_dN (n : Nat) : rd (dN 10 n) = fin false (some n) := by rw [rd, pre_dN]; exact body_dN _ _
theorem rd_minus (n : Nat) : rd (45 :: dN 10 n) = fin true (some n) := by rw [rd, pre_minus]; exact body_dN _ _
theorem rd_plus (n : Nat) : rd (43 :: dN 10 n) = fin false (some n) := by rw [rd, pre_plus]; exact body_dN _ _
def lim (m : Bool) : Nat := if m = true then 9223372036854775808 else 9223372036854775807
theorem fin_ok {m : Bool} {n : Nat} (h : n ≤ lim m) : fin m (some n) = .ok (nf m n) := by
  unfold fin lim at *
  simp only
  rw [if_neg (by omega)]
theorem fin_big {m : Bool} {n : Nat} (h : lim m < n) : fin m (some n) = .big := by
  unfold fin lim at *
  simp only
  rw [if_pos (by omega)]
/-- A value's normal form. -/
def nfI (v : Int) : List UInt8 := if v < 0 then 45 :: dN 10 (-v).toNat else dN 10 v.toNat
theorem nf_nfI (m : Bool) (n : Nat) : nf m n = nfI (if m = true then -(n : Int) else n) := by
  unfold nf nfI
  cases m with
  | false => simp; intro h; omega
  | true =>
    by_cases h : n = 0
    · subst h; simp
    · rw [if_pos ⟨rfl, h⟩, if_pos rfl, if_pos (by omega)]; congr 2; omega
def fits (v : Int) : Prop := -9223372036854775808 ≤ v ∧ v ≤ 9223372036854775807
theorem rd_nfI {v : Int} (h : fits v) : rd (nfI v) = .ok (nfI v) := by
  obtain ⟨h1, h2⟩ := h
  unfold nfI
  by_cases hv : v < 0
  · rw [if_pos hv, rd_minus, fin_ok (by simp [lim]; omega), nf, if_pos ⟨rfl, by omega⟩]
  · rw [if_neg hv, rd_dN, fin_ok (by simp [lim]; omega), nf, if_neg (by simp)]
theorem nor_nfI {v : Int} (h : fits v) : nor (nfI v) = true := by rw [nor, decide_eq_true_eq]; exact rd_nfI h
/-- What is read is a normal form of a value that fits. -/
theorem rd_ok {l t : List UInt8} (h : rd l = .ok t) : ∃ v, fits v ∧ t = nfI v := by
  unfold rd body at h
  split at h
  · cases h
  · cases hv : vl (pre l).1 false 0 (pre l).2.2 with
    | none => rw [hv] at h; cases h
    | some n =>
      rw [hv] at h
      by_cases hn : n ≤ lim (pre l).2.1
      · rw [fin_ok hn] at h
        cases h
        refine ⟨if (pre l).2.1 = true then -(n : Int) else n, ?_, nf_nfI _ _⟩
        unfold fits
        revert hn
        unfold lim
        cases (pre l).2.1 <;> simp <;> omega
      · rw [fin_big (by omega)] at h; cases h
theorem nor_iff {l : List UInt8} : nor l = true ↔ ∃ v, fits v ∧ l = nfI v := by
  constructor
  · intro h
    rw [nor, decide_eq_true_eq] at h
    exact rd_ok h
  · rintro ⟨v, h, rfl⟩; exact nor_nfI h
theorem val_nfI (v : Int) : val (nfI v) = v := by
  unfold nfI
  by_cases hv : v < 0
  · rw [if_pos hv]
    show -(((vl 10 false 0 (dN 10 (-v).toNat)).getD 0 : Nat) : Int) = v
    rw [vl_dN' (by omega) (by omega)]; simp; omega
  · rw [if_neg hv]
    have hd : ∀ r, dN 10 v.toNat ≠ 45 :: r := by
      intro r e
      by_cases h0 : v.toNat = 0
      · rw [h0, dN_zero (by omega)] at e; cases e
      · obtain ⟨d, r', e', h1, h2⟩ := dN_head (b := 10) (by omega) (by omega) h0
        rw [e'] at e
        injection e with e _
        exact (ch_signs (d := d) (by omega)).2 e
    unfold val
    split
    · rename_i r e; exact absurd e (hd r)
    · rw [vl_dN' (by omega) (by omega)]; simp; omega
theorem cm_nfI {a b : Int} (ha : fits a) (hb : fits b) : cm (nfI a) (nfI b) = sgn a b := by
  rw [cm, if_pos ⟨nor_nfI ha, nor_nfI hb⟩, val_nfI, val_nfI]
end In
end Go.Proofs.YtonfaphllpjmpaaDoor
