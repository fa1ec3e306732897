/- TOML's integers as lists of bytes: the reading, the normal form, the order (lists alone, no program). -/
import Derived.Test.YthjlnafmpcppfaaGreatDoorProg
import Derived.Test.YthjlnafmpcppfaaGreatDoorBase
import Derived.LoopTactic
import Derived.Outline
import Derived.BigQuiet
import Derived.Deep.QuietTactic
import Derived.Deep.DeepCutAuto
import Derived.Deep.CutBlock
import Derived.Lib.Strings
import Derived.IntWalk
import Derived.Deep.RegionWith
import Derived.Deep.RegionLaw
namespace Go.Proofs.YthjlnafmpcppfaaGreatDoor.II

namespace In
/-- A digit's sign, in small letters. -/
def ch (d : Nat) : UInt8 := if d < 10 then UInt8.ofNat (48 + d) else UInt8.ofNat (87 + d)
/-- A number's digits of a base (of at least 2). -/
def dN (b n : Nat) : List UInt8 := if _h : 2 ≤ b ∧ b ≤ n then dN b (n / b) ++ [ch (n % b)] else [ch n]
termination_by n
decreasing_by exact Nat.div_lt_self (by omega) _h.1
/-- A digit's value; 99: none. -/
def dg (c : UInt8) : Nat := if 48 ≤ c.toNat ∧ c.toNat ≤ 57 then c.toNat - 48 else if 97 ≤ c.toNat ∧ c.toNat ≤ 102 then c.toNat - 87 else if 65 ≤ c.toNat ∧ c.toNat ≤ 70 then c.toNat - 55 else 99
/-- The value of digits, with low marks between some; p: a digit stands ahead. -/
def vl (b : Nat) : Bool → Nat → List UInt8 → Option Nat
  | _, n, [] => some n
  | p, n, c :: r => if c = 95 then (if p = true ∧ r ≠ [] then vl b false n r else none) else if dg c < b then vl b true (n * b + dg c) r else none
inductive R where
  | ok (t : List UInt8)
  | syn
  | big
deriving DecidableEq
/-- Base, sign, and what stands behind both. -/
def pre (l : List UInt8) : Nat × Bool × List UInt8 := match l with
  | 48 :: 120 :: r => (16, false, r)
  | 48 :: 111 :: r => (8, false, r)
  | 48 :: 98 :: r => (2, false, r)
  | 43 :: r => (10, false, r)
  | 45 :: r => (10, true, r)
  | r => (10, false, r)
/-- A number's normal form. -/
def nf (m : Bool) (n : Nat) : List UInt8 := if m = true ∧ n ≠ 0 then 45 :: dN 10 n else dN 10 n
def fin (m : Bool) : Option Nat → R
  | none => .syn
  | some n => if n > (if m = true then 9223372036854775808 else 9223372036854775807) then .big else .ok (nf m n)
def body (b : Nat) (m : Bool) (r : List UInt8) : R := if r = [] ∨ b = 10 ∧ 1 < r.length ∧ r.head? = some 48 then .syn else fin m (vl b false 0 r)
def rd (l : List UInt8) : R := body (pre l).1 (pre l).2.1 (pre l).2.2
/-- Is a text a normal form? -/
def nor (l : List UInt8) : Bool := decide (rd l = .ok l)
/-- A normal form's value. -/
def val (l : List UInt8) : Int := match l with
  | 45 :: r => -(((vl 10 false 0 r).getD 0 : Nat) : Int)
  | r => (((vl 10 false 0 r).getD 0 : Nat) : Int)
def sgn (a b : Int) : Int := if a < b then -1 else if b < a then 1 else 0
def cm (a b : List UInt8) : Int := if nor a = true ∧ nor b = true then sgn (val a) (val b) else 0

theorem dN_lt {b n : Nat} (h : n < b) : dN b n = [ch n] := by rw [dN, dif_neg (by omega)]
theorem dN_ge {b n : Nat} (hb : 2 ≤ b) (h : b ≤ n) : dN b n = dN b (n / b) ++ [ch (n % b)] := by rw [dN, dif_pos ⟨hb, h⟩]
theorem dg_ch {d : Nat} (h : d < 16) : dg (ch d) = d := by
  have : (List.range 16).all (fun d => dg (ch d) == d) = true := by decide +kernel
  simpa using (List.all_eq_true.1 this) d (List.mem_range.2 h)
theorem ch_ne {d : Nat} (h : d < 16) : ch d ≠ 95 := by
  have : (List.range 16).all (fun d => ch d != 95) = true := by decide +kernel
  simpa using (List.all_eq_true.1 this) d (List.mem_range.2 h)
theorem vl_nil (b : Nat) (p : Bool) (n : Nat) : vl b p n [] = some n := by cases p <;> rfl
theorem vl_ch {b d : Nat} (hd : d < b) (hb : b ≤ 16) (p : Bool) (n : Nat) (r : List UInt8) : vl b p n (ch d :: r) = vl b true (n * b + d) r := by
  rw [vl, if_neg (ch_ne (by omega)), dg_ch (by omega), if_pos hd]
/-- Digits ahead of others. -/
theorem vl_dN {b : Nat} (hb : 2 ≤ b) (hb2 : b ≤ 16) : ∀ (n : Nat) (p : Bool) (r : List UInt8), vl b p 0 (dN b n ++ r) = vl b true n r := fun n => by
  induction n using Nat.strongRecOn with
  | _ n ih =>
    intro p r
    by_cases h : b ≤ n
    · have hd : n / b < n := Nat.div_lt_self (by omega) (by omega)
      rw [dN_ge hb h, List.append_assoc, ih (n / b) hd, List.singleton_append, vl_ch (Nat.mod_lt _ (by omega)) hb2, Nat.mul_comm]
      rw [Nat.div_add_mod]
    · rw [dN_lt (by omega), List.singleton_append, vl_ch (by omega) hb2]; simp
theorem dN_ne (b n : Nat) : dN b n ≠ [] := by rw [dN]; split <;> simp
theorem vl_dN' {b : Nat} (hb : 2 ≤ b) (hb2 : b ≤ 16) (n : Nat) (p : Bool) : vl b p 0 (dN b n) = some n := by
  have := vl_dN hb hb2 n p []
  rwa [List.append_nil, vl_nil] at this
/-- The first digit of a number that is not 0 is not 0. -/
theorem dN_head {b : Nat} (hb : 2 ≤ b) (hb2 : b ≤ 16) : ∀ {n : Nat}, n ≠ 0 → ∃ d r, dN b n = ch d :: r ∧ 0 < d ∧ d < b := fun {n} => by
  induction n using Nat.strongRecOn with
  | _ n ih =>
    intro hn
    by_cases h : b ≤ n
    · have hd : n / b < n := Nat.div_lt_self (by omega) (by omega)
      have h0 : n / b ≠ 0 := by have := Nat.div_pos h (by omega); omega
      obtain ⟨d, r, e, h1, h2⟩ := ih (n / b) hd h0
      exact ⟨d, r ++ [ch (n % b)], by rw [dN_ge hb h, e]; rfl, h1, h2⟩
    · exact ⟨n, [], dN_lt (by omega), by omega, by omega⟩
theorem ch_48 {d : Nat} (h : d < 16) (h0 : 0 < d) : ch d ≠ 48 := by
  have : (List.range 16).all (fun d => d == 0 || ch d != 48) = true := by decide +kernel
  have := (List.all_eq_true.1 this) d (List.mem_range.2 h)
  simp at this
  rcases this with h | h
  · omega
  · exact h
theorem ch_signs {d : Nat} (h : d < 16) : ch d ≠ 43 ∧ ch d ≠ 45 := by
  have : (List.range 16).all (fun d => ch d != 43 && ch d != 45) = true := by decide +kernel
  simpa using (List.all_eq_true.1 this) d (List.mem_range.2 h)
theorem dN_zero {b : Nat} (hb : 2 ≤ b) : dN b 0 = [48] := by rw [dN_lt (by omega)]; rfl
/-- Digits of base 10 alone: nothing stands ahead of them. -/
theorem pre_dN (n : Nat) : pre (dN 10 n) = (10, false, dN 10 n) := by
  by_cases h0 : n = 0
  · subst h0; rw [dN_zero (by omega)]; rfl
  · obtain ⟨d, r, e, h1, h2⟩ := dN_head (b := 10) (by omega) (by omega) h0
    rw [e]
    have n0 := ch_48 (d := d) (by omega) h1
    obtain ⟨n1, n2⟩ := ch_signs (d := d) (by omega)
    unfold pre
    split
    · rename_i h; injection h with h _; exact absurd h n0
    · rename_i h; injection h with h _; exact absurd h n0
    · rename_i h; injection h with h _; exact absurd h n0
    · rename_i h; injection h with h _; exact absurd h n1
    · rename_i h; injection h with h _; exact absurd h n2
    · rfl
theorem pre_minus (r : List UInt8) : pre (45 :: r) = (10, true, r) := rfl
theorem pre_plus (r : List UInt8) : pre (43 :: r) = (10, false, r) := rfl
theorem body_dN (m : Bool) (n : Nat) : body 10 m (dN 10 n) = fin m (some n) := by
  rw [body, if_neg, vl_dN' (by omega) (by omega)]
  rintro (h | ⟨_, h1, h2⟩)
  · exact dN_ne _ _ h
  · by_cases h0 : n = 0
    · subst h0; rw [dN_zero (by omega)] at h1; simp at h1
    · obtain ⟨d, r, e, h3, h4⟩ := dN_head (b := 10) (by omega) (by omega) h0
      rw [e] at h2
      simp at h2
      exact ch_48 (d := d) (by omega) h3 h2
/-- A number within 64 bits reads as its normal form, and as itself. -/
theorem rd_dN (n : Nat) : rd (dN 10 n) = fin false (some n) := by rw [rd, pre_dN]; exact body_dN _ _
theorem rd_minus (n : Nat) : rd (45 :: dN 10 n) = fin true (some n) := by rw [rd, pre_minus]; exact body_dN _ _
theorem rd_plus (n : Nat) : rd (43 :: dN 10 n) = fin false (some n) := by rw [rd, pre_plus]; exact body_dN _ _
def lim (m : Bool) : Nat := if m = true then 9223372036854775808 else 9223372036854775807
theorem fin_ok {m : Bool} {n : Nat} (h : n ≤ lim m) : fin m (some n) = .ok (nf m n) := by
  unfold fin lim at *
  simp only
  rw [if_neg (by omega)]
theorem fin_big {m : Bool} {n : Nat} (h : lim m < n) : fin m (some n) = .big := by
  unfold fin lim at *
  simp only
  rw [if_pos (by omega)]
/-- A value's normal form. -/
def nfI (v : Int) : List UInt8 := if v < 0 then 45 :: dN 10 (-v).toNat else dN 10 v.toNat
theorem nf_nfI (m : Bool) (n : Nat) : nf m n = nfI (if m = true then -(n : Int) else n) := by
  unfold nf nfI
  cases m with
  | false => simp; intro h; omega
  | true =>
    by_cases h : n = 0
    · subst h; simp
    · rw [if_pos ⟨rfl, h⟩, if_pos rfl, if_pos (by omega)]; congr 2; omega
def fits (v : Int) : Prop := -9223372036854775808 ≤ v ∧ v ≤ 9223372036854775807
theorem rd_nfI {v : Int} (h : fits v) : rd (nfI v) = .ok (nfI v) := by
  obtain ⟨h1, h2⟩ := h
  unfold nfI
  by_cases hv : v < 0
  · rw [if_pos hv, rd_minus, fin_ok (by simp [lim]; omega), nf, if_pos ⟨rfl, by omega⟩]
  · rw [if_neg hv, rd_dN, fin_ok (by simp [lim]; omega), nf, if_neg (by simp)]
theorem nor_nfI {v : Int} (h : fits v) : nor (nfI v) = true := by rw [nor, decide_eq_true_eq]; exact rd_nfI h
/-- What is read is a normal form of a value that fits. -/
theorem rd_ok {l t : List UInt8} (h : rd l = .ok t) : ∃ v, fits v ∧ t = nfI v := by
  unfold rd body at h
  split at h
  · cases h
  · cases hv : vl (pre l).1 false 0 (pre l).2.2 with
    | none => rw [hv] at h; cases h
    | some n =>
      rw [hv] at h
      by_cases hn : n ≤ lim (pre l).2.1
      · rw [fin_ok hn] at h
        cases h
        refine ⟨if (pre l).2.1 = true then -(n : Int) else n, ?_, nf_nfI _ _⟩
        unfold fits
        revert hn
        unfold lim
        cases (pre l).2.1 <;> simp <;> omega
      · rw [fin_big (by omega)] at h; cases h
theorem nor_iff {l : List UInt8} : nor l = true ↔ ∃ v, fits v ∧ l = nfI v := by
  constructor
  · intro h
    rw [nor, decide_eq_true_eq] at h
    exact rd_ok h
  · rintro ⟨v, h, rfl⟩; exact nor_nfI h
theorem val_nfI (v : Int) : val (nfI v) = v := by
  unfold nfI
  by_cases hv : v < 0
  · rw [if_pos hv]
    show -(((vl 10 false 0 (dN 10 (-v).toNat)).getD 0 : Nat) : Int) = v
    rw [vl_dN' (by omega) (by omega)]; simp; omega
  · rw [if_neg hv]
    have hd : ∀ r, dN 10 v.toNat ≠ 45 :: r := by
      intro r e
      by_cases h0 : v.toNat = 0
      · rw [h0, dN_zero (by omega)] at e; cases e
      · obtain ⟨d, r', e', h1, h2⟩ := dN_head (b := 10) (by omega) (by omega) h0
        rw [e'] at e
        injection e with e _
        exact (ch_signs (d := d) (by omega)).2 e
    unfold val
    split
    · rename_i r e; exact absurd e (hd r)
    · rw [vl_dN' (by omega) (by omega)]; simp; omega
theorem cm_nfI {a b : Int} (ha : fits a) (hb : fits b) : cm (nfI a) (nfI b) = sgn a b := by
  rw [cm, if_pos ⟨nor_nfI ha, nor_nfI hb⟩, val_nfI, val_nfI]
end In
end Go.Proofs.YthjlnafmpcppfaaGreatDoor.II
/- What the texts on ints take from elsewhere: a digit, a text compared, a radix told ahead. -/
namespace Go.Proofs.YthjlnafmpcppfaaGreatDoor.II
open Go.RowKit

namespace In
theorem ch_ten {d : Nat} (h : d < 10) : ch d = UInt8.ofNat (48 + d) := by rw [ch, if_pos h]
end In
theorem sub8 {c k : Int} (h : k ≤ c) (h0 : 0 ≤ k) (h1 : c ≤ 255) : IntKind.u8.wrap (c - k) = c - k := by rw [IntKind.wrap_u8']; omega
/-- A digit's value; -1: none. -/
def gJ (c : Int) : Int := if 48 ≤ c ∧ c ≤ 57 then c - 48 else if 97 ≤ c ∧ c ≤ 102 then c - 87 else if 65 ≤ c ∧ c ≤ 70 then c - 55 else -1
/-- .. of a base. -/
def dJ (c b : Int) : Int := if b ≤ gJ c then -1 else gJ c
theorem dJ_dg (c : UInt8) {b : Nat} (h : b ≤ 16) : dJ (c.toNat : Int) b = if In.dg c < b then (In.dg c : Int) else -1 := by
  unfold dJ gJ In.dg
  by_cases a : 48 ≤ c.toNat ∧ c.toNat ≤ 57
  · rw [if_pos (show 48 ≤ (c.toNat : Int) ∧ (c.toNat : Int) ≤ 57 by omega), if_pos a]
    split <;> split <;> omega
  rw [if_neg (show ¬ (48 ≤ (c.toNat : Int) ∧ (c.toNat : Int) ≤ 57) by omega), if_neg a]
  by_cases a : 97 ≤ c.toNat ∧ c.toNat ≤ 102
  · rw [if_pos (show 97 ≤ (c.toNat : Int) ∧ (c.toNat : Int) ≤ 102 by omega), if_pos a]
    split <;> split <;> omega
  rw [if_neg (show ¬ (97 ≤ (c.toNat : Int) ∧ (c.toNat : Int) ≤ 102) by omega), if_neg a]
  by_cases a : 65 ≤ c.toNat ∧ c.toNat ≤ 70
  · rw [if_pos (show 65 ≤ (c.toNat : Int) ∧ (c.toNat : Int) ≤ 70 by omega), if_pos a]
    split <;> split <;> omega
  rw [if_neg (show ¬ (65 ≤ (c.toNat : Int) ∧ (c.toNat : Int) ≤ 70) by omega), if_neg a]
  split <;> split <;> omega
theorem toList_txt (l : List UInt8) : (txt l).toList = l := by
  rw [Lib.toList_data]; rfl
theorem iseq_txt {s t : ByteArray} {l m : List UInt8} (hs : s = txt l) (ht : t = txt m) : (s.toList == t.toList) = decide (l = m) := by
  rw [hs, ht, toList_txt, toList_txt]
  by_cases h : l = m
  · simp [h]
  · simp [h]
theorem iseq_l {s : ByteArray} {l : List UInt8} (hs : s = txt l) (m : List UInt8) : (s.toList == m) = decide (l = m) := by
  rw [hs, toList_txt]
  by_cases h : l = m
  · simp [h]
  · simp [h]
/-- What a reading answers. -/
def irv : In.R → Value
  | .ok t => .tuple #[.string (txt t), .int .i64 0]
  | .syn => .tuple #[.string ⟨#[]⟩, .int .i64 3]
  | .big => .tuple #[.string ⟨#[]⟩, .int .i64 8]
theorem drop_one {l : List UInt8} {i : Nat} (h : i < l.length) : ∃ c, l.drop i = c :: l.drop (i + 1) ∧ bt l i = (c.toNat : Int) :=
  ⟨l[i], List.drop_eq_getElem_cons h, by simp [bt, h]⟩
theorem by_num {c : UInt8} {y : Int} {k : Nat} (h : y = (c.toNat : Int)) (hk : k < 256) (hy : y = k) : c = UInt8.ofNat k := UInt8.toNat_inj.1 (by rw [UInt8.toNat_ofNat_of_lt' (by simp [UInt8.size]; omega)]; omega)
/-- Is a radix told ahead? -/
def rdx (l : List UInt8) : Bool := decide (2 ≤ l.length ∧ bt l 0 = 48 ∧ (bt l 1 = 120 ∨ bt l 1 = 111 ∨ bt l 1 = 98))
theorem pre_rdx {l : List UInt8} (h : rdx l = true) : In.pre l = ((if bt l 1 = 120 then 16 else if bt l 1 = 111 then 8 else 2), false, l.drop 2) := by
  have h := of_decide_eq_true h
  obtain ⟨h1, h2, h3⟩ := h
  match l, h1, h2, h3 with
  | a :: b :: r, _, h2, h3 =>
    have ha : a = 48 := by_num (k := 48) (y := bt (a :: b :: r) 0) rfl (by omega) h2
    subst ha
    have e1 : bt (48 :: b :: r) 1 = (b.toNat : Int) := rfl
    rw [e1] at h3 ⊢
    rcases h3 with h3 | h3 | h3
    · have hb : b = 120 := by_num (k := 120) (y := (b.toNat : Int)) rfl (by omega) h3
      subst hb; rfl
    · have hb : b = 111 := by_num (k := 111) (y := (b.toNat : Int)) rfl (by omega) h3
      subst hb; rfl
    · have hb : b = 98 := by_num (k := 98) (y := (b.toNat : Int)) rfl (by omega) h3
      subst hb; rfl
theorem pre_sgn {l : List UInt8} (h : rdx l = false) : In.pre l = if 0 < l.length ∧ bt l 0 = 43 then (10, false, l.drop 1) else if 0 < l.length ∧ bt l 0 = 45 then (10, true, l.drop 1) else (10, false, l) := by
  have h := of_decide_eq_false h
  match l with
  | [] => rfl
  | [a] =>
    have e : bt [a] 0 = (a.toNat : Int) := rfl
    rw [e]
    by_cases h1 : a = 43
    · subst h1; rfl
    · by_cases h2 : a = 45
      · subst h2; rfl
      · have n1 : ¬ ((a.toNat : Int) = 43) := fun e => h1 (by_num (k := 43) (y := (a.toNat : Int)) rfl (by omega) e)
        have n2 : ¬ ((a.toNat : Int) = 45) := fun e => h2 (by_num (k := 45) (y := (a.toNat : Int)) rfl (by omega) e)
        rw [if_neg (fun h => n1 h.2), if_neg (fun h => n2 h.2)]
        unfold In.pre
        split <;> simp_all
  | a :: b :: r =>
    have e : bt (a :: b :: r) 0 = (a.toNat : Int) := rfl
    have e1 : bt (a :: b :: r) 1 = (b.toNat : Int) := rfl
    rw [e, e1] at h
    rw [e]
    by_cases h1 : a = 43
    · subst h1; rfl
    · by_cases h2 : a = 45
      · subst h2; rfl
      · have n1 : ¬ ((a.toNat : Int) = 43) := fun e => h1 (by_num (k := 43) (y := (a.toNat : Int)) rfl (by omega) e)
        have n2 : ¬ ((a.toNat : Int) = 45) := fun e => h2 (by_num (k := 45) (y := (a.toNat : Int)) rfl (by omega) e)
        rw [if_neg (fun h => n1 h.2), if_neg (fun h => n2 h.2)]
        unfold In.pre
        split
        · rename_i x heq; injection heq with q1 q2; injection q2 with q2 q3; subst q1; subst q2; exact absurd ⟨by simp, rfl, .inl rfl⟩ h
        · rename_i x heq; injection heq with q1 q2; injection q2 with q2 q3; subst q1; subst q2; exact absurd ⟨by simp, rfl, .inr (.inl rfl)⟩ h
        · rename_i x heq; injection heq with q1 q2; injection q2 with q2 q3; subst q1; subst q2; exact absurd ⟨by simp, rfl, .inr (.inr rfl)⟩ h
        · rename_i x heq; injection heq with q1 q2; exact absurd q1 h1
        · rename_i x heq; injection heq with q1 q2; exact absurd q1 h2
        · rfl
theorem below_tr {W w w' : World} (h : Below W.heap.size W w) (h' : Below w.heap.size w w') : Below W.heap.size W w' := h.trans (h'.mono h.size)
end Go.Proofs.YthjlnafmpcppfaaGreatDoor.II
/- What landed, over lists: digits parted by low marks, their amount, its sign. -/
namespace Go.Proofs.YthjlnafmpcppfaaGreatDoor.II

namespace In
/-- Are there digits of a base, with one low mark between two of them at most; p: a digit stands ahead. -/
def spc (b : Nat) : Bool → List UInt8 → Bool
  | p, [] => p
  | p, c :: r => if c = 95 then (if p = true then spc b false r else false) else if dg c < b then spc b true r else false
theorem spc_vl (b : Nat) : ∀ (r : List UInt8) (p : Bool) (n : Nat), r ≠ [] ∨ p = true → (vl b p n r).isSome = spc b p r
  | [], p, n, h => by
    rcases h with h | h
    · exact absurd rfl h
    · subst h; rfl
  | c :: r, p, n, _ => by
    rw [vl, spc]
    by_cases hc : c = 95
    · rw [if_pos hc, if_pos hc]
      by_cases hp : p = true
      · rw [if_pos hp]
        by_cases hr : r = []
        · subst hr; rw [if_neg (fun h => h.2 rfl)]; rfl
        · rw [if_pos ⟨hp, hr⟩]; exact spc_vl b r false n (.inl hr)
      · rw [if_neg hp, if_neg (fun h => hp h.1)]; rfl
    · rw [if_neg hc, if_neg hc]
      by_cases hd : dg c < b
      · rw [if_pos hd, if_pos hd]; exact spc_vl b r true _ (.inr rfl)
      · rw [if_neg hd, if_neg hd]; rfl
/-- The amount of digits, as far as it is no more than may be. -/
def amt (b most : Nat) : Nat → List UInt8 → Option Nat
  | m, [] => some m
  | m, c :: r => if c = 95 then amt b most m r else if (most - dg c) / b < m then none else amt b most (m * b + dg c) r
/-- Bytes that are digits of a base, or low marks. -/
def okB (b : Nat) (r : List UInt8) : Prop := ∀ c ∈ r, c = 95 ∨ dg c < b
theorem spc_ok (b : Nat) : ∀ (r : List UInt8) (p : Bool), spc b p r = true → okB b r
  | [], _, _ => fun _ h => by cases h
  | c :: r, p, h => by
    rw [spc] at h
    intro x hx
    by_cases hc : c = 95
    · rw [if_pos hc] at h
      cases p
      · cases h
      · rw [if_pos rfl] at h
        rcases List.mem_cons.1 hx with rfl | hx
        · exact .inl hc
        · exact spc_ok b r false h x hx
    · rw [if_neg hc] at h
      by_cases hd : dg c < b
      · rw [if_pos hd] at h
        rcases List.mem_cons.1 hx with rfl | hx
        · exact .inr hd
        · exact spc_ok b r true h x hx
      · rw [if_neg hd] at h; cases h
theorem vl_ge {b : Nat} (hb : 0 < b) : ∀ (r : List UInt8) (p : Bool) (n v : Nat), vl b p n r = some v → n ≤ v
  | [], p, n, v, h => by rw [vl_nil] at h; injection h with h; omega
  | c :: r, p, n, v, h => by
    rw [vl] at h
    split at h
    · split at h
      · exact vl_ge hb r _ _ _ h
      · cases h
    · split at h
      · have h1 := vl_ge hb r _ _ _ h
        have h2 : n * 1 ≤ n * b := Nat.mul_le_mul_left n hb
        omega
      · cases h
theorem vl_amt {b most : Nat} (hb : 0 < b) (hm : b ≤ most) : ∀ (r : List UInt8) (p : Bool) (n v : Nat), n ≤ most → vl b p n r = some v → amt b most n r = if v ≤ most then some v else none
  | [], p, n, v, hn, h => by rw [vl_nil] at h; injection h with h; subst h; rw [amt, if_pos hn]
  | c :: r, p, n, v, hn, h => by
    rw [vl] at h
    rw [amt]
    split at h
    · rename_i hc
      rw [if_pos hc]
      split at h
      · exact vl_amt hb hm r _ _ _ hn h
      · cases h
    · rename_i hc
      rw [if_neg hc]
      split at h
      · rename_i hd
        by_cases hq : (most - dg c) / b < n
        · rw [if_pos hq, if_neg]
          have h1 := vl_ge hb r _ _ _ h
          have h2 := (Nat.div_lt_iff_lt_mul hb).1 hq
          omega
        · rw [if_neg hq]
          have h2 : n ≤ (most - dg c) / b := by omega
          have h3 := (Nat.le_div_iff_mul_le hb).1 h2
          exact vl_amt hb hm r _ _ _ (by omega) h
      · cases h
theorem lim_le (m : Bool) : 9223372036854775807 ≤ lim m ∧ lim m ≤ 9223372036854775808 := by cases m <;> simp [lim]
/-- A text's value with its sign, and its parts: what is read of it. -/
def sg2 (m : Bool) (v : Nat) : Int := if m = true then -(v : Int) else v
theorem fin_some (m : Bool) (v : Nat) : fin m (some v) = if v ≤ lim m then .ok (nfI (sg2 m v)) else .big := by
  by_cases h : v ≤ lim m
  · rw [if_pos h, fin_ok h, nf_nfI]; rfl
  · rw [if_neg h, fin_big (by omega)]
/-- Is a text an integer's? -/
def good (b : Nat) (r : List UInt8) : Bool := !decide (b = 10 ∧ 1 < r.length ∧ r.head? = some 48) && spc b false r
theorem spc_nil (b : Nat) : spc b false [] = false := rfl
theorem body_bad {b : Nat} {m : Bool} {r : List UInt8} (h : good b r = false) : body b m r = .syn := by
  unfold body
  by_cases h1 : r = [] ∨ b = 10 ∧ 1 < r.length ∧ r.head? = some 48
  · rw [if_pos h1]
  · rw [if_neg h1]
    have h2 : ¬ (b = 10 ∧ 1 < r.length ∧ r.head? = some 48) := fun h => h1 (.inr h)
    unfold good at h
    rw [decide_eq_false h2] at h
    have hs : spc b false r = false := by simpa using h
    rw [← spc_vl b r false 0 (.inl (fun h => h1 (.inl h)))] at hs
    cases hv : vl b false 0 r with
    | none => rfl
    | some v => rw [hv] at hs; cases hs
theorem body_good {b : Nat} {m : Bool} {r : List UInt8} (h : good b r = true) : ∃ v, vl b false 0 r = some v ∧ body b m r = fin m (some v) ∧ okB b r := by
  unfold good at h
  simp only [Bool.and_eq_true, Bool.not_eq_true', decide_eq_false_iff_not] at h
  obtain ⟨h2, hs⟩ := h
  have hr : r ≠ [] := by rintro rfl; cases hs
  have ho := spc_ok b r false hs
  rw [← spc_vl b r false 0 (.inl hr), Option.isSome_iff_exists] at hs
  obtain ⟨v, hv⟩ := hs
  refine ⟨v, hv, ?_, ho⟩
  unfold body
  rw [if_neg (by rintro (h | h); exact hr h; exact h2 h), hv]
end In
end Go.Proofs.YthjlnafmpcppfaaGreatDoor.II
/- What landed: a digit, whether it is one of a base. -/
namespace Go.Proofs.YthjlnafmpcppfaaGreatDoor.II
open Go.RowKit

/-- An integer's text in parts. -/
abbrev wrv (m : Bool) (b : Int) (s : ByteArray) : Value := .agg #[.bool m, .int .i64 b, .string s]
abbrev wrt (m : Bool) (b : Int) (s : ByteArray) : Obj := .cells #[.bool m, .int .i64 b, .string s] 81
theorem pdigit_is {c y : Int} (w : World) (hy : y = gJ c) (h0 : 0 ≤ c) (h1 : c ≤ 255) : Calls Tryz.prog 101 #[.int .u8 c] w fun e w' => e = .returned (.int .i64 y) ∧ w = w' := by
  have HY := Lib.hid hy
  clear hy
  by_cases a48 : 48 ≤ c ∧ c ≤ 57
  · obtain ⟨a2, a3⟩ := a48
    have G := Lib.hid (show gJ c = c - 48 by rw [gJ, if_pos (by omega)]; try omega)
    have hw := sub8 (c := c) (k := 48) a2 (by omega) h1
    go_enter Tryz.func101, Tryz.ntmps101
    go_wp2_with fail
    go_ret
    exact ⟨ret_int (by rw [HY.out, G.out]; try omega), rfl⟩
  by_cases a97 : 97 ≤ c ∧ c ≤ 102
  · obtain ⟨a2, a3⟩ := a97
    have G := Lib.hid (show gJ c = c - 97 + 10 by rw [gJ, if_neg (by omega), if_pos (by omega)]; try omega)
    have n1 : ¬ c ≤ 57 := by omega
    have n3 : 48 ≤ c := by omega
    have hw := sub8 (c := c) (k := 97) a2 (by omega) h1
    clear a48
    go_enter Tryz.func101, Tryz.ntmps101
    go_wp2_with fail
    go_ret
    exact ⟨ret_int (by rw [HY.out, G.out]; try omega), rfl⟩
  by_cases a65 : 65 ≤ c ∧ c ≤ 70
  · obtain ⟨a2, a3⟩ := a65
    have G := Lib.hid (show gJ c = c - 65 + 10 by rw [gJ, if_neg (by omega), if_neg (by omega), if_pos (by omega)]; try omega)
    have n1 : ¬ c ≤ 57 := by omega
    have n2 : ¬ 97 ≤ c := by omega
    have n3 : 48 ≤ c := by omega
    have hw := sub8 (c := c) (k := 65) a2 (by omega) h1
    clear a48 a97
    go_enter Tryz.func101, Tryz.ntmps101
    go_wp2_with fail
    go_ret
    exact ⟨ret_int (by rw [HY.out, G.out]; try omega), rfl⟩
  have E := Lib.hid (show y = -1 by rw [HY.out, gJ, if_neg a48, if_neg a97, if_neg a65])
  by_cases b1 : 48 ≤ c
  · have b2 : ¬ c ≤ 57 := fun h => a48 ⟨b1, h⟩
    by_cases b3 : 97 ≤ c
    · have b4 : ¬ c ≤ 102 := fun h => a97 ⟨b3, h⟩
      have b5 : ¬ c ≤ 70 := by omega
      have b6 : 65 ≤ c := by omega
      clear a48 a97 a65
      go_enter Tryz.func101, Tryz.ntmps101
      go_wp2_with fail
      go_ret
      exact ⟨ret_int (by rw [E.out]), rfl⟩
    · by_cases b5 : 65 ≤ c
      · have b6 : ¬ c ≤ 70 := fun h => a65 ⟨b5, h⟩
        clear a48 a97 a65
        go_enter Tryz.func101, Tryz.ntmps101
        go_wp2_with fail
        go_ret
        exact ⟨ret_int (by rw [E.out]), rfl⟩
      · clear a48 a97 a65
        go_enter Tryz.func101, Tryz.ntmps101
        go_wp2_with fail
        go_ret
        exact ⟨ret_int (by rw [E.out]), rfl⟩
  · have b3 : ¬ 97 ≤ c := by omega
    have b5 : ¬ 65 ≤ c := by omega
    clear a48 a97 a65
    go_enter Tryz.func101, Tryz.ntmps101
    go_wp2_with fail
    go_ret
    exact ⟨ret_int (by rw [E.out]), rfl⟩
theorem gJ_le (c : Int) : -1 ≤ gJ c ∧ gJ c ≤ 15 := by unfold gJ; split <;> (try split) <;> (try split) <;> omega
theorem gJ_dg (c : UInt8) {b : Nat} (h : b ≤ 16) : decide (0 ≤ gJ (c.toNat : Int) ∧ gJ (c.toNat : Int) < b) = decide (In.dg c < b) := by
  have e := dJ_dg c h
  unfold dJ at e
  have := gJ_le (c.toNat : Int)
  congr 1
  apply propext
  constructor
  · rintro ⟨h1, h2⟩
    rw [if_neg (by omega)] at e
    by_cases hd : In.dg c < b
    · exact hd
    · rw [if_neg hd] at e; omega
  · intro hd
    rw [if_pos hd] at e
    split at e
    · omega
    · omega
theorem phas_is {c b : Int} {m x : Bool} {s : ByteArray} (w : World) (hx : x = decide (0 ≤ gJ c ∧ gJ c < b)) (h0 : 0 ≤ c) (h1 : c ≤ 255) : Calls Tryz.prog 100 #[wrv m b s, .int .u8 c] w fun e w' => e = .returned (.bool x) ∧ w' = w.alloc (wrt m b s) := by
  obtain ⟨y, hy⟩ : ∃ y, y = gJ c := ⟨_, rfl⟩
  have HD := Lib.hid (fun w => pdigit_is w hy h0 h1)
  have HX := Lib.hid (show x = decide (0 ≤ y ∧ y < b) by rw [hx, hy])
  clear hx hy h0 h1
  go_enter Tryz.func100, Tryz.ntmps100
  go_wp2_with fail
  refine (HD.out _).mono ?_
  rintro e w1 ⟨rfl, rfl⟩
  by_cases p : 0 ≤ y
  · by_cases q : y < b
    · obtain rfl : x = true := by rw [HX.out]; simp [p, q]
      go_wp2_with fail
      go_ret
      exact ⟨rfl, rfl⟩
    · obtain rfl : x = false := by rw [HX.out]; simp [q]
      go_wp2_with fail
      go_ret
      exact ⟨ret_bool (by simp [q]), rfl⟩
  · obtain rfl : x = false := by rw [HX.out]; simp [p]
    go_wp2_with fail
    go_ret
    exact ⟨rfl, rfl⟩
end Go.Proofs.YthjlnafmpcppfaaGreatDoor.II
/- What landed: digits with one low mark between two of them at most. -/
namespace Go.Proofs.YthjlnafmpcppfaaGreatDoor.II
open Go.RowKit

theorem below_alloc {W w : World} {o : Obj} (h : Below (W.alloc o).heap.size (W.alloc o) w) : Below W.heap.size W w :=
  ((Below.refl W.heap.size W).alloc (Nat.le_refl _) o).trans (h.mono (by simp))
/-- The parts' own block, whatever came behind it. -/
theorem wr_cells {W w : World} {m : Bool} {b : Int} {s : ByteArray} (h : Below (W.alloc (wrt m b s)).heap.size (W.alloc (wrt m b s)) w) :
    w.cell? ⟨W.heap.size, 0, none⟩ = some (.bool m) ∧ w.cell? ⟨W.heap.size, 1, none⟩ = some (.int .i64 b) ∧ w.cell? ⟨W.heap.size, 2, none⟩ = some (.string s) := by
  refine ⟨?_, ?_, ?_⟩ <;> (rw [h.cell (by simp), World.cell?_alloc_new]; rfl)
/-- A round of the look at the digits. -/
def SpRel (W : World) (b : Nat) (r : List UInt8) (k : Nat) (y : Int) (wx : World) : Prop :=
  k ≤ r.length ∧ In.spc b false r = In.spc b (decide (y ≠ 95)) (r.drop k) ∧ Below W.heap.size W wx
theorem spc_end {b : Nat} {r : List UInt8} {k : Nat} {p : Bool} (h : k = r.length) : In.spc b p (r.drop k) = p := by
  rw [h, List.drop_length]; rfl
theorem spc_95 {b : Nat} {r : List UInt8} {k : Nat} (h : k < r.length) (hy : bt r k = 95) (p : Bool) : In.spc b p (r.drop k) = if p = true then In.spc b false (r.drop (k + 1)) else false := by
  obtain ⟨c, e, hb⟩ := drop_one h
  obtain rfl : c = 95 := by_num (k := 95) hb (by omega) hy
  rw [e, In.spc, if_pos rfl]
theorem spc_dg {b : Nat} (hb : b ≤ 16) {r : List UInt8} {k : Nat} (h : k < r.length) (hy : bt r k ≠ 95) (p : Bool) : In.spc b p (r.drop k) = if decide (0 ≤ gJ (bt r k) ∧ gJ (bt r k) < b) = true then In.spc b true (r.drop (k + 1)) else false := by
  obtain ⟨c, e, hbb⟩ := drop_one h
  rw [hbb] at hy ⊢
  rw [gJ_dg c hb, e, In.spc, if_neg (by rintro rfl; exact hy rfl)]
  simp
set_option maxHeartbeats 4000000 in
set_option maxRecDepth 100000 in
theorem pspaced_is {r : List UInt8} {s : ByteArray} {m x : Bool} {b : Nat} (w : World) (hs : s = txt r) (hl : r.length ≤ 100000) (hb : b ≤ 16) (hx : x = In.spc b false r) :
    Calls Tryz.prog 82 #[wrv m b s] w fun e w' => e = .returned (.bool x) ∧ Below w.heap.size w w' := by
  have HS := Lib.hid hs
  have HZ := Lib.hid (show s.size = r.length by rw [hs, txt_size])
  have hsz : s.size ≤ 100000 := by rw [HZ.out]; exact hl
  have HX := Lib.hid hx
  have HBB := Lib.hid hb
  have R0 : SpRel (w.alloc (wrt m b s)) b r 0 95 (w.alloc (wrt m b s)) := ⟨Nat.zero_le _, rfl, Below.refl _ _⟩
  clear hs hl hx hb
  go_enter Tryz.func82, Tryz.ntmps82
  go_wp2_with fail
  go_loopw [3, 9] (fun v i wx => ∃ (k : Nat) (y : Int), i = .int .i64 k ∧ v = .int .u8 y ∧ SpRel (w.alloc (wrt m b s)) b r k y wx) (fun _ i _ => s.size - (intOf i).toNat)
  case atStart => exact ⟨0, 95, rfl, rfl, R0⟩
  case round =>
    obtain ⟨k, y, rfl, rfl, Rk⟩ := hrel
    clear R0
    have HRk := Lib.hid Rk
    obtain ⟨c0, c1, c2⟩ := wr_cells Rk.2.2
    have hkT : k ≤ s.size := by rw [HZ.out]; exact Rk.1
    clear Rk
    by_cases hlt : k < s.size
    · have hkr : k < r.length := by rw [← HZ.out]; exact hlt
      have hx := txt_at HS.out (k := k)
      have b0 := bt_lo r k
      have b1 := bt_hi r k
      obtain ⟨z, HYY⟩ : ∃ z, Hid (z = bt r k) := ⟨_, rfl⟩
      rw [← HYY.out] at hx b0 b1
      by_cases h95 : z = 95
      · have HE := Lib.hid (show bt r k = 95 by rw [← HYY.out]; exact h95)
        have E := Lib.hid (spc_95 (b := b) hkr HE.out (decide (y ≠ 95)))
        subst h95
        by_cases hy : y = 95
        · have F := Lib.hid (show x = false by rw [HX.out, HRk.out.2.1, E.out, hy]; rfl)
          subst hy
          go_wp2_with fail
          go_ret
          exact ⟨ret_bool (by rw [F.out]), below_alloc HRk.out.2.2⟩
        · have hyi : (y == 95) = false := by simp [hy]
          have F := Lib.hid (show SpRel (w.alloc (wrt m b s)) b r (k + 1) 95 _ from ⟨hkr, by rw [HRk.out.2.1, E.out, decide_eq_true hy]; rfl, HRk.out.2.2⟩)
          go_wp2_with fail
          exact ⟨⟨k + 1, 95, by simp, rfl, F.out⟩, by simp [intOf]; omega⟩
      · have hzi : (z == 95) = false := by simp [h95]
        have HE := Lib.hid (show bt r k ≠ 95 by rw [← HYY.out]; exact h95)
        obtain ⟨q, hq⟩ : ∃ q, q = decide (0 ≤ gJ z ∧ gJ z < (b : Int)) := ⟨_, rfl⟩
        have E := Lib.hid (spc_dg HBB.out hkr HE.out (decide (y ≠ 95)))
        rw [← HYY.out, ← hq] at E
        have HP := Lib.hid (fun w => phas_is (m := m) (s := s) w hq b0 b1)
        clear hq
        go_wp2_with fail
        refine (HP.out _).mono ?_
        rintro e w1 ⟨rfl, rfl⟩
        cases q
        · have F := Lib.hid (show x = false by rw [HX.out, HRk.out.2.1, E.out]; rfl)
          go_wp2_with fail
          go_ret
          exact ⟨ret_bool (by rw [F.out]), (below_alloc HRk.out.2.2).alloc (below_alloc HRk.out.2.2).size _⟩
        · have F := Lib.hid (show In.spc b false r = In.spc b (decide (z ≠ 95)) (r.drop (k + 1)) by rw [HRk.out.2.1, E.out, decide_eq_true h95]; rfl)
          go_wp2_with fail
          exact ⟨⟨k + 1, z, by simp, rfl, hkr, F.out, HRk.out.2.2.alloc HRk.out.2.2.size _⟩, by simp [intOf]; omega⟩
    · have F := Lib.hid (show x = decide (y ≠ 95) by rw [HX.out, HRk.out.2.1, spc_end (by rw [← HZ.out]; omega)])
      go_wp2_with fail
      go_ret
      exact ⟨ret_bool (by rw [F.out]; by_cases h : y = 95 <;> simp [h]), below_alloc HRk.out.2.2⟩
end Go.Proofs.YthjlnafmpcppfaaGreatDoor.II
/- What landed: the amount of digits, its sign. -/
namespace Go.Proofs.YthjlnafmpcppfaaGreatDoor.II
open Go.RowKit

/-- What the amount is told as. -/
def amv : Option Nat → Value
  | some n => .tuple #[.int .u64 n, .bool true]
  | none => .tuple #[.int .u64 0, .bool false]
def AmRel (W : World) (b M : Nat) (r : List UInt8) (k n : Nat) (wx : World) : Prop :=
  k ≤ r.length ∧ In.amt b M 0 r = In.amt b M n (r.drop k) ∧ n ≤ M ∧ Below W.heap.size W wx
theorem amt_95 {b M : Nat} {r : List UInt8} {k n : Nat} (h : k < r.length) (hy : bt r k = 95) : In.amt b M n (r.drop k) = In.amt b M n (r.drop (k + 1)) := by
  obtain ⟨c, e, hb⟩ := drop_one h
  obtain rfl : c = 95 := by_num (k := 95) hb (by omega) hy
  rw [e, In.amt, if_pos rfl]
theorem amt_dg {b M : Nat} (hb : b ≤ 16) {r : List UInt8} (ho : In.okB b r) {k n : Nat} (h : k < r.length) (hy : bt r k ≠ 95) : ∃ d : Nat, gJ (bt r k) = (d : Int) ∧ d < b ∧ In.amt b M n (r.drop k) = if (M - d) / b < n then none else In.amt b M (n * b + d) (r.drop (k + 1)) := by
  obtain ⟨c, e, hbb⟩ := drop_one h
  rw [hbb] at hy ⊢
  have hc : c ≠ 95 := by rintro rfl; exact hy rfl
  have hm : c ∈ r := by
    have : c ∈ r.drop k := by rw [e]; simp
    exact List.mem_of_mem_drop this
  have hd : In.dg c < b := (ho c hm).resolve_left hc
  have hj := dJ_dg c hb
  rw [if_pos hd] at hj
  unfold dJ at hj
  refine ⟨In.dg c, ?_, hd, ?_⟩
  · split at hj
    · omega
    · exact hj
  · rw [e, In.amt, if_neg hc]
theorem amt_end {b M n : Nat} {r : List UInt8} {k : Nat} (h : k = r.length) : In.amt b M n (r.drop k) = some n := by
  rw [h, List.drop_length]; rfl
theorem int_of_u64 {b : Nat} (h : b ≤ 16) : IntKind.u64.wrap (b : Int) = b := IntWalk.u64_in _ (by omega)
/-- The room above an amount. -/
theorem room {M d b n : Nat} (hM : M ≤ 9223372036854775808) (hb : 2 ≤ b) (hd : d < b) (hb2 : b ≤ 16) (hMb : 16 ≤ M) (h : ¬ (M - d) / b < n) : n * b + d ≤ M := by
  have h2 : n ≤ (M - d) / b := by omega
  have h3 := (Nat.le_div_iff_mul_le (by omega : 0 < b)).1 h2
  omega
theorem below_drewN {B : Nat} {W w : World} (h : Below B W w) (n : Nat) : Below B W (w.drewN n) := ⟨h.os, h.tape, h.output, h.size, h.block⟩
set_option maxHeartbeats 4000000 in
set_option maxRecDepth 100000 in
theorem pamount_is {r : List UInt8} {s : ByteArray} {m : Bool} {b : Nat} {v : Value} (w : World) (hs : s = txt r) (hl : r.length ≤ 100000) (hb2 : 2 ≤ b) (hb : b ≤ 16) (ho : In.okB b r) (hv : v = amv (In.amt b (In.lim m) 0 r)) :
    Calls Tryz.prog 83 #[wrv m b s] w fun e w' => e = .returned v ∧ Below w.heap.size w w' := by
  have HS := Lib.hid hs
  have HZ := Lib.hid (show s.size = r.length by rw [hs, txt_size])
  have hsz : s.size ≤ 100000 := by rw [HZ.out]; exact hl
  have HV := Lib.hid hv
  have HO := Lib.hid ho
  have HBB := Lib.hid hb
  have HB2 := Lib.hid hb2
  have hbw := int_of_u64 hb
  have hbz : ¬ b = 0 := by omega
  obtain ⟨M, hM⟩ : ∃ M : Nat, Hid (M = In.lim m) := ⟨_, Lib.hid rfl⟩
  have HM := Lib.hid (show 9223372036854775807 ≤ M ∧ M ≤ 9223372036854775808 by rw [hM.out]; exact In.lim_le m)
  have HMM := Lib.hid (show (M : Int) = if m = true then 9223372036854775808 else 9223372036854775807 by rw [hM.out]; cases m <;> rfl)
  rw [← hM.out] at HV
  clear hs hl hb2 hb ho hv hM
  go_enter Tryz.func83, Tryz.ntmps83
  go_upto_region 1 with fail
  go_quiet (fail)
  go_upto_if 12 with fail
  go_cut [4] (fun x wx => x = .int .u64 M ∧ Below (w.alloc (wrt m b s)).heap.size (w.alloc (wrt m b s)) wx)
  case first =>
    cases m
    · go_wp2_with fail
      go_meet
      exact ⟨by rw [HMM.out]; rfl, below_drewN (Below.refl _ _) _⟩
    · go_wp2_with fail
      go_meet
      exact ⟨by rw [HMM.out]; rfl, below_drewN (Below.refl _ _) _⟩
  case rest =>
    obtain ⟨rfl, hb0⟩ := hcut
    have R0 : AmRel (w.alloc (wrt m b s)) b M r 0 0 wc := ⟨Nat.zero_le _, rfl, Nat.zero_le _, hb0⟩
    obtain ⟨d0, d1, d2⟩ := wr_cells hb0
    clear hb0
    go_wp2_with fail
    clear d0 d1 d2
    go_loopw [2, 18] (fun v i wx => ∃ (k n : Nat), i = .int .i64 k ∧ v = .int .u64 n ∧ AmRel (w.alloc (wrt m b s)) b M r k n wx) (fun _ i _ => s.size - (intOf i).toNat)
    case atStart => exact ⟨0, 0, rfl, rfl, R0⟩
    case round =>
      obtain ⟨k, n, rfl, rfl, Rk⟩ := hrel
      clear R0
      have HRk := Lib.hid Rk
      obtain ⟨c0, c1, c2⟩ := wr_cells Rk.2.2.2
      have hkT : k ≤ s.size := by rw [HZ.out]; exact Rk.1
      clear Rk
      by_cases hlt : k < s.size
      · have hkr : k < r.length := by rw [← HZ.out]; exact hlt
        have hx := txt_at HS.out (k := k)
        have b0 := bt_lo r k
        have b1 := bt_hi r k
        obtain ⟨z, HYY⟩ : ∃ z, Hid (z = bt r k) := ⟨_, rfl⟩
        rw [← HYY.out] at hx b0 b1
        by_cases h95 : z = 95
        · have HE := Lib.hid (show bt r k = 95 by rw [← HYY.out]; exact h95)
          have F := Lib.hid (show AmRel (w.alloc (wrt m b s)) b M r (k + 1) n _ from ⟨hkr, by rw [HRk.out.2.1, amt_95 hkr HE.out], HRk.out.2.2.1, HRk.out.2.2.2⟩)
          subst h95
          go_wp2_with fail
          exact ⟨⟨k + 1, n, by simp, rfl, F.out⟩, by show s.size - ((k : Int) + 1).toNat < s.size - (k : Int).toNat; omega⟩
        · have hzi : (z == 95) = false := by simp [h95]
          have HE := Lib.hid (show bt r k ≠ 95 by rw [← HYY.out]; exact h95)
          obtain ⟨d, hd, hdb, he⟩ := amt_dg (M := M) (n := n) HBB.out HO.out hkr HE.out
          rw [← HYY.out] at hd
          have HP := Lib.hid (fun w => pdigit_is w hd.symm b0 b1)
          have HDB := Lib.hid hdb
          have HEE := Lib.hid he
          have w1 : IntKind.u64.wrap (d : Int) = d := IntWalk.u64_in _ (by have := HBB.out; omega)
          have w2 : IntKind.u64.wrap ((M : Int) - d) = ((M - d : Nat) : Int) := by
            have := HBB.out; have := HM.out
            rw [IntWalk.u64_in _ (by omega)]; omega
          obtain ⟨X, hX⟩ : ∃ X : Nat, X = M - d := ⟨_, rfl⟩
          rw [← hX] at w2
          have w3 : IntKind.u64.wrap ((X : Int) / b) = ((X / b : Nat) : Int) := by
            have h1 : X / b ≤ X := Nat.div_le_self _ _
            have := HM.out
            rw [IntWalk.u64_in _ (by constructor; exact Int.ediv_nonneg (by omega) (by omega); rw [← Int.natCast_ediv]; omega), Int.natCast_ediv]
          obtain ⟨Y, hY⟩ : ∃ Y : Nat, Y = X / b := ⟨_, rfl⟩
          rw [← hY] at w3
          by_cases hq : Y < n
          · have F := Lib.hid (show v = amv none by rw [HV.out, HRk.out.2.1, HEE.out, ← hX, ← hY, if_pos hq])
            have hqi : (Y : Int) < n := by omega
            clear he hd hdb hX hY
            go_wp2_with fail
            refine (HP.out _).mono ?_
            rintro e w1 ⟨rfl, rfl⟩
            go_wp2_with fail
            go_ret2
            exact ⟨by rw [F.out]; rfl, below_alloc HRk.out.2.2.2⟩
          · have hrm := room (n := n) HM.out.2 HB2.out hdb HBB.out (by have := HM.out; omega) (by rw [← hX, ← hY]; exact hq)
            have F := Lib.hid (show AmRel (w.alloc (wrt m b s)) b M r (k + 1) (n * b + d) _ from ⟨hkr, by rw [HRk.out.2.1, HEE.out, ← hX, ← hY, if_neg hq], hrm, HRk.out.2.2.2⟩)
            have hqi : ¬ (Y : Int) < n := by omega
            obtain ⟨U, hU⟩ : ∃ U : Nat, U = n * b := ⟨_, rfl⟩
            rw [← hU] at hrm F
            have w4 : IntKind.u64.wrap ((n : Int) * b) = U := by
              have := HM.out
              rw [hU, IntWalk.u64_in _ (by constructor; exact Int.mul_nonneg (by omega) (by omega); rw [← Int.natCast_mul, ← hU]; omega), Int.natCast_mul]
            have w5 : IntKind.u64.wrap ((U : Int) + d) = ((U + d : Nat) : Int) := by
              have := HM.out
              rw [IntWalk.u64_in _ (by omega)]; omega
            clear he hd hdb hX hY hU hrm
            go_wp2_with fail
            refine (HP.out _).mono ?_
            rintro e w1 ⟨rfl, rfl⟩
            go_wp2_with fail
            exact ⟨⟨k + 1, U + d, by simp, rfl, F.out⟩, by show s.size - ((k : Int) + 1).toNat < s.size - (k : Int).toNat; omega⟩
      · have F := Lib.hid (show v = amv (some n) by rw [HV.out, HRk.out.2.1, amt_end (by rw [← HZ.out]; omega)])
        go_wp2_with fail
        go_ret2
        exact ⟨by rw [F.out]; rfl, below_alloc HRk.out.2.2.2⟩
end Go.Proofs.YthjlnafmpcppfaaGreatDoor.II
/- What landed: a value with its sign. -/
namespace Go.Proofs.YthjlnafmpcppfaaGreatDoor.II
open Go.RowKit

/-- What a value is told as. -/
def vav (m : Bool) : Option Nat → Value
  | some n => .tuple #[.int .i64 (In.sg2 m n), .bool true]
  | none => .tuple #[.int .i64 0, .bool false]
theorem amt_le {b M : Nat} : ∀ (r : List UInt8) (m n : Nat), m ≤ M → 0 < b → b ≤ 16 → 16 ≤ M → In.okB b r → In.amt b M m r = some n → n ≤ M
  | [], m, n, hm, _, _, _, _, h => by rw [In.amt] at h; injection h with h; omega
  | c :: r, m, n, hm, hb, hb2, hM, ho, h => by
    have ho2 : In.okB b r := fun x hx => ho x (List.mem_cons_of_mem _ hx)
    rw [In.amt] at h
    split at h
    · exact amt_le r m n hm hb hb2 hM ho2 h
    · rename_i hc
      have hd := (ho c (by simp)).resolve_left hc
      split at h
      · cases h
      · rename_i hq
        have h2 : m ≤ (M - In.dg c) / b := by omega
        have h3 := (Nat.le_div_iff_mul_le hb).1 h2
        exact amt_le r _ n (by omega) hb hb2 hM ho2 h
theorem sg_minus {n : Nat} (h : n ≤ 9223372036854775808) : IntKind.i64.wrap (-(IntKind.i64.wrap (n : Int))) = -(n : Int) := by
  by_cases h2 : n = 9223372036854775808
  · subst h2; decide +kernel
  · rw [IntWalk.i64_in (n : Int) (by omega), IntWalk.i64_in _ (by omega)]
set_option maxHeartbeats 4000000 in
theorem pvalue_is {r : List UInt8} {s : ByteArray} {m : Bool} {b : Nat} {v : Value} (w : World) (hs : s = txt r) (hl : r.length ≤ 100000) (hb2 : 2 ≤ b) (hb : b ≤ 16) (ho : In.okB b r) (hv : v = vav m (In.amt b (In.lim m) 0 r)) :
    Calls Tryz.prog 59 #[wrv m b s] w fun e w' => e = .returned v ∧ Below w.heap.size w w' := by
  obtain ⟨A, hA⟩ : ∃ A, A = In.amt b (In.lim m) 0 r := ⟨_, rfl⟩
  have HA := Lib.hid (fun w => pamount_is (m := m) w hs hl hb2 hb ho (by rw [← hA]))
  have HL : Hid (∀ n, A = some n → n ≤ In.lim m) := Lib.hid (fun n e => amt_le r 0 n (Nat.zero_le _) (by omega) hb (by have := In.lim_le m; omega) ho (by rw [← hA]; exact e))
  have HV := Lib.hid (show v = vav m A by rw [hv, hA])
  clear hs hl hb2 hb ho hv hA
  go_enter Tryz.func59, Tryz.ntmps59
  go_wp2_with fail
  refine (HA.out _).mono ?_
  rintro e w1 ⟨rfl, hb⟩
  have HB := Lib.hid (below_alloc hb)
  obtain ⟨c0, c1, c2⟩ := wr_cells hb
  clear hb HA
  cases A with
  | none =>
    rw [amv]
    go_wp2_with fail
    go_ret2
    exact ⟨by rw [HV.out]; rfl, HB.out⟩
  | some n =>
    rw [amv]
    have hn := HL.out n rfl
    cases m
    · have e1 : IntKind.i64.wrap (n : Int) = n := IntWalk.i64_in _ (by simp [In.lim] at hn; omega)
      clear hn HL
      go_wp2_with fail
      go_ret2
      exact ⟨by rw [HV.out]; rfl, HB.out⟩
    · obtain ⟨x, hx⟩ : ∃ x, x = IntKind.i64.wrap (n : Int) := ⟨_, rfl⟩
      have e1 : IntKind.i64.wrap (n : Int) = x := hx.symm
      have e2 : IntKind.i64.wrap (-x) = -(n : Int) := by rw [hx]; exact sg_minus (by simp [In.lim] at hn; omega)
      clear hn HL hx
      go_wp2_with fail
      go_ret2
      exact ⟨by rw [HV.out]; rfl, HB.out⟩
end Go.Proofs.YthjlnafmpcppfaaGreatDoor.II
/- What landed: what begins with a radix's prefix. -/
namespace Go.Proofs.YthjlnafmpcppfaaGreatDoor.II
open Go.RowKit

/-- The table of radixes lies as the program lays it. -/
def Rads (w : World) : Prop := w.cell? ⟨1, 0, none⟩ = some (.int .u8 48) ∧ w.cell? ⟨1, 1, none⟩ = some (.int .u8 120) ∧ w.cell? ⟨1, 2, none⟩ = some (.int .i64 16) ∧ w.cell? ⟨1, 3, none⟩ = some (.int .u8 48) ∧ w.cell? ⟨1, 4, none⟩ = some (.int .u8 111) ∧ w.cell? ⟨1, 5, none⟩ = some (.int .i64 8) ∧ w.cell? ⟨1, 6, none⟩ = some (.int .u8 48) ∧ w.cell? ⟨1, 7, none⟩ = some (.int .u8 98) ∧ w.cell? ⟨1, 8, none⟩ = some (.int .i64 2)
theorem cell_lt {w : World} {b i : Nat} {v : Value} (h : w.cell? ⟨b, i, none⟩ = some v) : b < w.heap.size := by
  rcases Nat.lt_or_ge b w.heap.size with h' | h'
  · exact h'
  · simp [World.cell?, Array.getElem?_eq_none h'] at h
theorem Rads.below {w w' : World} (h : Rads w) (hb : Below w.heap.size w w') : Rads w' := by
  have hl := cell_lt h.1
  unfold Rads at h ⊢
  simp only [hb.cell (p := ⟨1, _, none⟩) hl]
  exact h
theorem rx_0 (w : World) : (Instr.index 122 (.agg #[.int .u8 48, .int .u8 120, .int .i64 16, .int .u8 48, .int .u8 111, .int .i64 8, .int .u8 48, .int .u8 98, .int .i64 2]) (.int .i64 0)).run Tryz.prog w = .ok (.agg #[.int .u8 48, .int .u8 120, .int .i64 16]) w := by kernel_rfl
theorem rx_1 (w : World) : (Instr.index 122 (.agg #[.int .u8 48, .int .u8 120, .int .i64 16, .int .u8 48, .int .u8 111, .int .i64 8, .int .u8 48, .int .u8 98, .int .i64 2]) (.int .i64 1)).run Tryz.prog w = .ok (.agg #[.int .u8 48, .int .u8 111, .int .i64 8]) w := by kernel_rfl
theorem rx_2 (w : World) : (Instr.index 122 (.agg #[.int .u8 48, .int .u8 120, .int .i64 16, .int .u8 48, .int .u8 111, .int .i64 8, .int .u8 48, .int .u8 98, .int .i64 2]) (.int .i64 2)).run Tryz.prog w = .ok (.agg #[.int .u8 48, .int .u8 98, .int .i64 2]) w := by kernel_rfl
theorem wr_frozen {W w : World} {m : Bool} {b : Int} {s : ByteArray} (h : Below (W.alloc (wrt m b s)).heap.size (W.alloc (wrt m b s)) w) (i : Nat) : w.frozen? ⟨W.heap.size, i, none⟩ = false := by
  rw [h.frozen (by simp)]; exact World.frozen?_alloc_at _ _ _ _ rfl
/-- The base that a prefix tells. -/
def pbs (l : List UInt8) : Nat := if bt l 1 = 120 then 16 else if bt l 1 = 111 then 8 else 2
def pxv (l : List UInt8) : Value := if rdx l = true then .tuple #[wrv false (pbs l) (txt (l.drop 2)), .bool true] else .tuple #[wrv false 0 ⟨#[]⟩, .bool false]
def PxRel (W : World) (l : List UInt8) (k : Nat) (wx : World) : Prop :=
  Below W.heap.size W wx ∧ (0 < k → ¬ (bt l 0 = 48 ∧ bt l 1 = 120)) ∧ (1 < k → ¬ (bt l 0 = 48 ∧ bt l 1 = 111)) ∧ (2 < k → ¬ (bt l 0 = 48 ∧ bt l 1 = 98))
theorem PxRel.more {W w w' : World} {l : List UInt8} {k : Nat} (h : PxRel W l k w) (hb : Below w.heap.size w w') : PxRel W l k w' := ⟨below_tr h.1 hb, h.2⟩
theorem PxRel.drawn {W w : World} {l : List UInt8} {k : Nat} (h : PxRel W l k w) (n : Nat) : PxRel W l k (w.drewN n) := ⟨below_drewN h.1 n, h.2⟩
theorem PxRel.next0 {W w : World} {l : List UInt8} (h : PxRel W l 0 w) (n : ¬ (bt l 0 = 48 ∧ bt l 1 = 120)) : PxRel W l 1 w := ⟨h.1, fun _ => n, fun h => absurd h (by omega), fun h => absurd h (by omega)⟩
theorem PxRel.next1 {W w : World} {l : List UInt8} (h : PxRel W l 1 w) (n : ¬ (bt l 0 = 48 ∧ bt l 1 = 111)) : PxRel W l 2 w := ⟨h.1, fun _ => h.2.1 (by omega), fun _ => n, fun h => absurd h (by omega)⟩
theorem PxRel.next2 {W w : World} {l : List UInt8} (h : PxRel W l 2 w) (n : ¬ (bt l 0 = 48 ∧ bt l 1 = 98)) : PxRel W l 3 w := ⟨h.1, fun _ => h.2.1 (by omega), fun _ => h.2.2.1 (by omega), fun _ => n⟩
theorem pxv_no {W w : World} {l : List UInt8} {v : Value} (hv : v = pxv l) (h : PxRel W l 3 w) : v = .tuple #[wrv false 0 ⟨#[]⟩, .bool false] := by
  obtain ⟨_, h1, h2, h3⟩ := h
  have h1 := h1 (by omega)
  have h2 := h2 (by omega)
  have h3 := h3 (by omega)
  rw [hv, pxv, if_neg]
  simp only [rdx, decide_eq_true_eq]
  rintro ⟨_, a, b | b | b⟩
  · exact h1 ⟨a, b⟩
  · exact h2 ⟨a, b⟩
  · exact h3 ⟨a, b⟩
theorem pxv_of {l : List UInt8} {s : ByteArray} {v : Value} {c : Int} {b : Nat} (hs : s = txt l) (hv : v = pxv l) (h1 : 1 < s.size) (h2 : bt l 0 = 48) (h3 : bt l 1 = c) (hc : c = 120 ∧ b = 16 ∨ c = 111 ∧ b = 8 ∨ c = 98 ∧ b = 2) : v = .tuple #[wrv false b (s.extract 2 s.size), .bool true] := by
  have hz : s.size = l.length := by rw [hs, txt_size]
  have hr : rdx l = true := by
    simp only [rdx, decide_eq_true_eq]
    refine ⟨by omega, h2, ?_⟩
    rcases hc with ⟨e, _⟩ | ⟨e, _⟩ | ⟨e, _⟩ <;> omega
  rw [hv, pxv, if_pos hr, hs, txt_cut, txt_size, List.take_length]
  have e : pbs l = b := by
    unfold pbs
    rcases hc with ⟨e, rfl⟩ | ⟨e, rfl⟩ | ⟨e, rfl⟩
    · rw [if_pos (by omega)]
    · rw [if_neg (by omega), if_pos (by omega)]
    · rw [if_neg (by omega), if_neg (by omega)]
  rw [e]
set_option maxHeartbeats 4000000 in
set_option maxRecDepth 100000 in
theorem pprefixed_is {l : List UInt8} {s : ByteArray} {v : Value} (w : World) (hs : s = txt l) (hl : l.length ≤ 100000) (hT : Rads w) (hv : v = pxv l) :
    Calls Tryz.prog 80 #[.string s] w fun e w' => e = .returned v ∧ Below w.heap.size w w' := by
  have HS := Lib.hid hs
  have HZ := Lib.hid (show s.size = l.length by rw [hs, txt_size])
  have hsz : s.size ≤ 100000 := by rw [HZ.out]; exact hl
  have HV := Lib.hid hv
  have HT := Lib.hid hT
  have HLT := Lib.hid (cell_lt hT.1)
  have hx0 := txt_at hs (k := 0)
  have hx1 := txt_at hs (k := 1)
  obtain ⟨y0, HY0⟩ : ∃ y, Hid (y = bt l 0) := ⟨_, Lib.hid rfl⟩
  obtain ⟨y1, HY1⟩ : ∃ y, Hid (y = bt l 1) := ⟨_, Lib.hid rfl⟩
  rw [← HY0.out] at hx0
  rw [← HY1.out] at hx1
  clear hs hl hv hT
  by_cases h2 : s.size < 2
  · have F := Lib.hid (show v = .tuple #[wrv false 0 ⟨#[]⟩, .bool false] by rw [HV.out, pxv, if_neg]; simp [rdx]; intro h; have := HZ.out; omega)
    have h2i : (s.size : Int) < 2 := by omega
    clear hx0 hx1
    go_enter Tryz.func80, Tryz.ntmps80
    go_wp2_with fail
    refine bodyPost_ret (v := .tuple #[wrv false 0 ⟨#[]⟩, .bool false]) (by simp [results, Tryz.results80, go_sem]) rfl ?_
    exact ⟨by rw [F.out], (Below.refl w.heap.size w).alloc (Nat.le_refl _) _⟩
  · have h2i : ¬ (s.size : Int) < 2 := by omega
    have i0 : 0 < s.size := by omega
    have i1 : 1 < s.size := by omega
    have R0 : PxRel (w.alloc (wrt false 0 ⟨#[]⟩)) l 0 (w.alloc (wrt false 0 ⟨#[]⟩)) := ⟨Below.refl _ _, fun h => absurd h (by omega), fun h => absurd h (by omega), fun h => absurd h (by omega)⟩
    obtain ⟨z0, z1, z2, z3, z4, z5, z6, z7, z8⟩ := HT.out.below ((Below.refl w.heap.size w).alloc (Nat.le_refl _) (wrt false 0 ⟨#[]⟩))
    go_enter Tryz.func80, Tryz.ntmps80
    go_wp2_with fail
    clear z0 z1 z2 z3 z4 z5 z6 z7 z8
    go_loopw [11] (fun i wx => ∃ (k : Nat), k ≤ 3 ∧ i = .int .i64 k ∧ PxRel (w.alloc (wrt false 0 ⟨#[]⟩)) l k wx) (fun i _ => 3 - (intOf i).toNat)
    case atStart => exact ⟨0, by omega, rfl, R0⟩
    case round =>
      obtain ⟨k, hk, rfl, Rk⟩ := hrel
      clear R0
      have HRk := Lib.hid Rk
      obtain ⟨c0, c1, c2⟩ := wr_cells Rk.1
      have f0 := wr_frozen Rk.1 0
      have f1 := wr_frozen Rk.1 1
      have f2 := wr_frozen Rk.1 2
      clear Rk
      rcases (show k = 0 ∨ k = 1 ∨ k = 2 ∨ k = 3 by omega) with rfl | rfl | rfl | rfl
      · have hix := rx_0 wr
        by_cases hq : y0 = 48 ∧ y1 = 120
        · have F := Lib.hid (show v = .tuple #[wrv false 16 (s.extract 2 s.size), .bool true] from pxv_of (v := v) (c := 120) (b := 16) HS.out HV.out i1 (by rw [← HY0.out]; exact hq.1) (by rw [← HY1.out]; exact hq.2) (by simp))
          obtain ⟨rfl, rfl⟩ := hq
          go_upto_region 6 with fail
          go_quiet (fail)
          obtain ⟨wq, hwq⟩ : ∃ wq, wq = (wr.alloc (.cells #[.int .u8 48, .int .u8 120, .int .i64 16] 121)).drewN nq := ⟨_, rfl⟩
          rw [← hwq]
          have HBq := Lib.hid (show Below (w.alloc (wrt false 0 ⟨#[]⟩)).heap.size (w.alloc (wrt false 0 ⟨#[]⟩)) wq by rw [hwq]; exact below_drewN (HRk.out.1.alloc HRk.out.1.size _) _)
          obtain ⟨e0, e1, e2⟩ := wr_cells HBq.out
          have g0 := wr_frozen HBq.out 0
          have g1 := wr_frozen HBq.out 1
          have g2 := wr_frozen HBq.out 2
          have r2 : wq.cell? ⟨wr.heap.size, 2, none⟩ = some (.int .i64 16) := by rw [hwq]; exact World.cell?_alloc_new _ _ _ _
          clear c0 c1 c2 f0 f1 f2 hwq
          go_upto_region 7 with fail
          go_region
          go_wp2_with fail
          refine bodyPost_ret (v := .tuple #[wrv false 16 (s.extract 2 s.size), .bool true]) (by simp [results, Tryz.results80, go_sem, *]) rfl ?_
          exact ⟨by rw [F.out], ((((below_alloc HBq.out).setCell (Nat.le_refl _) _).setCell (Nat.le_refl _) _).setCell (Nat.le_refl _) _).drew⟩
        · have F := Lib.hid (show PxRel (w.alloc (wrt false 0 ⟨#[]⟩)) l 1 _ from (HRk.out.next0 (by rw [← HY0.out, ← HY1.out]; exact hq)).more ((Below.refl _ _).alloc (Nat.le_refl _) (.cells #[.int .u8 48, .int .u8 120, .int .i64 16] 121)))
          by_cases hy : y0 = 48
          · have hz : ¬ y1 = 120 := fun h => hq ⟨hy, h⟩
            have hz1 : ¬ (120 : Int) = y1 := fun h => hz h.symm
            have hz2 : ((120 : Int) == y1) = false := by simp [hz1]
            subst hy
            clear hq
            go_upto_region 6 with fail
            go_quiet (fail)
            go_wp2_with fail
            exact ⟨⟨1, by omega, rfl, F.out.drawn _⟩, by decide⟩
          · have hz1 : ¬ (48 : Int) = y0 := fun h => hy h.symm
            have hz2 : ((48 : Int) == y0) = false := by simp [hz1]
            clear hq
            go_upto_region 6 with fail
            go_quiet (fail)
            go_wp2_with fail
            exact ⟨⟨1, by omega, rfl, F.out.drawn _⟩, by decide⟩
      · have hix := rx_1 wr
        by_cases hq : y0 = 48 ∧ y1 = 111
        · have F := Lib.hid (show v = .tuple #[wrv false 8 (s.extract 2 s.size), .bool true] from pxv_of (v := v) (c := 111) (b := 8) HS.out HV.out i1 (by rw [← HY0.out]; exact hq.1) (by rw [← HY1.out]; exact hq.2) (by simp))
          obtain ⟨rfl, rfl⟩ := hq
          go_upto_region 6 with fail
          go_quiet (fail)
          obtain ⟨wq, hwq⟩ : ∃ wq, wq = (wr.alloc (.cells #[.int .u8 48, .int .u8 111, .int .i64 8] 121)).drewN nq := ⟨_, rfl⟩
          rw [← hwq]
          have HBq := Lib.hid (show Below (w.alloc (wrt false 0 ⟨#[]⟩)).heap.size (w.alloc (wrt false 0 ⟨#[]⟩)) wq by rw [hwq]; exact below_drewN (HRk.out.1.alloc HRk.out.1.size _) _)
          obtain ⟨e0, e1, e2⟩ := wr_cells HBq.out
          have g0 := wr_frozen HBq.out 0
          have g1 := wr_frozen HBq.out 1
          have g2 := wr_frozen HBq.out 2
          have r2 : wq.cell? ⟨wr.heap.size, 2, none⟩ = some (.int .i64 8) := by rw [hwq]; exact World.cell?_alloc_new _ _ _ _
          clear c0 c1 c2 f0 f1 f2 hwq
          go_upto_region 7 with fail
          go_region
          go_wp2_with fail
          refine bodyPost_ret (v := .tuple #[wrv false 8 (s.extract 2 s.size), .bool true]) (by simp [results, Tryz.results80, go_sem, *]) rfl ?_
          exact ⟨by rw [F.out], ((((below_alloc HBq.out).setCell (Nat.le_refl _) _).setCell (Nat.le_refl _) _).setCell (Nat.le_refl _) _).drew⟩
        · have F := Lib.hid (show PxRel (w.alloc (wrt false 0 ⟨#[]⟩)) l 2 _ from (HRk.out.next1 (by rw [← HY0.out, ← HY1.out]; exact hq)).more ((Below.refl _ _).alloc (Nat.le_refl _) (.cells #[.int .u8 48, .int .u8 111, .int .i64 8] 121)))
          by_cases hy : y0 = 48
          · have hz : ¬ y1 = 111 := fun h => hq ⟨hy, h⟩
            have hz1 : ¬ (111 : Int) = y1 := fun h => hz h.symm
            have hz2 : ((111 : Int) == y1) = false := by simp [hz1]
            subst hy
            clear hq
            go_upto_region 6 with fail
            go_quiet (fail)
            go_wp2_with fail
            exact ⟨⟨2, by omega, rfl, F.out.drawn _⟩, by decide⟩
          · have hz1 : ¬ (48 : Int) = y0 := fun h => hy h.symm
            have hz2 : ((48 : Int) == y0) = false := by simp [hz1]
            clear hq
            go_upto_region 6 with fail
            go_quiet (fail)
            go_wp2_with fail
            exact ⟨⟨2, by omega, rfl, F.out.drawn _⟩, by decide⟩
      · have hix := rx_2 wr
        by_cases hq : y0 = 48 ∧ y1 = 98
        · have F := Lib.hid (show v = .tuple #[wrv false 2 (s.extract 2 s.size), .bool true] from pxv_of (v := v) (c := 98) (b := 2) HS.out HV.out i1 (by rw [← HY0.out]; exact hq.1) (by rw [← HY1.out]; exact hq.2) (by simp))
          obtain ⟨rfl, rfl⟩ := hq
          go_upto_region 6 with fail
          go_quiet (fail)
          obtain ⟨wq, hwq⟩ : ∃ wq, wq = (wr.alloc (.cells #[.int .u8 48, .int .u8 98, .int .i64 2] 121)).drewN nq := ⟨_, rfl⟩
          rw [← hwq]
          have HBq := Lib.hid (show Below (w.alloc (wrt false 0 ⟨#[]⟩)).heap.size (w.alloc (wrt false 0 ⟨#[]⟩)) wq by rw [hwq]; exact below_drewN (HRk.out.1.alloc HRk.out.1.size _) _)
          obtain ⟨e0, e1, e2⟩ := wr_cells HBq.out
          have g0 := wr_frozen HBq.out 0
          have g1 := wr_frozen HBq.out 1
          have g2 := wr_frozen HBq.out 2
          have r2 : wq.cell? ⟨wr.heap.size, 2, none⟩ = some (.int .i64 2) := by rw [hwq]; exact World.cell?_alloc_new _ _ _ _
          clear c0 c1 c2 f0 f1 f2 hwq
          go_upto_region 7 with fail
          go_region
          go_wp2_with fail
          refine bodyPost_ret (v := .tuple #[wrv false 2 (s.extract 2 s.size), .bool true]) (by simp [results, Tryz.results80, go_sem, *]) rfl ?_
          exact ⟨by rw [F.out], ((((below_alloc HBq.out).setCell (Nat.le_refl _) _).setCell (Nat.le_refl _) _).setCell (Nat.le_refl _) _).drew⟩
        · have F := Lib.hid (show PxRel (w.alloc (wrt false 0 ⟨#[]⟩)) l 3 _ from (HRk.out.next2 (by rw [← HY0.out, ← HY1.out]; exact hq)).more ((Below.refl _ _).alloc (Nat.le_refl _) (.cells #[.int .u8 48, .int .u8 98, .int .i64 2] 121)))
          by_cases hy : y0 = 48
          · have hz : ¬ y1 = 98 := fun h => hq ⟨hy, h⟩
            have hz1 : ¬ (98 : Int) = y1 := fun h => hz h.symm
            have hz2 : ((98 : Int) == y1) = false := by simp [hz1]
            subst hy
            clear hq
            go_upto_region 6 with fail
            go_quiet (fail)
            go_wp2_with fail
            exact ⟨⟨3, by omega, rfl, F.out.drawn _⟩, by decide⟩
          · have hz1 : ¬ (48 : Int) = y0 := fun h => hy h.symm
            have hz2 : ((48 : Int) == y0) = false := by simp [hz1]
            clear hq
            go_upto_region 6 with fail
            go_quiet (fail)
            go_wp2_with fail
            exact ⟨⟨3, by omega, rfl, F.out.drawn _⟩, by decide⟩
      · have F := Lib.hid (pxv_no (v := v) HV.out HRk.out)
        go_wp2_with fail
        refine bodyPost_ret (v := .tuple #[wrv false 0 ⟨#[]⟩, .bool false]) (by simp [results, Tryz.results80, go_sem, *]) rfl ?_
        exact ⟨by rw [F.out], (((below_alloc HRk.out.1).setCell (Nat.le_refl _) _).setCell (Nat.le_refl _) _).setCell (Nat.le_refl _) _⟩
end Go.Proofs.YthjlnafmpcppfaaGreatDoor.II
/- What landed: what has no radix's prefix. -/
namespace Go.Proofs.YthjlnafmpcppfaaGreatDoor.II
open Go.RowKit

/-- Does a nought stand ahead of more? -/
def nau (r : List UInt8) : Bool := decide (1 < r.length ∧ r.head? = some 48)
def sgv (m : Bool) (r : List UInt8) : Value := if nau r = true then .tuple #[wrv false 0 ⟨#[]⟩, .bool false] else .tuple #[wrv m 10 (txt r), .bool true]
theorem nau_short {r : List UInt8} (h : ¬ 1 < r.length) : nau r = false := by simp [nau]; omega
theorem nau_at {r : List UInt8} (h : 1 < r.length) : nau r = decide (bt r 0 = 48) := by
  obtain ⟨c, q, e⟩ := List.exists_cons_of_ne_nil (l := r) (by rintro rfl; simp at h)
  subst e
  unfold nau
  congr 1
  apply propext
  show 1 < (c :: q).length ∧ some c = some 48 ↔ (c.toNat : Int) = 48
  constructor
  · rintro ⟨_, h⟩; injection h with h; rw [h]; rfl
  · intro h2; exact ⟨h, by rw [by_num (k := 48) (y := (c.toNat : Int)) rfl (by omega) h2]; rfl⟩
set_option maxHeartbeats 4000000 in
set_option maxRecDepth 100000 in
theorem psigned_is {l r : List UInt8} {m : Bool} {s : ByteArray} {v : Value} (w : World) (hs : s = txt l) (hl : l.length ≤ 100000) (hx : rdx l = false) (hp : In.pre l = (10, m, r)) (hv : v = sgv m r) :
    Calls Tryz.prog 81 #[.string s] w fun e w' => e = .returned v ∧ Below w.heap.size w w' := by
  have HS := Lib.hid hs
  have HZ := Lib.hid (show s.size = l.length by rw [hs, txt_size])
  have hsz : s.size ≤ 100000 := by rw [HZ.out]; exact hl
  have HV := Lib.hid hv
  have HP := Lib.hid (show (10, m, r) = if 0 < l.length ∧ bt l 0 = 43 then (10, false, l.drop 1) else if 0 < l.length ∧ bt l 0 = 45 then (10, true, l.drop 1) else (10, false, l) by rw [← hp]; exact pre_sgn hx)
  have hx0 := txt_at hs (k := 0)
  obtain ⟨y0, HY0⟩ : ∃ y, Hid (y = bt l 0) := ⟨_, Lib.hid rfl⟩
  rw [← HY0.out] at hx0 HP
  rw [← HZ.out] at HP
  have HSE := Lib.hid (iseq_l hs [])
  clear hs hl hv hx hp
  by_cases i0 : 0 < s.size
  · have hem : (s.toList == []) = false := by rw [HSE.out, decide_eq_false_iff_not]; intro e; have := HZ.out; rw [e, List.length_nil] at this; omega
    have hem2 : s.toList.isEmpty = false := by simpa using hem
    by_cases c1 : y0 = 43
    · have HPP := Lib.hid (show (10, m, r) = (10, false, l.drop 1) by rw [HP.out, if_pos ⟨i0, c1⟩])
      subst c1
      obtain rfl : r = (l.drop 1) := congrArg (fun q => q.2.2) HPP.out
      obtain rfl : m = false := congrArg (fun q => q.2.1) HPP.out
      obtain ⟨T, hT⟩ : ∃ T, T = s.extract 1 s.size := ⟨_, rfl⟩
      have hTe : s.extract 1 s.size = T := hT.symm
      have HT := Lib.hid (show T = txt (l.drop 1) by rw [hT, HS.out, txt_cut, txt_size, List.take_length])
      have HTZ := Lib.hid (show T.size = (l.drop 1).length by rw [HT.out, txt_size])
      have hz0 := txt_at HT.out (k := 0)
      obtain ⟨z0, HZ0⟩ : ∃ y, Hid (y = bt (l.drop 1) 0) := ⟨_, Lib.hid rfl⟩
      rw [← HZ0.out] at hz0
      clear hT
      by_cases q1 : 1 < T.size
      · have q1i : (1 : Int) < T.size := by omega
        have j0 : 0 < T.size := by omega
        by_cases q2 : z0 = 48
        · have F := Lib.hid (show v = .tuple #[wrv false 0 ⟨#[]⟩, .bool false] by rw [HV.out, sgv, if_pos]; rw [nau_at (by rw [← HTZ.out]; exact q1), ← HZ0.out]; exact decide_eq_true q2)
          subst q2
          go_enter Tryz.func81, Tryz.ntmps81
          go_wp2_with fail
          refine bodyPost_ret (v := .tuple #[wrv false 0 ⟨#[]⟩, .bool false]) (by simp [results, Tryz.results81, go_sem, *]) rfl ?_
          exact ⟨by rw [F.out], by (first | exact (Below.refl w.heap.size w).alloc (Nat.le_refl _) _ | exact ((Below.refl w.heap.size w).alloc (Nat.le_refl _) _).setCell (Nat.le_refl _) _ | exact (((Below.refl w.heap.size w).alloc (Nat.le_refl _) _).setCell (Nat.le_refl _) _).setCell (Nat.le_refl _) _)⟩
        · have q2i : (z0 == 48) = false := by simp [q2]
          have F := Lib.hid (show v = .tuple #[wrv false 10 T, .bool true] by rw [HV.out, sgv, if_neg, HT.out]; rw [nau_at (by rw [← HTZ.out]; exact q1), ← HZ0.out]; simp [q2])
          go_enter Tryz.func81, Tryz.ntmps81
          go_wp2_with fail
          refine bodyPost_ret (v := .tuple #[wrv false 10 T, .bool true]) (by simp [results, Tryz.results81, go_sem, *]) rfl ?_
          exact ⟨by rw [F.out], by (first | exact (Below.refl w.heap.size w).alloc (Nat.le_refl _) _ | exact ((Below.refl w.heap.size w).alloc (Nat.le_refl _) _).setCell (Nat.le_refl _) _ | exact (((Below.refl w.heap.size w).alloc (Nat.le_refl _) _).setCell (Nat.le_refl _) _).setCell (Nat.le_refl _) _)⟩
      · have q1i : ¬ (1 : Int) < T.size := by omega
        have F := Lib.hid (show v = .tuple #[wrv false 10 T, .bool true] by rw [HV.out, sgv, if_neg, HT.out]; rw [nau_short (by rw [← HTZ.out]; exact q1)]; simp)
        go_enter Tryz.func81, Tryz.ntmps81
        go_wp2_with fail
        refine bodyPost_ret (v := .tuple #[wrv false 10 T, .bool true]) (by simp [results, Tryz.results81, go_sem, *]) rfl ?_
        exact ⟨by rw [F.out], by (first | exact (Below.refl w.heap.size w).alloc (Nat.le_refl _) _ | exact ((Below.refl w.heap.size w).alloc (Nat.le_refl _) _).setCell (Nat.le_refl _) _ | exact (((Below.refl w.heap.size w).alloc (Nat.le_refl _) _).setCell (Nat.le_refl _) _).setCell (Nat.le_refl _) _)⟩
    · have d1 : (y0 == 43) = false := by simp [c1]
      by_cases c2 : y0 = 45
      · have HPP := Lib.hid (show (10, m, r) = (10, true, l.drop 1) by rw [HP.out, if_neg (fun h => c1 h.2), if_pos ⟨i0, c2⟩])
        subst c2
        obtain rfl : r = (l.drop 1) := congrArg (fun q => q.2.2) HPP.out
        obtain rfl : m = true := congrArg (fun q => q.2.1) HPP.out
        obtain ⟨T, hT⟩ : ∃ T, T = s.extract 1 s.size := ⟨_, rfl⟩
        have hTe : s.extract 1 s.size = T := hT.symm
        have HT := Lib.hid (show T = txt (l.drop 1) by rw [hT, HS.out, txt_cut, txt_size, List.take_length])
        have HTZ := Lib.hid (show T.size = (l.drop 1).length by rw [HT.out, txt_size])
        have hz0 := txt_at HT.out (k := 0)
        obtain ⟨z0, HZ0⟩ : ∃ y, Hid (y = bt (l.drop 1) 0) := ⟨_, Lib.hid rfl⟩
        rw [← HZ0.out] at hz0
        clear hT
        by_cases q1 : 1 < T.size
        · have q1i : (1 : Int) < T.size := by omega
          have j0 : 0 < T.size := by omega
          by_cases q2 : z0 = 48
          · have F := Lib.hid (show v = .tuple #[wrv false 0 ⟨#[]⟩, .bool false] by rw [HV.out, sgv, if_pos]; rw [nau_at (by rw [← HTZ.out]; exact q1), ← HZ0.out]; exact decide_eq_true q2)
            subst q2
            go_enter Tryz.func81, Tryz.ntmps81
            go_wp2_with fail
            refine bodyPost_ret (v := .tuple #[wrv false 0 ⟨#[]⟩, .bool false]) (by simp [results, Tryz.results81, go_sem, *]) rfl ?_
            exact ⟨by rw [F.out], by (first | exact (Below.refl w.heap.size w).alloc (Nat.le_refl _) _ | exact ((Below.refl w.heap.size w).alloc (Nat.le_refl _) _).setCell (Nat.le_refl _) _ | exact (((Below.refl w.heap.size w).alloc (Nat.le_refl _) _).setCell (Nat.le_refl _) _).setCell (Nat.le_refl _) _)⟩
          · have q2i : (z0 == 48) = false := by simp [q2]
            have F := Lib.hid (show v = .tuple #[wrv true 10 T, .bool true] by rw [HV.out, sgv, if_neg, HT.out]; rw [nau_at (by rw [← HTZ.out]; exact q1), ← HZ0.out]; simp [q2])
            go_enter Tryz.func81, Tryz.ntmps81
            go_wp2_with fail
            refine bodyPost_ret (v := .tuple #[wrv true 10 T, .bool true]) (by simp [results, Tryz.results81, go_sem, *]) rfl ?_
            exact ⟨by rw [F.out], by (first | exact (Below.refl w.heap.size w).alloc (Nat.le_refl _) _ | exact ((Below.refl w.heap.size w).alloc (Nat.le_refl _) _).setCell (Nat.le_refl _) _ | exact (((Below.refl w.heap.size w).alloc (Nat.le_refl _) _).setCell (Nat.le_refl _) _).setCell (Nat.le_refl _) _)⟩
        · have q1i : ¬ (1 : Int) < T.size := by omega
          have F := Lib.hid (show v = .tuple #[wrv true 10 T, .bool true] by rw [HV.out, sgv, if_neg, HT.out]; rw [nau_short (by rw [← HTZ.out]; exact q1)]; simp)
          go_enter Tryz.func81, Tryz.ntmps81
          go_wp2_with fail
          refine bodyPost_ret (v := .tuple #[wrv true 10 T, .bool true]) (by simp [results, Tryz.results81, go_sem, *]) rfl ?_
          exact ⟨by rw [F.out], by (first | exact (Below.refl w.heap.size w).alloc (Nat.le_refl _) _ | exact ((Below.refl w.heap.size w).alloc (Nat.le_refl _) _).setCell (Nat.le_refl _) _ | exact (((Below.refl w.heap.size w).alloc (Nat.le_refl _) _).setCell (Nat.le_refl _) _).setCell (Nat.le_refl _) _)⟩
      · have d2 : (y0 == 45) = false := by simp [c2]
        have HPP := Lib.hid (show (10, m, r) = (10, false, l) by rw [HP.out, if_neg (fun h => c1 h.2), if_neg (fun h => c2 h.2)])
        obtain rfl : r = l := congrArg (fun q => q.2.2) HPP.out
        obtain rfl : m = false := congrArg (fun q => q.2.1) HPP.out
        have HT := HS
        have HTZ := Lib.hid (show s.size = r.length by rw [HT.out, txt_size])
        have HZ0 := HY0
        by_cases q1 : 1 < s.size
        · have q1i : (1 : Int) < s.size := by omega
          have j0 : 0 < s.size := by omega
          by_cases q2 : y0 = 48
          · have F := Lib.hid (show v = .tuple #[wrv false 0 ⟨#[]⟩, .bool false] by rw [HV.out, sgv, if_pos]; rw [nau_at (by rw [← HTZ.out]; exact q1), ← HZ0.out]; exact decide_eq_true q2)
            subst q2
            go_enter Tryz.func81, Tryz.ntmps81
            go_wp2_with fail
            refine bodyPost_ret (v := .tuple #[wrv false 0 ⟨#[]⟩, .bool false]) (by simp [results, Tryz.results81, go_sem, *]) rfl ?_
            exact ⟨by rw [F.out], by (first | exact (Below.refl w.heap.size w).alloc (Nat.le_refl _) _ | exact ((Below.refl w.heap.size w).alloc (Nat.le_refl _) _).setCell (Nat.le_refl _) _ | exact (((Below.refl w.heap.size w).alloc (Nat.le_refl _) _).setCell (Nat.le_refl _) _).setCell (Nat.le_refl _) _)⟩
          · have q2i : (y0 == 48) = false := by simp [q2]
            have F := Lib.hid (show v = .tuple #[wrv false 10 s, .bool true] by rw [HV.out, sgv, if_neg, HT.out]; rw [nau_at (by rw [← HTZ.out]; exact q1), ← HZ0.out]; simp [q2])
            go_enter Tryz.func81, Tryz.ntmps81
            go_wp2_with fail
            refine bodyPost_ret (v := .tuple #[wrv false 10 s, .bool true]) (by simp [results, Tryz.results81, go_sem, *]) rfl ?_
            exact ⟨by rw [F.out], by (first | exact (Below.refl w.heap.size w).alloc (Nat.le_refl _) _ | exact ((Below.refl w.heap.size w).alloc (Nat.le_refl _) _).setCell (Nat.le_refl _) _ | exact (((Below.refl w.heap.size w).alloc (Nat.le_refl _) _).setCell (Nat.le_refl _) _).setCell (Nat.le_refl _) _)⟩
        · have q1i : ¬ (1 : Int) < s.size := by omega
          have F := Lib.hid (show v = .tuple #[wrv false 10 s, .bool true] by rw [HV.out, sgv, if_neg, HT.out]; rw [nau_short (by rw [← HTZ.out]; exact q1)]; simp)
          go_enter Tryz.func81, Tryz.ntmps81
          go_wp2_with fail
          refine bodyPost_ret (v := .tuple #[wrv false 10 s, .bool true]) (by simp [results, Tryz.results81, go_sem, *]) rfl ?_
          exact ⟨by rw [F.out], by (first | exact (Below.refl w.heap.size w).alloc (Nat.le_refl _) _ | exact ((Below.refl w.heap.size w).alloc (Nat.le_refl _) _).setCell (Nat.le_refl _) _ | exact (((Below.refl w.heap.size w).alloc (Nat.le_refl _) _).setCell (Nat.le_refl _) _).setCell (Nat.le_refl _) _)⟩
  · have hem : (s.toList == []) = true := by rw [HSE.out]; exact decide_eq_true (List.eq_nil_of_length_eq_zero (by rw [← HZ.out]; omega))
    have hem2 : s.toList.isEmpty = true := by simpa using hem
    have HPP := Lib.hid (show (10, m, r) = (10, false, l) by rw [HP.out, if_neg (fun h => i0 h.1), if_neg (fun h => i0 h.1)])
    obtain rfl : r = l := congrArg (fun q => q.2.2) HPP.out
    obtain rfl : m = false := congrArg (fun q => q.2.1) HPP.out
    have HT := HS
    have HTZ := Lib.hid (show s.size = r.length by rw [HT.out, txt_size])
    have HZ0 := HY0
    have q1 : ¬ 1 < s.size := by omega
    have q1i : ¬ (1 : Int) < s.size := by omega
    have F := Lib.hid (show v = .tuple #[wrv false 10 s, .bool true] by rw [HV.out, sgv, if_neg, HT.out]; rw [nau_short (by rw [← HTZ.out]; exact q1)]; simp)
    go_enter Tryz.func81, Tryz.ntmps81
    go_wp2_with fail
    refine bodyPost_ret (v := .tuple #[wrv false 10 s, .bool true]) (by simp [results, Tryz.results81, go_sem, *]) rfl ?_
    exact ⟨by rw [F.out], by (first | exact (Below.refl w.heap.size w).alloc (Nat.le_refl _) _ | exact ((Below.refl w.heap.size w).alloc (Nat.le_refl _) _).setCell (Nat.le_refl _) _ | exact (((Below.refl w.heap.size w).alloc (Nat.le_refl _) _).setCell (Nat.le_refl _) _).setCell (Nat.le_refl _) _)⟩
end Go.Proofs.YthjlnafmpcppfaaGreatDoor.II
/- What landed: a text's parts. -/
namespace Go.Proofs.YthjlnafmpcppfaaGreatDoor.II
open Go.RowKit

/-- The parts lie in W's next block; nothing that W had has turned. -/
def PW (W w : World) (m : Bool) (b : Int) (s : ByteArray) : Prop := Below W.heap.size W w ∧ w.heap[W.heap.size]? = some (wrt m b s)
section
variable {W w w' : World} {m m' : Bool} {b b' : Int} {s s' : ByteArray}
theorem PW.start : PW W (W.alloc (wrt m b s)) m b s := ⟨(Below.refl _ _).alloc (Nat.le_refl _) _, by show (W.heap.push _)[W.heap.size]? = _; simp⟩
theorem PW.below (h : PW W w m b s) (hb : Below w.heap.size w w') : PW W w' m b s := ⟨below_tr h.1 hb, by rw [hb.block _ (lt_of_block h.2)]; exact h.2⟩
theorem PW.cells (h : PW W w m b s) : w.cell? ⟨W.heap.size, 0, none⟩ = some (.bool m) ∧ w.cell? ⟨W.heap.size, 1, none⟩ = some (.int .i64 b) ∧ w.cell? ⟨W.heap.size, 2, none⟩ = some (.string s) ∧ w.frozen? ⟨W.heap.size, 0, none⟩ = false ∧ w.frozen? ⟨W.heap.size, 1, none⟩ = false ∧ w.frozen? ⟨W.heap.size, 2, none⟩ = false := by
  obtain ⟨_, h⟩ := h
  simp [World.cell?, World.frozen?, h]
theorem PW.set (h : PW W w m b s) : PW W (((w.setCell ⟨W.heap.size, 0, none⟩ (.bool m')).setCell ⟨W.heap.size, 1, none⟩ (.int .i64 b')).setCell ⟨W.heap.size, 2, none⟩ (.string s')) m' b' s' := by
  refine ⟨((h.1.setCell (Nat.le_refl _) _).setCell (Nat.le_refl _) _).setCell (Nat.le_refl _) _, ?_⟩
  have h1 := heap_setCell_same w W.heap.size 0 _ _ (.bool m') h.2
  have h2 := heap_setCell_same _ W.heap.size 1 _ _ (.int .i64 b') h1
  have h3 := heap_setCell_same _ W.heap.size 2 _ _ (.string s') h2
  rw [h3]; rfl
end
/-- What a text's parts are told as. -/
def spv (l : List UInt8) : Value := if In.good (In.pre l).1 (In.pre l).2.2 = true then .tuple #[wrv (In.pre l).2.1 (In.pre l).1 (txt (In.pre l).2.2), .bool true] else .tuple #[wrv false 0 ⟨#[]⟩, .bool false]
theorem spv_on {l : List UInt8} {b : Nat} {m : Bool} {r : List UInt8} (h : In.pre l = (b, m, r)) (hg : In.good b r = true) : spv l = .tuple #[wrv m b (txt r), .bool true] := by
  rw [spv, h, if_pos hg]
theorem spv_off {l : List UInt8} {b : Nat} {m : Bool} {r : List UInt8} (h : In.pre l = (b, m, r)) (hg : In.good b r = false) : spv l = .tuple #[wrv false 0 ⟨#[]⟩, .bool false] := by
  rw [spv, h, if_neg (by rw [hg]; simp)]
theorem pbs_le (l : List UInt8) : 2 ≤ pbs l ∧ pbs l ≤ 16 ∧ pbs l ≠ 10 := by unfold pbs; split <;> (try split) <;> omega
theorem sgn_pre {l : List UInt8} (h : rdx l = false) : ∃ m r, In.pre l = (10, m, r) ∧ r.length ≤ l.length := by
  rw [pre_sgn h]
  split
  · exact ⟨_, _, rfl, by simp⟩
  · split
    · exact ⟨_, _, rfl, by simp⟩
    · exact ⟨_, _, rfl, Nat.le_refl _⟩
theorem good_rdx {b : Nat} {r : List UInt8} (h : b ≠ 10) : In.good b r = In.spc b false r := by simp [In.good, h]
theorem good_sgn (r : List UInt8) : In.good 10 r = (!nau r && In.spc 10 false r) := by simp [In.good, nau]
set_option maxHeartbeats 4000000 in
set_option maxRecDepth 100000 in
theorem psplit_is {l : List UInt8} {s : ByteArray} {v : Value} (w : World) (hs : s = txt l) (hl : l.length ≤ 100000) (hT : Rads w) (hv : v = spv l) :
    Calls Tryz.prog 58 #[.string s] w fun e w' => e = .returned v ∧ Below w.heap.size w w' := by
  have HV := Lib.hid hv
  have HT := Lib.hid hT
  have H1 := Lib.hid (fun w h => pprefixed_is w hs hl h (rfl : pxv l = _))
  cases hr : rdx l
  · obtain ⟨m, r, hp, hrl⟩ := sgn_pre hr
    have hpx : pxv l = .tuple #[wrv false 0 ⟨#[]⟩, .bool false] := by rw [pxv, if_neg (by rw [hr]; simp)]
    rw [hpx] at H1
    have H2 := Lib.hid (fun w => psigned_is w hs hl hr hp (rfl : sgv m r = _))
    have HP := Lib.hid hp
    cases hn : nau r
    · have hsg : sgv m r = .tuple #[wrv m 10 (txt r), .bool true] := by rw [sgv, if_neg (by rw [hn]; simp)]
      rw [hsg] at H2
      obtain ⟨T, hTT⟩ : ∃ T, T = txt r := ⟨_, rfl⟩
      rw [← hTT] at H2
      obtain ⟨x, hx⟩ : ∃ x, x = In.spc 10 false r := ⟨_, rfl⟩
      have H3 := Lib.hid (fun w => pspaced_is (m := m) w hTT (by omega) (by omega : 10 ≤ 16) hx)
      have HG := Lib.hid (show In.good 10 r = x by rw [good_sgn, hn, hx]; rfl)
      have HTT := Lib.hid hTT
      clear hs hl hT hv hp hrl hpx hsg hTT hx hn hr
      go_enter Tryz.func58, Tryz.ntmps58
      go_wp2_with fail
      refine (H1.out _ (HT.out.below ((Below.refl _ _).alloc (Nat.le_refl _) _))).mono ?_
      rintro e w1 ⟨rfl, hb⟩
      have P1 := Lib.hid (PW.start.below hb)
      obtain ⟨c0, c1, c2, f0, f1, f2⟩ := P1.out.cells
      clear hb
      go_wp2_with fail
      refine (H2.out _).mono ?_
      rintro e w2 ⟨rfl, hb⟩
      have P2 := Lib.hid (P1.out.set.below hb)
      clear hb c0 c1 c2 f0 f1 f2
      obtain ⟨c0, c1, c2, f0, f1, f2⟩ := P2.out.cells
      have P3 := Lib.hid (P2.out.set (m' := m) (b' := 10) (s' := T))
      obtain ⟨d0, d1, d2, g0, g1, g2⟩ := P3.out.cells
      go_wp2_with fail
      refine (H3.out _).mono ?_
      rintro e w3 ⟨rfl, hb⟩
      have P4 := Lib.hid (P3.out.below hb)
      clear hb c0 c1 c2 f0 f1 f2 d0 d1 d2 g0 g1 g2
      obtain ⟨c0, c1, c2, f0, f1, f2⟩ := P4.out.cells
      cases x
      · have F := Lib.hid (show v = .tuple #[wrv false 0 ⟨#[]⟩, .bool false] by rw [HV.out]; exact spv_off HP.out HG.out)
        go_wp2_with fail
        refine bodyPost_ret (v := .tuple #[wrv false 0 ⟨#[]⟩, .bool false]) (by simp [results, Tryz.results58, go_sem, *]) rfl ?_
        exact ⟨by rw [F.out], P4.out.set.1⟩
      · have F := Lib.hid (show v = .tuple #[wrv m 10 T, .bool true] by rw [HV.out, HTT.out]; exact spv_on HP.out HG.out)
        go_wp2_with fail
        refine bodyPost_ret (v := .tuple #[wrv m 10 T, .bool true]) (by simp [results, Tryz.results58, go_sem, *]) rfl ?_
        exact ⟨by rw [F.out], P4.out.set.1⟩
    · have hsg : sgv m r = .tuple #[wrv false 0 ⟨#[]⟩, .bool false] := by rw [sgv, if_pos hn]
      rw [hsg] at H2
      have F := Lib.hid (show v = .tuple #[wrv false 0 ⟨#[]⟩, .bool false] by rw [HV.out]; exact spv_off HP.out (by rw [good_sgn, hn]; rfl))
      clear hs hl hT hv hp hrl hpx hsg hn hr
      go_enter Tryz.func58, Tryz.ntmps58
      go_wp2_with fail
      refine (H1.out _ (HT.out.below ((Below.refl _ _).alloc (Nat.le_refl _) _))).mono ?_
      rintro e w1 ⟨rfl, hb⟩
      have P1 := Lib.hid (PW.start.below hb)
      obtain ⟨c0, c1, c2, f0, f1, f2⟩ := P1.out.cells
      clear hb
      go_wp2_with fail
      refine (H2.out _).mono ?_
      rintro e w2 ⟨rfl, hb⟩
      have P2 := Lib.hid (P1.out.set.below hb)
      clear hb c0 c1 c2 f0 f1 f2
      obtain ⟨c0, c1, c2, f0, f1, f2⟩ := P2.out.cells
      have P3 := Lib.hid (P2.out.set (m' := false) (b' := 0) (s' := ⟨#[]⟩))
      obtain ⟨d0, d1, d2, g0, g1, g2⟩ := P3.out.cells
      go_wp2_with fail
      refine bodyPost_ret (v := .tuple #[wrv false 0 ⟨#[]⟩, .bool false]) (by simp [results, Tryz.results58, go_sem, *]) rfl ?_
      exact ⟨by rw [F.out], P3.out.set.1⟩
  · have hp : In.pre l = (pbs l, false, l.drop 2) := pre_rdx hr
    have hpx : pxv l = .tuple #[wrv false (pbs l) (txt (l.drop 2)), .bool true] := by rw [pxv, if_pos hr]
    rw [hpx] at H1
    obtain ⟨hb2, hb16, hb10⟩ := pbs_le l
    obtain ⟨r, hr2⟩ : ∃ r, r = l.drop 2 := ⟨_, rfl⟩
    have hrl : r.length ≤ l.length := by rw [hr2]; simp
    obtain ⟨b, hbb⟩ : ∃ b, b = pbs l := ⟨_, rfl⟩
    obtain ⟨T, hTT⟩ : ∃ T, T = txt r := ⟨_, rfl⟩
    rw [← hr2, ← hTT, ← hbb] at H1
    rw [← hr2, ← hbb] at hp
    rw [← hbb] at hb2 hb16 hb10
    obtain ⟨x, hx⟩ : ∃ x, x = In.spc b false r := ⟨_, rfl⟩
    have H3 := Lib.hid (fun w => pspaced_is (m := false) w hTT (by omega) hb16 hx)
    have HG := Lib.hid (show In.good b r = x by rw [good_rdx hb10, hx])
    have HTT := Lib.hid hTT
    have HP := Lib.hid hp
    clear hs hl hT hv hp hrl hpx hTT hx hr hr2 hbb hb2 hb16 hb10
    go_enter Tryz.func58, Tryz.ntmps58
    go_wp2_with fail
    refine (H1.out _ (HT.out.below ((Below.refl _ _).alloc (Nat.le_refl _) _))).mono ?_
    rintro e w1 ⟨rfl, hb⟩
    have P1 := Lib.hid (PW.start.below hb)
    obtain ⟨c0, c1, c2, f0, f1, f2⟩ := P1.out.cells
    clear hb
    have P3 := Lib.hid (P1.out.set (m' := false) (b' := b) (s' := T))
    obtain ⟨d0, d1, d2, g0, g1, g2⟩ := P3.out.cells
    go_wp2_with fail
    refine (H3.out _).mono ?_
    rintro e w3 ⟨rfl, hb⟩
    have P4 := Lib.hid (P3.out.below hb)
    clear hb c0 c1 c2 f0 f1 f2 d0 d1 d2 g0 g1 g2
    obtain ⟨c0, c1, c2, f0, f1, f2⟩ := P4.out.cells
    cases x
    · have F := Lib.hid (show v = .tuple #[wrv false 0 ⟨#[]⟩, .bool false] by rw [HV.out]; exact spv_off HP.out HG.out)
      go_wp2_with fail
      refine bodyPost_ret (v := .tuple #[wrv false 0 ⟨#[]⟩, .bool false]) (by simp [results, Tryz.results58, go_sem, *]) rfl ?_
      exact ⟨by rw [F.out], P4.out.set.1⟩
    · have F := Lib.hid (show v = .tuple #[wrv false b T, .bool true] by rw [HV.out, HTT.out]; exact spv_on HP.out HG.out)
      go_wp2_with fail
      refine bodyPost_ret (v := .tuple #[wrv false b T, .bool true]) (by simp [results, Tryz.results58, go_sem, *]) rfl ?_
      exact ⟨by rw [F.out], P4.out.set.1⟩
end Go.Proofs.YthjlnafmpcppfaaGreatDoor.II
