/- TOML's integers: low marks, noughts, other signs behind and ahead; the edge of 64 bits; the order (lists alone). -/
import Derived.Test.YtonfaphllpjmpaaDoorInM
namespace Go.Proofs.YtonfaphllpjmpaaDoor

namespace In
/-- Is a byte a digit of a base? -/
def isD (b : Nat) (c : UInt8) : Bool := decide (dg c < b) && c != 95
theorem isD_ch {b d : Nat} (hd : d < b) (hb : b ≤ 16) : isD b (ch d) = true := by
  rw [isD, dg_ch (by omega)]; simp [hd, ch_ne (show d < 16 by omega)]
theorem isD_dN {b : Nat} (hb : 2 ≤ b) (hb2 : b ≤ 16) : ∀ n, (dN b n).all (isD b) = true := fun n => by
  induction n using Nat.strongRecOn with
  | _ n ih =>
    by_cases h : b ≤ n
    · have hd : n / b < n := Nat.div_lt_self (by omega) (by omega)
      rw [dN_ge hb h, List.all_append, ih _ hd]
      simp [isD_ch (Nat.mod_lt n (show 0 < b by omega)) hb2]
    · rw [dN_lt (by omega)]; simp [isD_ch (show n < b by omega) hb2]
theorem vl_dig {b : Nat} {c : UInt8} (h : isD b c = true) (p : Bool) (n : Nat) (r : List UInt8) : vl b p n (c :: r) = vl b true (n * b + dg c) r := by
  simp only [isD, Bool.and_eq_true, decide_eq_true_eq, bne_iff_ne, ne_eq] at h
  rw [vl, if_neg h.2, if_pos h.1]
theorem vl_mark {b : Nat} {n : Nat} {r : List UInt8} (h : r ≠ []) : vl b true n (95 :: r) = vl b false n r := by
  rw [vl, if_pos rfl, if_pos ⟨rfl, h⟩]
/-- Low marks behind some digits, not behind the last. -/
def mkL (f : Nat → Bool) : Nat → List UInt8 → List UInt8
  | _, [] => []
  | _, [c] => [c]
  | i, c :: d :: r => c :: (if f i = true then 95 :: mkL f (i + 1) (d :: r) else mkL f (i + 1) (d :: r))
theorem mkL_ne (f : Nat → Bool) (i : Nat) {l : List UInt8} (h : l ≠ []) : mkL f i l ≠ [] := by
  match l, h with
  | [c], _ => simp [mkL]
  | c :: d :: r, _ => simp [mkL]
theorem vl_p {b : Nat} (p q : Bool) (n : Nat) {l : List UInt8} (h : ∀ c r, l = c :: r → isD b c = true) : vl b p n l = vl b q n l := by
  match l with
  | [] => rw [vl_nil, vl_nil]
  | c :: r => rw [vl_dig (h c r rfl), vl_dig (h c r rfl)]
theorem mkL_head {f : Nat → Bool} {i : Nat} {b : Nat} {l : List UInt8} (h : l.all (isD b) = true) : ∀ c r, mkL f i l = c :: r → isD b c = true := by
  intro c r e
  match l, h, e with
  | [x], h, e =>
    simp only [mkL, List.cons.injEq] at e
    rw [← e.1]; simpa using h
  | x :: y :: z, h, e =>
    simp only [mkL, List.cons.injEq] at e
    rw [← e.1]
    simp only [List.all_cons, Bool.and_eq_true] at h
    exact h.1
/-- Low marks make no difference. -/
theorem vl_mkL {b : Nat} (f : Nat → Bool) : ∀ (l : List UInt8) (i : Nat) (p : Bool) (n : Nat) (u : List UInt8), l.all (isD b) = true → vl b p n (mkL f i l ++ u) = vl b p n (l ++ u)
  | [], i, p, n, u, _ => rfl
  | [c], i, p, n, u, _ => rfl
  | c :: d :: r, i, p, n, u, h => by
    have hc : isD b c = true := by simp only [List.all_cons, Bool.and_eq_true] at h; exact h.1
    have hr : (d :: r).all (isD b) = true := by rw [List.all_cons, Bool.and_eq_true] at h; exact h.2
    have ih := fun p n => vl_mkL f (d :: r) (i + 1) p n u hr
    rw [mkL, List.cons_append, vl_dig hc, List.cons_append, vl_dig hc]
    split
    · have hne : mkL f (i + 1) (d :: r) ++ u ≠ [] := by
        have := mkL_ne f (i + 1) (l := d :: r) (by simp)
        simp [this]
      rw [List.cons_append, vl_mark hne, ih, vl_p false true]
      intro c' r' e
      rw [List.cons_append, List.cons.injEq] at e
      rw [← e.1]
      simp only [List.all_cons, Bool.and_eq_true] at hr
      exact hr.1
    · exact ih _ _
/-- What is no digit, or a low mark at the end, behind: none. -/
theorem vl_off {b : Nat} {c : UInt8} (h1 : c ≠ 95) (h2 : ¬ dg c < b) (u : List UInt8) : ∀ (l : List UInt8) (p : Bool) (n : Nat), vl b p n (l ++ c :: u) = none
  | [], p, n => by rw [List.nil_append, vl, if_neg h1, if_neg h2]
  | d :: r, p, n => by
    rw [List.cons_append, vl]
    repeat' split
    · exact vl_off h1 h2 u r _ _
    · rfl
    · exact vl_off h1 h2 u r _ _
    · rfl
theorem vl_end (b : Nat) : ∀ (l : List UInt8) (p : Bool) (n : Nat), vl b p n (l ++ [95]) = none
  | [], p, n => by rw [List.nil_append, vl, if_pos rfl, if_neg (by simp)]
  | d :: r, p, n => by
    rw [List.cons_append, vl]
    repeat' split
    · exact vl_end b r _ _
    · rfl
    · exact vl_end b r _ _
    · rfl
theorem vl_two (b : Nat) (u : List UInt8) : ∀ (l : List UInt8) (p : Bool) (n : Nat), vl b p n (l ++ 95 :: 95 :: u) = none
  | [], p, n => by
    rw [List.nil_append, vl, if_pos rfl]
    split
    · rw [vl, if_pos rfl, if_neg (by simp)]
    · rfl
  | d :: r, p, n => by
    rw [List.cons_append, vl]
    repeat' split
    · exact vl_two b u r _ _
    · rfl
    · exact vl_two b u r _ _
    · rfl
/-- Signs behind that begin with none of the radixes' letters. -/
theorem pre_app {l u : List UInt8} {c : UInt8} (hl : l ≠ []) (h1 : c ≠ 120) (h2 : c ≠ 111) (h3 : c ≠ 98) : pre (l ++ c :: u) = ((pre l).1, (pre l).2.1, (pre l).2.2 ++ c :: u) := by
  match l, hl with
  | [a], _ =>
    by_cases a0 : a = 48
    · subst a0
      show pre (48 :: c :: u) = _
      unfold pre
      split
      · rename_i h; injection h with _ h; injection h with h _; exact absurd h h1
      · rename_i h; injection h with _ h; injection h with h _; exact absurd h h2
      · rename_i h; injection h with _ h; injection h with h _; exact absurd h h3
      · rename_i h; injection h with h _; exact absurd h (by decide)
      · rename_i h; injection h with h _; exact absurd h (by decide)
      · rfl
    · by_cases a1 : a = 43
      · subst a1; rfl
      · by_cases a2 : a = 45
        · subst a2; rfl
        · have e : ∀ r : List UInt8, pre (a :: r) = (10, false, a :: r) := fun r => by
            unfold pre
            split
            · rename_i h; injection h with h _; exact absurd h a0
            · rename_i h; injection h with h _; exact absurd h a0
            · rename_i h; injection h with h _; exact absurd h a0
            · rename_i h; injection h with h _; exact absurd h a1
            · rename_i h; injection h with h _; exact absurd h a2
            · rfl
          show pre (a :: c :: u) = _
          rw [e, e]; rfl
  | a :: d :: r, _ =>
    by_cases a0 : a = 48
    · subst a0
      by_cases d1 : d = 120
      · subst d1; rfl
      · by_cases d2 : d = 111
        · subst d2; rfl
        · by_cases d3 : d = 98
          · subst d3; rfl
          · have e : ∀ x : List UInt8, pre (48 :: d :: x) = (10, false, 48 :: d :: x) := fun x => by
              unfold pre
              split
              · rename_i h; injection h with _ h; injection h with h _; exact absurd h d1
              · rename_i h; injection h with _ h; injection h with h _; exact absurd h d2
              · rename_i h; injection h with _ h; injection h with h _; exact absurd h d3
              · rename_i h; injection h with h _; exact absurd h (by decide)
              · rename_i h; injection h with h _; exact absurd h (by decide)
              · rfl
            show pre (48 :: d :: (r ++ c :: u)) = _
            rw [e, e]; rfl
    · by_cases a1 : a = 43
      · subst a1; rfl
      · by_cases a2 : a = 45
        · subst a2; rfl
        · have e : ∀ r : List UInt8, pre (a :: r) = (10, false, a :: r) := fun r => by
            unfold pre
            split
            · rename_i h; injection h with h _; exact absurd h a0
            · rename_i h; injection h with h _; exact absurd h a0
            · rename_i h; injection h with h _; exact absurd h a0
            · rename_i h; injection h with h _; exact absurd h a1
            · rename_i h; injection h with h _; exact absurd h a2
            · rfl
          show pre (a :: (d :: r ++ c :: u)) = _
          rw [e, e]; rfl
theorem body_none {b : Nat} {m : Bool} {r : List UInt8} (h : vl b false 0 r = none) : body b m r = .syn := by
  unfold body
  split
  · rfl
  · rw [h]; rfl
/-- With a low mark at the end, two, a blank or a point behind: none. -/
theorem rd_tail {l : List UInt8} (hl : l ≠ []) : rd (l ++ [95]) = .syn ∧ rd (l ++ [95, 95, 49]) = .syn ∧ rd (l ++ [32]) = .syn ∧ rd (l ++ [46]) = .syn := by
  have h16 : ∀ l : List UInt8, (pre l).1 ≤ 16 := by
    intro l; unfold pre; split <;> simp
  refine ⟨?_, ?_, ?_, ?_⟩
  · rw [rd, pre_app hl (by decide) (by decide) (by decide)]; exact body_none (vl_end _ _ _ _)
  · rw [rd, pre_app hl (by decide) (by decide) (by decide)]; exact body_none (vl_two _ _ _ _ _)
  · rw [rd, pre_app hl (by decide) (by decide) (by decide)]; exact body_none (vl_off (by decide) (by have := h16 l; show ¬ 99 < _; omega) _ _ _ _)
  · rw [rd, pre_app hl (by decide) (by decide) (by decide)]; exact body_none (vl_off (by decide) (by have := h16 l; show ¬ 99 < _; omega) _ _ _ _)
theorem rd_under (l : List UInt8) : rd (95 :: l) = .syn := by
  have e : pre (95 :: l) = (10, false, 95 :: l) := rfl
  rw [rd, e]
  exact body_none (by rw [vl, if_pos rfl, if_neg (by simp)])
/-- Noughts behind. -/
theorem vl_zeros {b : Nat} (hb : 0 < b) : ∀ (k n : Nat), vl b true n (List.replicate k 48) = some (n * b ^ k)
  | 0, n => by rw [List.replicate_zero, vl_nil]; simp
  | k + 1, n => by
    rw [List.replicate_succ, vl_dig (by simp [isD, dg]; exact hb)]
    have := vl_zeros hb k (n * b)
    rw [show n * b + dg 48 = n * b by simp [dg], this, Nat.pow_succ, Nat.mul_assoc, Nat.mul_comm b]
theorem vl_zeros_p {b : Nat} (hb : 0 < b) (u : List UInt8) (hu : ∀ c r, u = c :: r → isD b c = true) : ∀ (k : Nat) (p : Bool), vl b p 0 (List.replicate k 48 ++ u) = vl b true 0 u
  | 0, p => by rw [List.replicate_zero, List.nil_append]; exact vl_p _ _ _ hu
  | k + 1, p => by
    rw [List.replicate_succ, List.cons_append, vl_dig (by simp [isD, dg]; exact hb)]
    rw [show 0 * b + dg 48 = 0 by simp [dg]]
    exact vl_zeros_p hb u hu k true
theorem vl_dN_zeros {b : Nat} (hb : 2 ≤ b) (hb2 : b ≤ 16) (n k : Nat) (p : Bool) : vl b p 0 (dN b n ++ List.replicate k 48) = some (n * b ^ k) := by
  rw [vl_dN hb hb2, vl_zeros (by omega)]
/-- The same digits in capitals. -/
def up (c : UInt8) : UInt8 := if 97 ≤ c.toNat ∧ c.toNat ≤ 122 then c - 32 else c
theorem dg_up {d : Nat} (h : d < 16) : dg (up (ch d)) = d ∧ up (ch d) ≠ 95 := by
  have : (List.range 16).all (fun d => dg (up (ch d)) == d && up (ch d) != 95) = true := by decide +kernel
  simpa using (List.all_eq_true.1 this) d (List.mem_range.2 h)
theorem vl_up {b : Nat} (hb : 2 ≤ b) (hb2 : b ≤ 16) : ∀ (n : Nat) (p : Bool) (r : List UInt8), vl b p 0 ((dN b n).map up ++ r) = vl b true n r := fun n => by
  induction n using Nat.strongRecOn with
  | _ n ih =>
    intro p r
    have key : ∀ (d : Nat) (hd : d < b) (p : Bool) (m : Nat) (r : List UInt8), vl b p m (up (ch d) :: r) = vl b true (m * b + d) r := fun d hd p m r => by
      have := dg_up (d := d) (by omega)
      rw [vl_dig (by simp [isD, this.1, hd, this.2]), this.1]
    by_cases h : b ≤ n
    · have hd : n / b < n := Nat.div_lt_self (by omega) (by omega)
      rw [dN_ge hb h, List.map_append, List.append_assoc, ih (n / b) hd, List.map_singleton, List.singleton_append, key _ (Nat.mod_lt _ (by omega)), Nat.mul_comm, Nat.div_add_mod]
    · rw [dN_lt (by omega), List.map_singleton, List.singleton_append, key _ (by omega)]; simp
/-- Digits of the radixes. -/
theorem rd_x (r : List UInt8) : rd (48 :: 120 :: r) = body 16 false r := rfl
theorem rd_o (r : List UInt8) : rd (48 :: 111 :: r) = body 8 false r := rfl
theorem rd_b (r : List UInt8) : rd (48 :: 98 :: r) = body 2 false r := rfl
theorem body_of {b : Nat} {m : Bool} {r : List UInt8} {n : Nat} (hb : b ≠ 10) (hr : r ≠ []) (h : vl b false 0 r = some n) : body b m r = fin m (some n) := by
  rw [body, if_neg (by rintro (h | ⟨h, _⟩); exact hr h; exact hb h), h]
/-- Not normal: a sign ahead, a radix, noughts behind beyond 64 bits, nothing. -/
theorem nor_plus (v : Int) : nor (43 :: nfI v) = false := by
  rw [nor, decide_eq_false_iff_not]
  intro h
  obtain ⟨w, _, e⟩ := rd_ok h
  unfold nfI at e
  have hd : ∀ n r, dN 10 n ≠ 43 :: r := by
    intro n r e
    by_cases h0 : n = 0
    · rw [h0, dN_zero (by omega)] at e; cases e
    · obtain ⟨d, r', e', h1, h2⟩ := dN_head (b := 10) (by omega) (by omega) h0
      rw [e'] at e
      injection e with e _
      exact (ch_signs (d := d) (by omega)).1 e
  by_cases hw : w < 0
  · rw [if_pos hw] at e; cases e
  · rw [if_neg hw] at e; exact hd _ _ e.symm
theorem nor_nil : nor [] = false := by decide +kernel
theorem nor_0x1 : nor [48, 120, 49] = false := by decide +kernel
theorem body10_zeros {m : Bool} {n k : Nat} (hn : n ≠ 0) : body 10 m (dN 10 n ++ List.replicate k 48) = fin m (some (n * 10 ^ k)) := by
  obtain ⟨d, r, e, h1, h2⟩ := dN_head (b := 10) (by omega) (by omega) hn
  have hv := vl_dN_zeros (b := 10) (by omega) (by omega) n k false
  rw [body, if_neg, hv]
  rintro (h | ⟨_, _, h⟩)
  · rw [e] at h; cases h
  · rw [e] at h; simp at h; exact ch_48 (d := d) (by omega) h1 h
theorem pre_dN_app (n : Nat) (u : List UInt8) (hn : n ≠ 0) : pre (dN 10 n ++ u) = (10, false, dN 10 n ++ u) := by
  obtain ⟨d, r, e, h1, h2⟩ := dN_head (b := 10) (by omega) (by omega) hn
  rw [e, List.cons_append]
  have n0 := ch_48 (d := d) (by omega) h1
  obtain ⟨n1, n2⟩ := ch_signs (d := d) (by omega)
  unfold pre
  split
  · rename_i h; injection h with h _; exact absurd h n0
  · rename_i h; injection h with h _; exact absurd h n0
  · rename_i h; injection h with h _; exact absurd h n0
  · rename_i h; injection h with h _; exact absurd h n1
  · rename_i h; injection h with h _; exact absurd h n2
  · rfl
theorem big_mul {n k : Nat} (h : 9223372036854775808 ≤ n) : 9223372036854775808 ≤ n * 10 ^ k := Nat.le_trans h (Nat.le_mul_of_pos_right _ (Nat.pow_pos (by omega)))
theorem nor_zeros (v : Int) : nor (nfI v ++ List.replicate 22 48) = false := by
  rw [nor, decide_eq_false_iff_not]
  intro h
  have hbig : ∀ n : Nat, n ≠ 0 → 9223372036854775808 < n * 10 ^ 22 := fun n hn => by
    have : 1 * 10 ^ 22 ≤ n * 10 ^ 22 := Nat.mul_le_mul_right _ (by omega)
    omega
  unfold nfI at h
  by_cases hv : v < 0
  · rw [if_pos hv, List.cons_append, rd, pre_minus] at h
    have h0 : (-v).toNat ≠ 0 := by omega
    rw [body10_zeros h0, fin_big (by have := hbig _ h0; simp [lim]; omega)] at h
    cases h
  · rw [if_neg hv] at h
    by_cases h0 : v.toNat = 0
    · rw [h0, dN_zero (by omega)] at h
      exact absurd h (by decide +kernel)
    · rw [rd, pre_dN_app _ _ h0, body10_zeros h0, fin_big (by have := hbig _ h0; simp [lim]; omega)] at h
      cases h
end In
end Go.Proofs.YtonfaphllpjmpaaDoor
