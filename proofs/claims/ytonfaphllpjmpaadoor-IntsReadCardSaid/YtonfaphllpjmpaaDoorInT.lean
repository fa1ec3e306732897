/- The document's multiplying of a text's number, digit by digit (lists alone). -/
import Derived.Test.YtonfaphllpjmpaaDoorInL
namespace Go.Proofs.YtonfaphllpjmpaaDoor

namespace In
/-- A decimal digit's value. -/
def d10 (c : UInt8) : Nat := c.toNat - 48
def dv : List UInt8 → Nat
  | [] => 0
  | c :: r => d10 c * 10 ^ r.length + dv r
theorem dv_app (a b : List UInt8) : dv (a ++ b) = dv a * 10 ^ b.length + dv b := by
  induction a with
  | nil => simp [dv]
  | cons c a ih => simp only [List.cons_append, dv, ih, List.length_append]; rw [Nat.pow_add, ← Nat.mul_assoc, Nat.add_mul]; omega
/-- The digits from right to left: what is put, and what is carried. -/
def tm (b d : Nat) : List UInt8 → List UInt8 × Nat
  | [] => ([], d)
  | c :: r => (UInt8.ofNat (48 + ((tm b d r).2 + b * d10 c) % 10) :: (tm b d r).1, ((tm b d r).2 + b * d10 c) / 10)
theorem tm_len (b d : Nat) (l : List UInt8) : (tm b d l).1.length = l.length := by
  induction l with
  | nil => rfl
  | cons c r ih => simp [tm, ih]
theorem d10_of {e : Nat} (h : e < 10) : d10 (UInt8.ofNat (48 + e)) = e := by
  unfold d10; rw [UInt8.toNat_ofNat_of_lt' (by simp [UInt8.size]; omega)]; omega
theorem tm_dv (b d : Nat) (l : List UInt8) : dv (tm b d l).1 + (tm b d l).2 * 10 ^ l.length = b * dv l + d := by
  induction l with
  | nil => simp [tm, dv]
  | cons c r ih =>
    simp only [tm, dv, tm_len, List.length_cons]
    rw [d10_of (Nat.mod_lt _ (by omega))]
    generalize (tm b d r).2 = k at *
    generalize dv (tm b d r).1 = v at *
    generalize hP : 10 ^ r.length = P at *
    have h1 := Nat.div_add_mod (k + b * d10 c) 10
    rw [Nat.pow_succ, hP]
    generalize (k + b * d10 c) % 10 = x at *
    generalize (k + b * d10 c) / 10 = y at *
    have h2 : (10 * y + x) * P = (k + b * d10 c) * P := by rw [h1]
    rw [Nat.add_mul, Nat.add_mul] at h2
    have h3 : b * (d10 c * P + dv r) = b * d10 c * P + b * dv r := by rw [Nat.mul_add, Nat.mul_assoc]
    have h4 : y * (P * 10) = 10 * y * P := by rw [Nat.mul_comm P 10, ← Nat.mul_assoc, Nat.mul_comm y 10]
    rw [h3, h4]; omega
/-- Decimal digits alone. -/
def dec (l : List UInt8) : Prop := ∀ c ∈ l, 48 ≤ c.toNat ∧ c.toNat ≤ 57
theorem dec_nil : dec [] := fun _ h => by cases h
theorem dec_cons {c : UInt8} {r : List UInt8} : dec (c :: r) ↔ (48 ≤ c.toNat ∧ c.toNat ≤ 57) ∧ dec r := by
  constructor
  · intro h; exact ⟨h c List.mem_cons_self, fun d hd => h d (List.mem_cons_of_mem _ hd)⟩
  · rintro ⟨h1, h2⟩ d hd
    rcases List.mem_cons.1 hd with rfl | h
    · exact h1
    · exact h2 d h
theorem dec_app {a b : List UInt8} : dec (a ++ b) ↔ dec a ∧ dec b := by
  unfold dec
  constructor
  · intro h; exact ⟨fun c hc => h c (by simp [hc]), fun c hc => h c (by simp [hc])⟩
  · rintro ⟨h1, h2⟩ c hc
    rcases List.mem_append.1 hc with h | h
    · exact h1 c h
    · exact h2 c h
theorem dec_of {e : Nat} (h : e < 10) : 48 ≤ (UInt8.ofNat (48 + e)).toNat ∧ (UInt8.ofNat (48 + e)).toNat ≤ 57 := by
  rw [UInt8.toNat_ofNat_of_lt' (by simp [UInt8.size]; omega)]; omega
theorem dec_tm (b d : Nat) (l : List UInt8) : dec (tm b d l).1 := by
  induction l with
  | nil => exact dec_nil
  | cons c r ih => exact dec_cons.2 ⟨dec_of (Nat.mod_lt _ (by omega)), ih⟩
theorem ch_ten {d : Nat} (h : d < 10) : ch d = UInt8.ofNat (48 + d) := by rw [ch, if_pos h]
theorem dec_dN : ∀ n, dec (dN 10 n) := fun n => by
  induction n using Nat.strongRecOn with
  | _ n ih =>
    by_cases h : 10 ≤ n
    · have hd : n / 10 < n := Nat.div_lt_self (by omega) (by omega)
      rw [dN_ge (by omega) h, ch_ten (Nat.mod_lt _ (by omega))]
      exact dec_app.2 ⟨ih _ hd, dec_cons.2 ⟨dec_of (Nat.mod_lt _ (by omega)), dec_nil⟩⟩
    · rw [dN_lt (by omega), ch_ten (by omega)]
      exact dec_cons.2 ⟨dec_of (by omega), dec_nil⟩
theorem dv_dN : ∀ n, dv (dN 10 n) = n := fun n => by
  induction n using Nat.strongRecOn with
  | _ n ih =>
    by_cases h : 10 ≤ n
    · have hd : n / 10 < n := Nat.div_lt_self (by omega) (by omega)
      rw [dN_ge (by omega) h, dv_app, ih _ hd, ch_ten (Nat.mod_lt _ (by omega))]
      simp only [dv, List.length_singleton, List.length_nil]
      rw [d10_of (Nat.mod_lt _ (by omega))]; omega
    · rw [dN_lt (by omega), ch_ten (by omega)]
      simp only [dv, List.length_nil]
      rw [d10_of (by omega)]; omega
/-- Without needless noughts. -/
def strip : List UInt8 → List UInt8
  | [] => []
  | [c] => [c]
  | c :: d :: r => if c = 48 then strip (d :: r) else c :: d :: r
theorem of_d10 {c : UInt8} (h : 48 ≤ c.toNat ∧ c.toNat ≤ 57) : UInt8.ofNat (48 + d10 c) = c ∧ d10 c < 10 := by
  unfold d10
  refine ⟨?_, by omega⟩
  rw [show 48 + (c.toNat - 48) = c.toNat by omega]; simp
/-- Digits without a nought ahead are their number's. -/
theorem dN_dv : ∀ (k : Nat) {l : List UInt8}, l.length ≤ k → dec l → l ≠ [] → (1 < l.length → l.head? ≠ some 48) → dN 10 (dv l) = l
  | 0, l, hk, _, hl, _ => by cases l <;> simp_all
  | k + 1, l, hk, hd, hl, hh => by
    rcases List.eq_nil_or_concat l with rfl | ⟨a, c, rfl⟩
    · exact absurd rfl hl
    · simp only [List.concat_eq_append] at *
      obtain ⟨da, dc⟩ := dec_app.1 hd
      obtain ⟨hc, _⟩ := dec_cons.1 dc
      obtain ⟨e1, e2⟩ := of_d10 hc
      rw [dv_app]
      simp only [dv, List.length_singleton, List.length_nil]
      by_cases ha : a = []
      · subst ha
        simp only [dv, List.nil_append]
        rw [show 0 * 10 ^ 1 + (d10 c * 10 ^ 0 + 0) = d10 c by omega, dN_lt e2, ch_ten e2, e1]
      · have h0 : dv a ≠ 0 := by
          intro h
          obtain ⟨x, r, rfl⟩ := List.exists_cons_of_ne_nil ha
          have := hh (by simp)
          simp at this
          obtain ⟨hx, _⟩ := dec_cons.1 da
          simp only [dv, Nat.add_eq_zero_iff, Nat.mul_eq_zero] at h
          rcases h.1 with h | h
          · apply this
            have := (of_d10 hx).1
            rw [h] at this; exact this.symm
          · exact absurd h (Nat.ne_of_gt (Nat.pow_pos (by omega)))
        have ih := dN_dv k (l := a) (by simp at hk; omega) da ha (fun h1 h2 => by
          refine hh (by simp; omega) ?_
          obtain ⟨x, r, rfl⟩ := List.exists_cons_of_ne_nil ha
          simpa using h2)
        rw [dN_ge (by omega) (by omega), show (dv a * 10 ^ 1 + (d10 c * 10 ^ 0 + 0)) / 10 = dv a by omega, show (dv a * 10 ^ 1 + (d10 c * 10 ^ 0 + 0)) % 10 = d10 c by omega, ih, ch_ten e2, e1]
theorem strip_dv : ∀ l : List UInt8, dv (strip l) = dv l
  | [] => rfl
  | [_] => rfl
  | c :: d :: r => by
    rw [strip]
    split
    · rename_i h
      rw [strip_dv (d :: r), h]
      show dv (d :: r) = d10 48 * _ + dv (d :: r)
      simp [d10]
    · rfl
theorem strip_ok : ∀ {l : List UInt8}, dec l → l ≠ [] → dec (strip l) ∧ strip l ≠ [] ∧ (1 < (strip l).length → (strip l).head? ≠ some 48)
  | [c], h, _ => ⟨h, by simp [strip], by simp [strip]⟩
  | c :: d :: r, h, _ => by
    rw [strip]
    split
    · exact strip_ok (dec_cons.1 h).2 (by simp)
    · rename_i hc
      exact ⟨h, by simp, fun _ => by simpa using hc⟩
/-- Without needless noughts, digits are their number's. -/
theorem strip_dN {l : List UInt8} (h : dec l) (hl : l ≠ []) : strip l = dN 10 (dv l) := by
  obtain ⟨h1, h2, h3⟩ := strip_ok h hl
  have := dN_dv (strip l).length (Nat.le_refl _) h1 h2 h3
  rw [strip_dv] at this
  exact this.symm
/-- What is carried at the end, as digits ahead: none, if it is nought. -/
def hd (k : Nat) : List UInt8 := if k = 0 then [] else dN 10 k
theorem dv_hd (k : Nat) : dv (hd k) = k := by
  unfold hd
  split
  · rename_i h; rw [h]; rfl
  · exact dv_dN k
theorem dec_hd (k : Nat) : dec (hd k) := by
  unfold hd
  split
  · exact dec_nil
  · exact dec_dN k
/-- The whole multiplying. -/
theorem times_dN (b d n : Nat) : strip (hd (tm b d (dN 10 n)).2 ++ (tm b d (dN 10 n)).1) = dN 10 (n * b + d) := by
  have h := tm_dv b d (dN 10 n)
  have hne : hd (tm b d (dN 10 n)).2 ++ (tm b d (dN 10 n)).1 ≠ [] := by
    intro e
    have h1 := (List.append_eq_nil_iff.1 e).2
    have h2 := tm_len b d (dN 10 n)
    rw [h1] at h2
    exact dN_ne 10 n (List.eq_nil_of_length_eq_zero h2.symm)
  rw [strip_dN (dec_app.2 ⟨dec_hd _, dec_tm _ _ _⟩) hne]
  congr 1
  rw [dv_app, dv_hd, tm_len]
  rw [dv_dN] at h
  rw [Nat.mul_comm n b]; omega
/-- A carry stays small. -/
theorem tm_carry {b d : Nat} (hb : b ≤ 16) (hd : d ≤ 15) (l : List UInt8) (h : dec l) : (tm b d l).2 ≤ 15 := by
  induction l with
  | nil => exact hd
  | cons c r ih =>
    obtain ⟨h1, h2⟩ := dec_cons.1 h
    have := ih h2
    simp only [tm]
    have h3 : d10 c ≤ 9 := by unfold d10; omega
    have h4 : b * d10 c ≤ 16 * 9 := Nat.mul_le_mul hb h3
    omega
end In
end Go.Proofs.YtonfaphllpjmpaaDoor
