/- What landed, over lists: digits parted by low marks, their amount, its sign. -/
import Derived.Test.YtonfaphllpjmpaaDoorInL
namespace Go.Proofs.YtonfaphllpjmpaaDoor

namespace In
/-- Are there digits of a base, with one low mark between two of them at most; p: a digit stands ahead. -/
def spc (b : Nat) : Bool → List UInt8 → Bool
  | p, [] => p
  | p, c :: r => if c = 95 then (if p = true then spc b false r else false) else if dg c < b then spc b true r else false
theorem spc_vl (b : Nat) : ∀ (r : List UInt8) (p : Bool) (n : Nat), r ≠ [] ∨ p = true → (vl b p n r).isSome = spc b p r
  | [], p, n, h => by
    rcases h with h | h
    · exact absurd rfl h
    · subst h; rfl
  | c :: r, p, n, _ => by
    rw [vl, spc]
    by_cases hc : c = 95
    · rw [if_pos hc, if_pos hc]
      by_cases hp : p = true
      · rw [if_pos hp]
        by_cases hr : r = []
        · subst hr; rw [if_neg (fun h => h.2 rfl)]; rfl
        · rw [if_pos ⟨hp, hr⟩]; exact spc_vl b r false n (.inl hr)
      · rw [if_neg hp, if_neg (fun h => hp h.1)]; rfl
    · rw [if_neg hc, if_neg hc]
      by_cases hd : dg c < b
      · rw [if_pos hd, if_pos hd]; exact spc_vl b r true _ (.inr rfl)
      · rw [if_neg hd, if_neg hd]; rfl
/-- The amount of digits, as far as it is no more than may be. -/
def amt (b most : Nat) : Nat → List UInt8 → Option Nat
  | m, [] => some m
  | m, c :: r => if c = 95 then amt b most m r else if (most - dg c) / b < m then none else amt b most (m * b + dg c) r
/-- Bytes that are digits of a base, or low marks. -/
def okB (b : Nat) (r : List UInt8) : Prop := ∀ c ∈ r, c = 95 ∨ dg c < b
theorem spc_ok (b : Nat) : ∀ (r : List UInt8) (p : Bool), spc b p r = true → okB b r
  | [], _, _ => fun _ h => by cases h
  | c :: r, p, h => by
    rw [spc] at h
    intro x hx
    by_cases hc : c = 95
    · rw [if_pos hc] at h
      cases p
      · cases h
      · rw [if_pos rfl] at h
        rcases List.mem_cons.1 hx with rfl | hx
        · exact .inl hc
        · exact spc_ok b r false h x hx
    · rw [if_neg hc] at h
      by_cases hd : dg c < b
      · rw [if_pos hd] at h
        rcases List.mem_cons.1 hx with rfl | hx
        · exact .inr hd
        · exact spc_ok b r true h x hx
      · rw [if_neg hd] at h; cases h
theorem vl_ge {b : Nat} (hb : 0 < b) : ∀ (r : List UInt8) (p : Bool) (n v : Nat), vl b p n r = some v → n ≤ v
  | [], p, n, v, h => by rw [vl_nil] at h; injection h with h; omega
  | c :: r, p, n, v, h => by
    rw [vl] at h
    split at h
    · split at h
      · exact vl_ge hb r _ _ _ h
      · cases h
    · split at h
      · have h1 := vl_ge hb r _ _ _ h
        have h2 : n * 1 ≤ n * b := Nat.mul_le_mul_left n hb
        omega
      · cases h
theorem vl_amt {b most : Nat} (hb : 0 < b) (hm : b ≤ most) : ∀ (r : List UInt8) (p : Bool) (n v : Nat), n ≤ most → vl b p n r = some v → amt b most n r = if v ≤ most then some v else none
  | [], p, n, v, hn, h => by rw [vl_nil] at h; injection h with h; subst h; rw [amt, if_pos hn]
  | c :: r, p, n, v, hn, h => by
    rw [vl] at h
    rw [amt]
    split at h
    · rename_i hc
      rw [if_pos hc]
      split at h
      · exact vl_amt hb hm r _ _ _ hn h
      · cases h
    · rename_i hc
      rw [if_neg hc]
      split at h
      · rename_i hd
        by_cases hq : (most - dg c) / b < n
        · rw [if_pos hq, if_neg]
          have h1 := vl_ge hb r _ _ _ h
          have h2 := (Nat.div_lt_iff_lt_mul hb).1 hq
          omega
        · rw [if_neg hq]
          have h2 : n ≤ (most - dg c) / b := by omega
          have h3 := (Nat.le_div_iff_mul_le hb).1 h2
          exact vl_amt hb hm r _ _ _ (by omega) h
      · cases h
theorem lim_le (m : Bool) : 9223372036854775807 ≤ lim m ∧ lim m ≤ 9223372036854775808 := by cases m <;> simp [lim]
/-- A text's value with its sign, and its parts: what is read of it. -/
def sg2 (m : Bool) (v : Nat) : Int := if m = true then -(v : Int) else v
theorem fin_some (m : Bool) (v : Nat) : fin m (some v) = if v ≤ lim m then .ok (nfI (sg2 m v)) else .big := by
  by_cases h : v ≤ lim m
  · rw [if_pos h, fin_ok h, nf_nfI]; rfl
  · rw [if_neg h, fin_big (by omega)]
/-- Is a text an integer's? -/
def good (b : Nat) (r : List UInt8) : Bool := !decide (b = 10 ∧ 1 < r.length ∧ r.head? = some 48) && spc b false r
theorem spc_nil (b : Nat) : spc b false [] = false := rfl
theorem body_bad {b : Nat} {m : Bool} {r : List UInt8} (h : good b r = false) : body b m r = .syn := by
  unfold body
  by_cases h1 : r = [] ∨ b = 10 ∧ 1 < r.length ∧ r.head? = some 48
  · rw [if_pos h1]
  · rw [if_neg h1]
    have h2 : ¬ (b = 10 ∧ 1 < r.length ∧ r.head? = some 48) := fun h => h1 (.inr h)
    unfold good at h
    rw [decide_eq_false h2] at h
    have hs : spc b false r = false := by simpa using h
    rw [← spc_vl b r false 0 (.inl (fun h => h1 (.inl h)))] at hs
    cases hv : vl b false 0 r with
    | none => rfl
    | some v => rw [hv] at hs; cases hs
theorem body_good {b : Nat} {m : Bool} {r : List UInt8} (h : good b r = true) : ∃ v, vl b false 0 r = some v ∧ body b m r = fin m (some v) ∧ okB b r := by
  unfold good at h
  simp only [Bool.and_eq_true, Bool.not_eq_true', decide_eq_false_iff_not] at h
  obtain ⟨h2, hs⟩ := h
  have hr : r ≠ [] := by rintro rfl; cases hs
  have ho := spc_ok b r false hs
  rw [← spc_vl b r false 0 (.inl hr), Option.isSome_iff_exists] at hs
  obtain ⟨v, hv⟩ := hs
  refine ⟨v, hv, ?_, ho⟩
  unfold body
  rw [if_neg (by rintro (h | h); exact hr h; exact h2 h), hv]
end In
end Go.Proofs.YtonfaphllpjmpaaDoor
