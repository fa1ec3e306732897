/- All tokens, one behind the other: what the laws ask of them. -/
import Derived.Test.YtfnahondlcbjnaaWa
namespace Go.Proofs.Ytfnahondlcbjnaa
open Go.RowKit
namespace Jk

/-- A slice of bytes that comes in. -/
def ArgB (w : World) (A : Option Addr) (n c : Nat) (l : List UInt8) : Prop := n = l.length ∧ n ≤ c ∧ c ≤ maxLen ∧ Byt w w.heap.size A l ∧ (A = none → c = 0)
/-- The first token from a place on. -/
theorem tks_head {l : List UInt8} {p : Nat} {t : Tok} {r : List Tok} (h : (tks l p).1 = t :: r) : ∃ k m, TK (l.drop p) k m ∧ t = (k, p, p + m) ∧ r = (tks l (p + m)).1 ∧ (tks l p).2 = (tks l (p + m)).2 := by
  by_cases hp : p < l.length
  · cases hx : nx (l.drop p) with
    | bad n => rw [tks_bad hp hx] at h; cases h
    | tok k m =>
      have ht := tk_of hx
      rw [tks_tok ht] at h ⊢
      injection h with h1 h2
      exact ⟨k, m, ht, h1.symm, h2.symm, rfl⟩
  · rw [tks_end (by omega)] at h; cases h
/-- No token more: the text is at its end, or there is a fault. -/
theorem tks_none {l : List UInt8} {p : Nat} (hp : p ≤ l.length) (h : (tks l p).1 = []) : ((tks l p).2 = none ∧ p = l.length) ∨ ∃ a, (tks l p).2 = some a ∧ p ≤ a ∧ a ≤ l.length := by
  by_cases hl : p < l.length
  · cases hx : nx (l.drop p) with
    | bad n =>
      have hn := nx_bad hx
      rw [List.length_drop] at hn
      rw [tks_bad hl hx]
      exact .inr ⟨_, rfl, by omega, by omega⟩
    | tok k m => rw [tks_tok (tk_of hx)] at h; cases h
  · rw [tks_end (by omega)]
    exact .inl ⟨rfl, by omega⟩
/-- How far the tokens are gone through: k of them, up to p. -/
structure Cv (l : List UInt8) (k p : Nat) : Prop where
  le : p ≤ l.length
  rest : (tks l p).1 = (tks l 0).1.drop k
  en : (tks l p).2 = (tks l 0).2
  kl : k ≤ (tks l 0).1.length
  prev : 0 < k → ∃ k0 p0 m0, TK (l.drop p0) k0 m0 ∧ p = p0 + m0 ∧ (tks l 0).1[k - 1]? = some (k0, p0, p)
theorem Cv.start (l : List UInt8) : Cv l 0 0 := ⟨Nat.zero_le _, rfl, rfl, Nat.zero_le _, fun h => absurd h (by omega)⟩
section
variable {l : List UInt8} {k p : Nat}
theorem Cv.next (h : Cv l k p) (hk : k < (tks l 0).1.length) : ∃ kk m, TK (l.drop p) kk m ∧ (tks l 0).1[k]? = some (kk, p, p + m) ∧ 0 < m ∧ p + m ≤ l.length ∧ Cv l (k + 1) (p + m) := by
  have e : (tks l 0).1.drop k = (tks l 0).1[k] :: (tks l 0).1.drop (k + 1) := List.drop_eq_getElem_cons hk
  have h1 := h.rest
  rw [e] at h1
  obtain ⟨kk, m, ht, e1, e2, e3⟩ := tks_head h1
  have hm := tk_len ht
  rw [List.length_drop] at hm
  have hle := h.le
  have e4 : (tks l 0).1[k]? = some (kk, p, p + m) := by rw [List.getElem?_eq_getElem hk, e1]
  exact ⟨kk, m, ht, e4, hm.1, by omega, by omega, e2.symm, by rw [← e3, h.en], by omega, fun _ => ⟨kk, p, m, ht, rfl, by rw [Nat.add_sub_cancel]; exact e4⟩⟩
theorem Cv.done (h : Cv l k p) (hk : k = (tks l 0).1.length) : ((tks l 0).2 = none ∧ p = l.length) ∨ ∃ a, (tks l 0).2 = some a ∧ p ≤ a ∧ a ≤ l.length := by
  have h1 := h.rest
  rw [hk, List.drop_length] at h1
  have := tks_none h.le h1
  rwa [h.en] at this
end
theorem tk_kind {l : List UInt8} {k n : Nat} (h : TK l k n) : k ≤ 4 := by cases h <;> omega
theorem tks_few {l : List UInt8} : (tks l 0).1.length ≤ l.length := by
  have key : ∀ (m p : Nat), l.length - p ≤ m → (tks l p).1.length ≤ l.length - p := by
    intro m
    induction m with
    | zero => intro p hp; rw [tks_end (by omega)]; exact Nat.zero_le _
    | succ m ih =>
      intro p hp
      by_cases hl : p < l.length
      · cases hx : nx (l.drop p) with
        | bad n => rw [tks_bad hl hx]; exact Nat.zero_le _
        | tok k n =>
          have ht := tk_of hx
          have hn := tk_len ht
          rw [List.length_drop] at hn
          have := ih (p + n) (by omega)
          rw [tks_tok ht, List.length_cons]
          omega
      · rw [tks_end (by omega)]; exact Nat.zero_le _
  have := key _ 0 (Nat.le_refl _)
  omega
end Jk
end Go.Proofs.Ytfnahondlcbjnaa
