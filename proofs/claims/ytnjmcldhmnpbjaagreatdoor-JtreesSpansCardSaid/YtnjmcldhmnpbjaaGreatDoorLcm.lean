/- JSON documents as lists: what is wrong is told with a code, at a place within the bytes, or at their end. -/
import Derived.Test.YtnjmcldhmnpbjaaGreatDoorKym
namespace Go.Proofs.YtnjmcldhmnpbjaaGreatDoor
open Go.RowKit
namespace Jt
open Jk (tks)

section
variable {E : Env} {N : Nat}
/-- Tokens that lie within so many bytes. -/
def Wi (E : Env) (N : Nat) (T : List Tok) : Prop := ∀ t ∈ T, t.2.1 + (E.by t).length ≤ N
theorem Wi.right {a b : List Tok} (h : Wi E N (a ++ b)) : Wi E N b := fun t ht => h t (List.mem_append_right _ ht)
theorem Wi.tail {t : Tok} {b : List Tok} (h : Wi E N (t :: b)) : Wi E N b := fun u hu => h u (List.mem_cons_of_mem _ hu)
theorem Wi.head {t : Tok} {b : List Tok} (h : Wi E N (t :: b)) : t.2.1 + (E.by t).length ≤ N := h t List.mem_cons_self
/-- What the readers tell of a token. -/
structure Rdr1 (E : Env) (N : Nat) : Prop where
  en1 : E.en.1 ≠ 0
  en2 : E.en.2 ≤ N
  q : ∀ s c a, E.rq s = .error (c, a) → c ≠ 0 ∧ a ≤ s.length
  n : ∀ s c, E.rn s = .error c → c ≠ 0
theorem comma_bad (R : Rdr1 E N) {first : Bool} {T : List Tok} {c a : Nat} (h : comma E first T = .bad c a) (hT : Wi E N T) : c ≠ 0 ∧ a ≤ N := by
  unfold comma at h
  split at h
  · cases h
  · cases T with
    | nil => injection h with h1 h2; rw [← h1, ← h2]; exact ⟨R.en1, R.en2⟩
    | cons t r =>
      simp only at h
      split at h
      · cases h
      · injection h with h1 h2; rw [← h1, ← h2]; have := hT.head; exact ⟨by omega, by omega⟩
theorem entry_bad (R : Rdr1 E N) {m : Bool} {ks : List Bs} {T : List Tok} {c a : Nat} (h : entry E m ks T = .bad c a) (hT : Wi E N T) : c ≠ 0 ∧ a ≤ N := by
  unfold entry at h
  split at h
  · cases h
  · cases T with
    | nil => injection h with h1 h2; rw [← h1, ← h2]; exact ⟨R.en1, R.en2⟩
    | cons t r =>
      have ht := hT.head
      simp only at h
      split at h
      · cases hq : E.rq (E.by t) with
        | error x =>
          obtain ⟨c', a'⟩ := x
          rw [hq] at h
          injection h with h1 h2
          have := R.q _ _ _ hq
          rw [← h1, ← h2]; exact ⟨this.1, by omega⟩
        | ok s =>
          rw [hq] at h
          simp only at h
          split at h
          · injection h with h1 h2; rw [← h1, ← h2]; exact ⟨by omega, by omega⟩
          · cases r with
            | nil => injection h with h1 h2; rw [← h1, ← h2]; exact ⟨R.en1, R.en2⟩
            | cons u r2 =>
              have hu := hT.tail.head
              simp only at h
              split at h
              · cases h
              · injection h with h1 h2; rw [← h1, ← h2]; exact ⟨by omega, by omega⟩
      · injection h with h1 h2; rw [← h1, ← h2]; exact ⟨by omega, by omega⟩
end
mutual
theorem pv_bad {E : Env} {N : Nat} (R : Rdr1 E N) : ∀ (f d : Nat) (T : List Tok) (c a : Nat), pv E f d T = .bad c a → d ≤ 256 → Wi E N T → c ≠ 0 ∧ a ≤ N
  | 0, _, _, _, _, h, _, _ => by rw [pv] at h; cases h
  | _ + 1, _, [], _, _, h, _, _ => by rw [pv] at h; injection h with h1 h2; rw [← h1, ← h2]; exact ⟨R.en1, R.en2⟩
  | f + 1, d, t :: T, c, a, h, hd, hT => by
    have ht := hT.head
    rw [pv] at h
    split at h
    · split at h <;> cases h
    · split at h
      · split at h
        · rename_i c' hc
          injection h with h1 h2
          rw [← h1, ← h2]; exact ⟨R.n _ _ hc, by omega⟩
        · cases h
      · split at h
        · split at h
          · rename_i c' a' hc
            injection h with h1 h2
            have := R.q _ _ _ hc
            rw [← h1, ← h2]; exact ⟨this.1, by omega⟩
          · cases h
        · split at h
          · split at h
            · injection h with h1 h2; rw [← h1, ← h2]; exact ⟨by omega, by omega⟩
            · cases hp : pl E f d (E.mk? t 123) true [] T with
              | bad c' a' =>
                rw [hp] at h
                injection h with h1 h2
                have := pl_bad R f d _ _ _ T c' a' hp (by omega) hT.tail
                rw [← h1, ← h2]; exact this
              | out => rw [hp] at h; cases h
              | ok b r2 => obtain ⟨is, e⟩ := b; rw [hp] at h; cases h
          · injection h with h1 h2; rw [← h1, ← h2]; exact ⟨by omega, by omega⟩
theorem pl_bad {E : Env} {N : Nat} (R : Rdr1 E N) : ∀ (f d : Nat) (m first : Bool) (ks : List Bs) (T : List Tok) (c a : Nat), pl E f d m first ks T = .bad c a → d < 256 → Wi E N T → c ≠ 0 ∧ a ≤ N
  | 0, _, _, _, _, _, _, _, h, _, _ => by rw [pl] at h; cases h
  | _ + 1, _, _, _, _, [], _, _, h, _, _ => by rw [pl] at h; injection h with h1 h2; rw [← h1, ← h2]; exact ⟨R.en1, R.en2⟩
  | f + 1, d, m, first, ks, t :: T, c, a, h, hd, hT => by
    rw [pl] at h
    split at h
    · cases h
    · cases hc : comma E first (t :: T) with
      | bad c' a' =>
        rw [hc] at h
        injection h with h1 h2
        have := comma_bad R hc hT
        rw [← h1, ← h2]; exact this
      | out => rw [hc] at h; cases h
      | ok u0 T1 =>
        rw [hc] at h
        simp only at h
        obtain ⟨s1, w1, _⟩ := comma_seg hc
        have hT1 : Wi E N T1 := by rw [w1] at hT; exact hT.right
        cases he : entry E m ks T1 with
        | bad c' a' =>
          rw [he] at h
          injection h with h1 h2
          have := entry_bad R he hT1
          rw [← h1, ← h2]; exact this
        | out => rw [he] at h; cases h
        | ok ksp T2 =>
          obtain ⟨k, sp⟩ := ksp
          rw [he] at h
          simp only at h
          obtain ⟨s2, w2, _⟩ := entry_seg he
          have hT2 : Wi E N T2 := by rw [w2] at hT1; exact hT1.right
          cases hv : pv E f (d + 1) T2 with
          | bad c' a' =>
            rw [hv] at h
            injection h with h1 h2
            have := pv_bad R f (d + 1) T2 c' a' hv (by omega) hT2
            rw [← h1, ← h2]; exact this
          | out => rw [hv] at h; cases h
          | ok v T3 =>
            rw [hv] at h
            simp only at h
            obtain ⟨s3, w3, _⟩ := pv_frs f (d + 1) T2 T3 v 0 hv (by omega)
            have hT3 : Wi E N T3 := by rw [w3] at hT2; exact hT2.right
            cases hl : pl E f d m false (ks ++ [k]) T3 with
            | bad c' a' =>
              rw [hl] at h
              injection h with h1 h2
              have := pl_bad R f d m false _ T3 c' a' hl hd hT3
              rw [← h1, ← h2]; exact this
            | out => rw [hl] at h; cases h
            | ok b T4 => obtain ⟨is2, e2⟩ := b; rw [hl] at h; cases h
end
theorem rd_code (s : Bs) (h : (De.rd s).2 ≠ 0) : (De.rd s).2.toNat ≠ 0 := by
  by_cases h1 : De.isB s = true
  · by_cases h2 : (De.powR s (De.q4 s) (De.q5 s)).2 = true
    · by_cases h3 : De.rdT s = []
      · rw [De.rd_zero h1 h2 h3] at h; exact absurd rfl h
      · by_cases h4 : De.rdN s > 1000000000 ∨ De.rdN s < -1000000000
        · rw [De.rd_far h1 h2 h3 h4]; decide
        · rw [De.rd_ok h1 h2 h3 h4] at h; exact absurd rfl h
    · rw [De.rd_exp h1 (by simpa using h2)]; decide
  · rw [De.rd_syntax (by simpa using h1)]; decide
theorem by_wi {l : Bs} {en : Nat × Nat} {t : Tok} (h : t.2.1 < t.2.2 ∧ t.2.2 ≤ l.length) : t.2.1 + ((envL l en).by t).length ≤ l.length := by
  show t.2.1 + ((l.take t.2.2).drop t.2.1).length ≤ _
  rw [List.length_drop, List.length_take]; omega
theorem tks_fault {l : Bs} : ∀ (m i : Nat), l.length - i ≤ m → i ≤ l.length → ∀ x, (tks l i).2 = some x → x ≤ l.length := by
  intro m
  induction m with
  | zero => intro i hi hl x h; rw [Jk.tks_end (by omega)] at h; cases h
  | succ m ih =>
    intro i hi hl x h
    by_cases hlt : i < l.length
    · cases hx : Jk.nx (l.drop i) with
      | bad n =>
        rw [Jk.tks_bad hlt hx] at h
        have := Jk.nx_bad hx
        rw [List.length_drop] at this
        injection h with h; omega
      | tok k n =>
        have hk := Jk.tk_of hx
        have hn := Jk.tk_len hk
        rw [List.length_drop] at hn
        rw [Jk.tks_tok hk] at h
        exact ih (i + n) (by omega) (by omega) x h
    · rw [Jk.tks_end (by omega)] at h; cases h
/-- What is wrong has a code, and a place within the bytes, or at their end. -/
theorem parse_bad {l : Bs} {c a : Nat} (h : parseR l = .bad c a) : c ≠ 0 ∧ a ≤ l.length := by
  unfold parseR at h
  split at h
  · rw [docP_doc] at h
    have hfa : ∀ x, (tks l 0).2 = some x → x ≤ l.length := fun x hx => tks_fault _ 0 (Nat.le_refl _) (Nat.zero_le _) x hx
    have R : Rdr1 (envL l (enOf l)) l.length := ⟨by show (3 : Nat) ≠ 0; omega, by
        show (match (tks l 0).2 with | some a => a | none => l.length) ≤ _
        split
        · rename_i x hx; exact hfa x hx
        · exact Nat.le_refl _, fun s c' a' hs => by
        change rqL s = _ at hs
        unfold rqL at hs
        split at hs
        · cases hs
        · rename_i hf b hb
          injection hs with hs
          injection hs with h1 h2
          have := (Qu.rdq_more hb).1
          rw [← h1, ← h2]
          exact ⟨by split <;> omega, this⟩, fun s c' hs => by
        change rnL s = _ at hs
        unfold rnL at hs
        split at hs
        · cases hs
        · rename_i hne
          injection hs with hs
          rw [← hs]; exact rd_code s hne⟩
    have hW : Wi (envL l (enOf l)) l.length (sol l) := fun t ht => by_wi (tks_mem (l := l) (i := 0) (List.mem_filter.1 ht).1)
    unfold doc at h
    cases hp : pv (envL l (enOf l)) (2 * (sol l).length + 2) 0 (sol l) with
    | out => exact absurd hp (pv_in _ _ _ (by omega))
    | bad c' a' =>
      rw [hp] at h
      injection h with h1 h2
      have := pv_bad R _ _ _ _ _ hp (by omega) hW
      rw [← h1, ← h2]; exact this
    | ok v r =>
      rw [hp] at h
      cases r with
      | cons t r =>
        obtain ⟨seg, w, _⟩ := pv_frs _ _ _ _ _ 0 hp (by omega)
        have ht := hW t (by rw [w]; simp)
        injection h with h1 h2
        rw [← h1, ← h2]; exact ⟨by omega, by omega⟩
      | nil =>
        cases hf : (tks l 0).2 with
        | some x =>
          rw [hf] at h
          injection h with h1 h2
          rw [← h1, ← h2]; exact ⟨by omega, hfa x hf⟩
        | none => rw [hf] at h; cases h
  · injection h with h1 h2
    rw [← h1, ← h2]; exact ⟨by omega, U8.scn_le l⟩
end Jt
end Go.Proofs.YtnjmcldhmnpbjaaGreatDoor
