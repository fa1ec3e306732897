/- The order of normal forms, as lists. -/
import Derived.Test.YthjlnafmpcppfaaGreatDoorBack
namespace Go.Proofs.YthjlnafmpcppfaaGreatDoor
open Go.RowKit

def lexL : List UInt8 → List UInt8 → Bool
  | [], [] => false
  | [], _ :: _ => true
  | _ :: _, [] => false
  | a :: s, b :: t => if a = b then lexL s t else decide (a.toNat < b.toNat)
theorem lexL_irr (d : List UInt8) : lexL d d = false := by
  induction d with
  | nil => rfl
  | cons a s ih => simp [lexL, ih]
theorem u8_ne {a b : UInt8} (h : a ≠ b) : a.toNat ≠ b.toNat := fun e => h (UInt8.toNat_inj.1 e)
theorem lexL_asym : ∀ d e : List UInt8, lexL d e = true → lexL e d = false
  | [], [], h => by cases h
  | [], _ :: _, _ => rfl
  | _ :: _, [], h => by cases h
  | a :: s, b :: t, h => by
    by_cases e : a = b
    · subst e; simp [lexL] at h ⊢; exact lexL_asym s t h
    · simp [lexL, e] at h; simp [lexL, Ne.symm e]; omega
theorem lexL_tot : ∀ d e : List UInt8, d ≠ e → lexL d e = true ∨ lexL e d = true
  | [], [], h => absurd rfl h
  | [], _ :: _, _ => Or.inl rfl
  | _ :: _, [], _ => Or.inr rfl
  | a :: s, b :: t, h => by
    by_cases e : a = b
    · subst e; simp [lexL]; exact lexL_tot s t (fun h2 => h (by rw [h2]))
    · have := u8_ne e; simp [lexL, e, Ne.symm e]; omega
theorem lexL_tra : ∀ d e f : List UInt8, lexL d e = true → lexL e f = true → lexL d f = true
  | _, [], [], _, h => by cases h
  | [], [], _ :: _, h, _ => by cases h
  | _ :: _, [], _ :: _, h, _ => by cases h
  | [], _ :: _, [], _, h => by cases h
  | [], _ :: _, _ :: _, _, _ => rfl
  | _ :: _, _ :: _, [], _, h => by cases h
  | a :: s, b :: t, c :: u, h1, h2 => by
    by_cases e : a = b
    · subst e
      by_cases e2 : a = c
      · subst e2; simp [lexL] at *; exact lexL_tra s t u h1 h2
      · simp [lexL, e2] at h2 ⊢; exact h2
    · by_cases e2 : b = c
      · subst e2; simp [lexL, e] at h1 ⊢; exact h1
      · have e3 : a ≠ c := by
          intro e3; subst e3; simp [lexL, e, e2] at h1 h2; omega
        simp [lexL, e, e2] at h1 h2; simp [lexL, e3]; omega
theorem ltA_lex (d e : List UInt8) (i : Nat) (h1 : i ≤ d.length) (h2 : i ≤ e.length) : ltA d e i = lexL (d.drop i) (e.drop i) := by
  by_cases g1 : i < d.length
  · by_cases g2 : i < e.length
    · have hd : d.drop i = d[i] :: d.drop (i + 1) := List.drop_eq_getElem_cons g1
      have he : e.drop i = e[i] :: e.drop (i + 1) := List.drop_eq_getElem_cons g2
      have bd : bt d i = (d[i].toNat : Int) := by simp [bt, g1]
      have be : bt e i = (e[i].toNat : Int) := by simp [bt, g2]
      rw [hd, he]
      by_cases g : d[i] = e[i]
      · rw [ltA_on g1 g2 (by rw [bd, be, g]), ltA_lex d e (i + 1) g1 g2]; simp [lexL, g]
      · have hne := u8_ne g
        rw [ltA_off g1 g2 (by rw [bd, be]; omega), bd, be]; simp [lexL, g]
    · rw [ltA_end (by omega), List.drop_eq_nil_of_le (Nat.not_lt.1 g2), List.drop_eq_getElem_cons g1]; simp [lexL]; omega
  · rw [ltA_end (by omega), List.drop_eq_nil_of_le (Nat.not_lt.1 g1)]
    by_cases g2 : i < e.length
    · rw [List.drop_eq_getElem_cons g2]; simp [lexL]; omega
    · rw [List.drop_eq_nil_of_le (Nat.not_lt.1 g2)]; simp [lexL]; omega
termination_by d.length - i
theorem ltM_iff (d : List UInt8) (x : Int) (e : List UInt8) (y : Int) : ltM d x e y = true ↔ (x + d.length < y + e.length ∨ (x + d.length = y + e.length ∧ lexL d e = true)) := by
  unfold ltM
  split
  · rename_i h; rw [ltA_lex d e 0 (Nat.zero_le _) (Nat.zero_le _)]; simp only [List.drop_zero]
    exact ⟨fun h2 => Or.inr ⟨h, h2⟩, fun h2 => h2.elim (fun h3 => by omega) (fun h3 => h3.2)⟩
  · rename_i h; rw [decide_eq_true_eq]
    exact ⟨Or.inl, fun h2 => h2.elim id (fun h3 => absurd h3.1 h)⟩
theorem ltM_asym {d e : List UInt8} {x y : Int} (h : ltM d x e y = true) : ltM e y d x = false := by
  rw [ltM_iff] at h
  rw [Bool.eq_false_iff]
  intro h2
  rw [ltM_iff] at h2
  rcases h with h | ⟨h, hl⟩
  · rcases h2 with h2 | ⟨h2, _⟩ <;> omega
  · rcases h2 with h2 | ⟨h2, hl2⟩
    · omega
    · rw [lexL_asym _ _ hl] at hl2; cases hl2
theorem ltM_tot {d e : List UInt8} {x y : Int} (h : ¬ (d = e ∧ x = y)) : ltM d x e y = true ∨ ltM e y d x = true := by
  rw [ltM_iff, ltM_iff]
  by_cases h1 : x + d.length = y + e.length
  · have hne : d ≠ e := fun e1 => h ⟨e1, by subst e1; omega⟩
    rcases lexL_tot d e hne with h2 | h2
    · exact Or.inl (Or.inr ⟨h1, h2⟩)
    · exact Or.inr (Or.inr ⟨h1.symm, h2⟩)
  · omega
theorem ltM_tra {d e f : List UInt8} {x y z : Int} (h1 : ltM d x e y = true) (h2 : ltM e y f z = true) : ltM d x f z = true := by
  rw [ltM_iff] at *
  rcases h1 with h1 | ⟨h1, l1⟩ <;> rcases h2 with h2 | ⟨h2, l2⟩
  · left; omega
  · left; omega
  · left; omega
  · right; exact ⟨by omega, lexL_tra _ _ _ l1 l2⟩
theorem rd_nought : rd [48] = ([48], 0) := by
  have n48 : ∀ x ∈ ([48] : List UInt8), nb x = true := by intro x hx; rw [List.mem_singleton.1 hx]; rfl
  have e0 : q0 [48] = 0 := by simp [q0, bt]
  have e1 : q1 [48] = 1 := by unfold q1; rw [e0]; exact runE_app [48] [] [] n48 rfl
  have b1 : bt [48] 1 = 0 := rfl
  have hb : bad1 [48] = false := by unfold bad1; rw [e0, e1]; simp
  have hd : dot [48] = false := by unfold dot; rw [e1, b1]; rfl
  have e2 : q2 [48] = 1 := by unfold q2; rw [hd, e1]; rfl
  have e3 : q3 [48] = 1 := by unfold q3; rw [hd, e1]; rfl
  have hx : exq [48] = false := by unfold exq; rw [e3, b1]; rfl
  have e4 : q4 [48] = 1 := by unfold q4; rw [hx, e3]; rfl
  have e5 : q5 [48] = 1 := by unfold q5; rw [hx, e3]; rfl
  have his : isB [48] = true := by unfold isB; rw [hb, hd, hx, e5]; rfl
  have hp : powR [48] (q4 [48]) (q5 [48]) = (0, true) := by rw [e4, e5]; unfold powR; rw [powA_end (by omega)]; simp
  have hD : rdD [48] = [48] := by unfold rdD; rw [e0, e1, e2, e3]; rfl
  have hT : rdT [48] = [] := by
    unfold rdT; rw [hD, trimR_on (by simp) rfl]
    rw [show ([48] : List UInt8).take (([48] : List UInt8).length - 1) = [] from rfl, trimR_end (by simp), trimL_end (by simp)]
  exact rd_zero his (by rw [hp]) hT
theorem norm_nought : norm [48] = true := by unfold norm; rw [rd_nought]; rfl
theorem norm_shape {l : List UInt8} (h : norm l = true) : l = [48] ∨ ∃ m T N, l = mk m T N ∧ Fine T ∧ -1000000000 ≤ N ∧ N ≤ 1000000000 := by
  unfold norm at h
  simp at h
  have := rd_shape h.1
  rw [h.2] at this
  exact this
/-- Read's text is its own normal form. -/
theorem norm_rd {l : List UInt8} (h : (rd l).2 = 0) : norm (rd l).1 = true := by
  rcases rd_shape h with e | ⟨m, T, N, e, hT, h1, h2⟩
  · rw [e]; exact norm_nought
  · rw [e]; exact (rd_mk m N hT h1 h2).2.1
theorem Fine.ne {T : List UInt8} (h : Fine T) : T ≠ [48] := fun e => h.first (by rw [e]; rfl)
theorem norm_unlike {l : List UInt8} (h : norm l = true) : ptD l = [48] ↔ l = [48] := by
  rcases norm_shape h with e | ⟨m, T, N, e, hT, h1, h2⟩
  · subst e; unfold ptD; simp [norm_nought]
  · have R := rd_mk m N hT h1 h2
    rw [← e] at R
    exact ⟨fun h3 => absurd (R.2.2.2.2.1 ▸ h3) hT.ne, fun h3 => absurd h3 R.2.2.1⟩
/-- The parts tell the text. -/
theorem norm_inj {a b : List UInt8} (ha : norm a = true) (hb : norm b = true) (hM : ptM a = ptM b) (hD : ptD a = ptD b) (hX : ptX a = ptX b) : a = b := by
  rcases norm_shape ha with e | ⟨m, T, N, e, hT, h1, h2⟩
  · have := (norm_unlike ha).2 e
    rw [hD] at this
    rw [e, (norm_unlike hb).1 this]
  · have R := rd_mk m N hT h1 h2
    rw [← e] at R
    rcases norm_shape hb with e' | ⟨m', T', N', e', hT', h1', h2'⟩
    · have := (norm_unlike hb).2 e'
      rw [← hD] at this
      exact absurd ((norm_unlike ha).1 this) R.2.2.1
    · have R' := rd_mk m' N' hT' h1' h2'
      rw [← e'] at R'
      have m1 := R.2.2.2.1.symm.trans (hM.trans R'.2.2.2.1)
      have m2 := R.2.2.2.2.1.symm.trans (hD.trans R'.2.2.2.2.1)
      have m3 := R.2.2.2.2.2.symm.trans (hX.trans R'.2.2.2.2.2)
      rw [e, e', m1, m2, m3]
end Go.Proofs.YthjlnafmpcppfaaGreatDoor
