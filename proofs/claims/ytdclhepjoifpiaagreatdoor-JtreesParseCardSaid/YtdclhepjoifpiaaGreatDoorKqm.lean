/- What landed: a document's nodes by the parser by recursion; the documents of the examples and of the deep law. -/
import Derived.Test.YtdclhepjoifpiaaGreatDoorBp
import Derived.Test.YtdclhepjoifpiaaGreatDoorBk
namespace Go.Proofs.YtdclhepjoifpiaaGreatDoor
open Go.RowKit
namespace Jt
open Jk (tks TK tk_of tk_len tks_tok tks_bad tks_end)
deriving instance DecidableEq for Nd
deriving instance DecidableEq for NR
deriving instance DecidableEq for Qu.Res
/-! ### Blanks are passed over -/
theorem run_solid {E : Env} : ∀ (T : List Tok) (s : St), run E s T = run E s (T.filter solid)
  | [], _ => rfl
  | t :: r, s => by
    by_cases h : t.1 = 0
    · have st : step E s t = .ok s := by unfold step; rw [if_neg (by omega), if_neg (by omega), if_neg (by omega), if_neg (by omega)]
      rw [run_cons st, List.filter_cons_of_neg (by simp [solid, h])]
      exact run_solid r s
    · rw [List.filter_cons_of_pos (by simp [solid, h]), run, run]
      cases step E s t with
      | bad c a => rfl
      | ok s' => exact run_solid r s'
theorem kinds {l : Bs} : ∀ (m i : Nat), l.length - i ≤ m → ∀ t ∈ (tks l i).1, t.1 ≤ 4 := by
  intro m
  induction m with
  | zero => intro i hi t ht; rw [tks_end (by omega)] at ht; cases ht
  | succ m ih =>
    intro i hi t ht
    by_cases hlt : i < l.length
    · cases hx : Jk.nx (l.drop i) with
      | bad n => rw [tks_bad hlt hx] at ht; cases ht
      | tok k n =>
        have hk := tk_of hx
        have hm := tk_len hk
        rw [tks_tok hk] at ht
        rcases List.mem_cons.1 ht with rfl | ht
        · cases hk <;> simp
        · exact ih (i + n) (by omega) t ht
    · rw [tks_end (by omega)] at ht; cases ht
theorem sol_sol (l : Bs) : Sol (sol l) := fun t ht => by
  obtain ⟨h1, h2⟩ := List.mem_filter.1 ht
  have h3 := kinds l.length 0 (by omega) t h1
  have h4 : t.1 ≠ 0 := by simpa [solid] using h2
  omega
theorem run_same {E E' : Env} (h : E.l = E'.l) (hq : E.rq = E'.rq) (hn : E.rn = E'.rn) : ∀ (T : List Tok) (s : St), run E s T = run E' s T := by
  obtain ⟨l, q, n, e⟩ := E
  obtain ⟨l', q', n', e'⟩ := E'
  obtain rfl : l = l' := h
  obtain rfl : q = q' := hq
  obtain rfl : n = n' := hn
  intro T
  induction T with
  | nil => intro s; rfl
  | cons t r ih =>
    intro s
    rw [run, run]
    have e2 : step ⟨l, q, n, e⟩ s t = step ⟨l, q, n, e'⟩ s t := rfl
    rw [e2]
    cases step ⟨l, q, n, e'⟩ s t with
    | bad c a => rfl
    | ok s' => exact ih s'
/-- The end that is told when the tokens are at an end. -/
def enOf (l : Bs) : Nat × Nat := (3, match (tks l 0).2 with | some a => a | none => l.length)
theorem docP_doc (l : Bs) : docP (envL l (0, 0)) (tks l 0).2 (tks l 0).1 = match doc (envL l (enOf l)) (tks l 0).2 (sol l) with | .ok v => .ok (v.nds 0) | .bad c a => .bad c a := by
  have hE : run (envL l (0, 0)) ⟨1, [], []⟩ (tks l 0).1 = run (envL l (enOf l)) ⟨1, [], []⟩ (sol l) := by
    rw [show sol l = (tks l 0).1.filter solid from rfl, ← run_solid]
    exact run_same (E := envL l (0, 0)) (E' := envL l (enOf l)) rfl rfl rfl _ _
  unfold docP
  rw [hE]
  obtain ⟨E, hEE⟩ : ∃ E, E = envL l (enOf l) := ⟨_, rfl⟩
  have hen : E.en = (3, match (tks l 0).2 with | some a => a | none => l.length) := by rw [hEE]; rfl
  rw [← hEE]
  show (match run E ⟨1, [], []⟩ (sol l) with
    | .bad c a => NR.bad c a
    | .ok s => match (tks l 0).2 with
      | some a => .bad 3 a
      | none => if s.wd = 0 then .ok s.nd else .bad 3 l.length) = _
  obtain ⟨q1, q2⟩ := pv_run (E := E) (2 * (sol l).length + 2) 0 (sol l) ⟨1, [], []⟩ (.inl rfl) rfl (by omega) (fun a m S h => by cases h) (sol_sol l)
  have q3 := pv_in (E := E) (2 * (sol l).length + 2) 0 (sol l) (by omega)
  have hs := sol_sol l
  unfold doc
  cases hp : pv E (2 * (sol l).length + 2) 0 (sol l) with
  | out => exact absurd hp q3
  | bad c a =>
    simp only
    rcases q2 c a hp with h | ⟨s', h, hw, he⟩
    · rw [h]
    · rw [h]
      rw [hen] at he
      injection he with e1 e2
      subst e1
      cases hf : (tks l 0).2 with
      | some b => rw [hf] at e2; simp only at e2 ⊢; rw [e2]
      | none => rw [hf] at e2; simp only at e2 ⊢; rw [if_neg hw, e2]
  | ok v r =>
    rw [q1 v r hp]
    cases r with
    | nil =>
      simp only
      rw [run]
      cases hf : (tks l 0).2 with
      | some b => rfl
      | none => rfl
    | cons t r =>
      simp only
      have ht : t ∈ sol l := by
        obtain ⟨seg, e, _⟩ := pv_seg _ _ _ _ _ hp (by omega)
        rw [e]; exact List.mem_append_right _ (List.mem_cons_self ..)
      have hk := hs t ht
      have st : step E (St.val ⟨1, [], []⟩ v) t = .bad 3 t.2.1 := by
        obtain ⟨z, hz⟩ : ∃ z : St, z = St.val ⟨1, [], []⟩ v := ⟨_, rfl⟩
        have hw : z.wd = 0 := by rw [hz]; rfl
        rw [← hz]
        have b0 : ∀ m, z.begin_ t m = .bad 3 t.2.1 := fun m => by unfold St.begin_; rw [hw, if_pos (by decide)]
        unfold step St.end_
        rw [b0, b0, hw]
        by_cases k2 : t.1 = 2
        · rw [if_pos k2, if_pos (by decide)]
        rw [if_neg k2]
        by_cases k3 : t.1 = 3
        · rw [if_pos k3, if_pos (by decide)]
        rw [if_neg k3]
        by_cases k4 : t.1 = 4
        · rw [if_pos k4, if_pos (by decide)]
        rw [if_neg k4, if_pos (show t.1 = 1 by omega), if_pos (show (0 : Nat) &&& 4 = 0 by decide), if_pos (show (0 : Nat) &&& 8 = 0 by decide), if_pos (show (0 : Nat) &&& 16 = 0 by decide)]
        split
        · rfl
        · split
          · rfl
          · split
            · rfl
            · split <;> rfl
      rw [run_bad st]
/-! ### Bytes below 128 -/
theorem scn_low : ∀ (m : Nat) (l : Bs), l.length ≤ m → (∀ c ∈ l, c.toNat < 128) → U8.scn l = l.length := by
  intro m
  induction m with
  | zero =>
    intro l hl _
    cases l with
    | nil => exact U8.scn_stop U8.lng_nil
    | cons c r => simp at hl
  | succ m ih =>
    intro l hl h
    cases l with
    | nil => exact U8.scn_stop U8.lng_nil
    | cons c r =>
      have hc := h c (List.mem_cons_self ..)
      have hb : bt (c :: r) 0 = (c.toNat : Int) := rfl
      have hl1 : U8.lng (c :: r) = 1 := U8.lng_0 (by simp) (by
        rw [hb]
        unfold U8.bhd
        rw [if_pos]
        unfold U8.wth
        simp
        omega)
      rw [U8.scn_step (by rw [hl1]; decide), hl1]
      have := ih r (by simp at hl; omega) (fun d hd => h d (List.mem_cons_of_mem _ hd))
      show 1 + U8.scn r = _
      rw [this]; simp; omega
theorem nst_low : ∀ (ms : List Bool), ∀ c ∈ nst ms, c.toNat < 128
  | [], c, h => by
    rw [nst] at h
    rw [List.mem_singleton.1 h]; decide
  | false :: r, c, h => by
    rw [nst] at h
    rcases List.mem_cons.1 h with rfl | h
    · decide
    rcases List.mem_append.1 h with h | h
    · exact nst_low r c h
    · rw [List.mem_singleton.1 h]; decide
  | true :: r, c, h => by
    rw [nst] at h
    rcases List.mem_cons.1 h with rfl | h
    · decide
    rcases List.mem_cons.1 h with rfl | h
    · decide
    rcases List.mem_cons.1 h with rfl | h
    · decide
    rcases List.mem_cons.1 h with rfl | h
    · decide
    rcases List.mem_append.1 h with h | h
    · exact nst_low r c h
    · rw [List.mem_singleton.1 h]; decide
theorem tkN_solid : ∀ (ms : List Bool) (i : Nat), (tkN ms i).filter solid = tkN ms i
  | [], i => rfl
  | false :: r, i => by
    rw [tkN, List.filter_cons_of_pos (by rfl), List.filter_append, tkN_solid r]; rfl
  | true :: r, i => by
    rw [tkN, List.filter_cons_of_pos (by rfl), List.filter_cons_of_pos (by rfl), List.filter_cons_of_pos (by rfl), List.filter_append, tkN_solid r]; rfl
theorem rn_nought : ∃ s0, rnL [48] = .ok s0 := ⟨(De.rd [48]).1, by
  have : (De.rd [48]).2 = 0 := by decide +kernel
  unfold rnL; rw [if_pos this]⟩
theorem rq_empty : rqL [34, 34] = .ok [] := by
  have : Qu.rdq [34, 34] = .ok [] := by decide +kernel
  unfold rqL; rw [this]
/-- Deep ones: as many nodes as are open, and the nought; or the fault at the one that is too deep. -/
theorem parse_nst (ms : List Bool) : (ms.length ≤ 256 → ∃ nd, parseR (nst ms) = .ok nd ∧ nd.length = ms.length + 1) ∧ (256 < ms.length → parseR (nst ms) = .bad 4 (off 256 ms)) := by
  have hc : U8.chkOk (nst ms) = true := by
    unfold U8.chkOk
    rw [scn_low _ _ (Nat.le_refl _) (nst_low ms)]
    exact decide_eq_true rfl
  have hp : parseR (nst ms) = docP (envL (nst ms) (0, 0)) (tks (nst ms) 0).2 (tks (nst ms) 0).1 := by unfold parseR; rw [if_pos hc]
  rw [hp, docP_doc]
  obtain ⟨t1, t2⟩ := tks_nst (l := nst ms) ms 0 [] (by simp) rfl
  rw [tks_end (show (nst ms).length ≤ 0 + (nst ms).length by omega), List.append_nil] at t1
  rw [tks_end (show (nst ms).length ≤ 0 + (nst ms).length by omega)] at t2
  have hsol : sol (nst ms) = tkN ms 0 := by unfold sol; rw [t1]; exact tkN_solid ms 0
  rw [hsol, t2]
  obtain ⟨s0, hs0⟩ := rn_nought
  have key := pv_nst (E := envL (nst ms) (enOf (nst ms))) (s0 := s0) hs0 rq_empty ms 0 0 (2 * (tkN ms 0).length + 2) [] [] (by show (nst ms).drop 0 = _; simp) (by omega) (by omega)
  rw [List.append_nil, Nat.zero_add] at key
  refine ⟨fun h => ?_, fun h => ?_⟩
  · obtain ⟨v, q1, q2⟩ := key.1 h
    refine ⟨v.nds 0, ?_, by rw [JV.nds_len, q2]⟩
    unfold doc
    rw [q1]
  · have q := key.2 h
    unfold doc
    rw [q]
    simp
/-! ### The chapter's examples -/
abbrev exN : List Nd := [⟨8, [], [[97]], [(2, 5)], [1], (1, 18)⟩, ⟨7, [], [], [], [2, 3], (7, 17)⟩, ⟨2, [49, 101, 48], [], [], [], (8, 9)⟩, ⟨2, [50, 101, 48], [], [], [], (11, 16)⟩]
theorem ex0 : parseR [32, 123, 34, 97, 34, 58, 32, 91, 49, 44, 32, 50, 48, 101, 45, 49, 93, 125, 32] = .ok exN := by decide +kernel
theorem ex1 : parseR [123, 34, 97, 34, 58, 49, 44, 34, 97, 34, 58, 50, 125] = .bad 5 7 := by decide +kernel
theorem ex2 : parseR [91, 49, 44, 93] = .bad 3 3 := by decide +kernel
theorem ex3 : parseR [91, 49] = .bad 3 2 := by decide +kernel
theorem ex4 : parseR [] = .bad 3 0 := by decide +kernel
end Jt
end Go.Proofs.YtdclhepjoifpiaaGreatDoor
