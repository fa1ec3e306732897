/- Paths as lists have them: no two that may be have one text; it is of one line; reading it. -/
import Derived.Test.YtoebhnhiljlljaaDoorPa
namespace Go.Proofs.YtoebhnhiljlljaaDoor
namespace Pa
/-- What may follow a step's text. -/
def Nx0 (q : Bs) : Prop := q = [] ∨ ∃ c r, q = c :: r ∧ (c = 47 ∨ c = 91)
theorem Nx0.stop {q : Bs} (h : Nx0 q) : q = [] ∨ ∃ c r, q = c :: r ∧ stop c = true := by
  rcases h with h | ⟨c, r, e, rfl | rfl⟩
  · exact .inl h
  · exact .inr ⟨_, r, e, by decide⟩
  · exact .inr ⟨_, r, e, by decide⟩
theorem may_of {s : St} (h : s.may = true) : s.kind ≤ 2 ∧ 0 ≤ s.pos ∧ (s.kind ≠ 1 → s.pos = 0) ∧ (s.kind = 1 → s.text = []) ∧ (s.kind ≠ 2 → s.id = []) := of_decide_eq_true h
theorem txt_key {s : St} (h : s.kind = 0) : s.txt = 47 :: hide s.text := by unfold St.txt; rw [h]; rfl
theorem txt_at {s : St} (h : s.kind = 1) : s.txt = 91 :: (digs s.pos.toNat ++ [93]) := by unfold St.txt; rw [h]; rfl
theorem txt_id {s : St} (h : s.kind = 2) : s.txt = 91 :: (hide s.text ++ 61 :: (hide s.id ++ [93])) := by unfold St.txt; rw [h]; rfl
theorem kinds {s : St} (h : s.may = true) : s.kind = 0 ∨ s.kind = 1 ∨ s.kind = 2 := by have := (may_of h).1; omega
theorem st_ext {s u : St} (h1 : s.kind = u.kind) (h2 : s.text = u.text) (h3 : s.pos = u.pos) (h4 : s.id = u.id) : s = u := by
  cases s; cases u; simp_all
theorem st_inj {s u : St} {q r : Bs} (hs : s.may = true) (hu : u.may = true) (hq : Nx0 q) (hr : Nx0 r) (h : s.txt ++ q = u.txt ++ r) : s = u ∧ q = r := by
  obtain ⟨_, s2, s3, s4, s5⟩ := may_of hs
  obtain ⟨_, u2, u3, u4, u5⟩ := may_of hu
  have m93 : ∀ l : Bs, (93 :: l = [] ∨ ∃ c r, 93 :: l = c :: r ∧ stop c = true) := fun l => .inr ⟨_, l, rfl, by decide⟩
  have m61 : ∀ l : Bs, (61 :: l = [] ∨ ∃ c r, 61 :: l = c :: r ∧ stop c = true) := fun l => .inr ⟨_, l, rfl, by decide⟩
  rcases kinds hs with k | k | k <;> rcases kinds hu with k' | k' | k'
  · rw [txt_key k, txt_key k', List.cons_append, List.cons_append] at h
    obtain ⟨h1, h2⟩ := hide_inj hq.stop hr.stop (List.cons.inj h).2
    exact ⟨st_ext (by omega) h1 (by rw [s3 (by omega), u3 (by omega)]) (by rw [s5 (by omega), u5 (by omega)]), h2⟩
  · rw [txt_key k, txt_at k', List.cons_append, List.cons_append] at h
    exact absurd (List.cons.inj h).1 (by decide)
  · rw [txt_key k, txt_id k', List.cons_append, List.cons_append] at h
    exact absurd (List.cons.inj h).1 (by decide)
  · rw [txt_at k, txt_key k', List.cons_append, List.cons_append] at h
    exact absurd (List.cons.inj h).1 (by decide)
  · rw [txt_at k, txt_at k', List.cons_append, List.cons_append, List.append_assoc, List.append_assoc, ← hide_digs, ← hide_digs u.pos.toNat] at h
    obtain ⟨h1, h2⟩ := hide_inj (m93 _) (m93 _) (List.cons.inj h).2
    have h3 := congrArg numR h1
    rw [digs_num, digs_num] at h3
    exact ⟨st_ext (by omega) (by rw [s4 k, u4 k']) (by omega) (by rw [s5 (by omega), u5 (by omega)]), (List.cons.inj h2).2⟩
  · rw [txt_at k, txt_id k', List.cons_append, List.cons_append, List.append_assoc, List.append_assoc, ← hide_digs] at h
    obtain ⟨_, h2⟩ := hide_inj (m93 _) (m61 _) (List.cons.inj h).2
    exact absurd (List.cons.inj h2).1 (by decide)
  · rw [txt_id k, txt_key k', List.cons_append, List.cons_append] at h
    exact absurd (List.cons.inj h).1 (by decide)
  · rw [txt_id k, txt_at k', List.cons_append, List.cons_append, List.append_assoc, List.append_assoc, ← hide_digs u.pos.toNat] at h
    obtain ⟨_, h2⟩ := hide_inj (m61 _) (m93 _) (List.cons.inj h).2
    exact absurd (List.cons.inj h2).1 (by decide)
  · rw [txt_id k, txt_id k', List.cons_append, List.cons_append, List.append_assoc, List.append_assoc] at h
    obtain ⟨h1, h2⟩ := hide_inj (m61 _) (m61 _) (List.cons.inj h).2
    have h2 : (hide s.id ++ [93]) ++ q = (hide u.id ++ [93]) ++ r := (List.cons.inj h2).2
    rw [List.append_assoc, List.append_assoc] at h2
    obtain ⟨h3, h4⟩ := hide_inj (m93 _) (m93 _) h2
    exact ⟨st_ext (by omega) h1 (by rw [s3 (by omega), u3 (by omega)]) h3, (List.cons.inj h4).2⟩
theorem st_head {s : St} (h : s.may = true) : ∃ c r, s.txt = c :: r ∧ (c = 47 ∨ c = 91) := by
  rcases kinds h with k | k | k
  · exact ⟨_, _, txt_key k, .inl rfl⟩
  · exact ⟨_, _, txt_at k, .inr rfl⟩
  · exact ⟨_, _, txt_id k, .inr rfl⟩
theorem flat_nx {p : List St} (h : p.all St.may = true) : Nx0 (p.flatMap St.txt) := by
  cases p with
  | nil => exact .inl rfl
  | cons s r =>
    rw [List.all_cons, Bool.and_eq_true] at h
    obtain ⟨c, q, e, hc⟩ := st_head h.1
    exact .inr ⟨c, q ++ r.flatMap St.txt, by rw [List.flatMap_cons, e]; rfl, hc⟩
theorem flat_inj : ∀ {p u : List St}, p.all St.may = true → u.all St.may = true → p.flatMap St.txt = u.flatMap St.txt → p = u
  | [], [], _, _, _ => rfl
  | [], s :: r, _, hu, h => by
    rw [List.all_cons, Bool.and_eq_true] at hu
    obtain ⟨c, q, e, hc⟩ := st_head hu.1
    rw [List.flatMap_cons, e] at h; cases h
  | s :: r, [], hp, _, h => by
    rw [List.all_cons, Bool.and_eq_true] at hp
    obtain ⟨c, q, e, hc⟩ := st_head hp.1
    rw [List.flatMap_cons, e] at h; cases h
  | s :: r, t :: q, hp, hu, h => by
    rw [List.all_cons, Bool.and_eq_true] at hp hu
    rw [List.flatMap_cons, List.flatMap_cons] at h
    obtain ⟨h1, h2⟩ := st_inj hp.1 hu.1 (flat_nx hp.2) (flat_nx hu.2) h
    rw [h1, flat_inj hp.2 hu.2 h2]
theorem pMay_all {p : List St} (h : pMay p = true) : p.length ≤ 512 ∧ p.all St.may = true := by
  unfold pMay at h
  rw [Bool.and_eq_true] at h
  exact ⟨of_decide_eq_true h.1, h.2⟩
theorem pT_cons {s : St} {r : List St} (h : pMay (s :: r) = true) : pT (s :: r) = (s :: r).flatMap St.txt := by unfold pT; rw [if_pos h, if_neg (by simp)]
theorem pT_nil : pT [] = [46] := by decide
theorem pT_no {p : List St} (h : pMay p = false) : pT p = [] := by unfold pT; rw [if_neg (by rw [h]; decide)]
/-- No two paths that may be have one text. -/
theorem pT_inj {p u : List St} (hp : pMay p = true) (hu : pMay u = true) (h : pT p = pT u) : p = u := by
  have a := (pMay_all hp).2
  have b := (pMay_all hu).2
  cases p with
  | nil =>
    cases u with
    | nil => rfl
    | cons s r =>
      rw [pT_nil, pT_cons hu] at h
      rw [List.all_cons, Bool.and_eq_true] at b
      obtain ⟨c, q, e, hc⟩ := st_head b.1
      rw [List.flatMap_cons, e] at h
      have := (List.cons.inj h).1
      subst this
      rcases hc with hc | hc <;> exact absurd hc (by decide)
  | cons s r =>
    cases u with
    | nil =>
      rw [pT_nil, pT_cons hp] at h
      rw [List.all_cons, Bool.and_eq_true] at a
      obtain ⟨c, q, e, hc⟩ := st_head a.1
      rw [List.flatMap_cons, e] at h
      have := (List.cons.inj h).1
      subst this
      rcases hc with hc | hc <;> exact absurd hc (by decide)
    | cons s' r' =>
      rw [pT_cons hp, pT_cons hu] at h
      exact flat_inj a b h
theorem pT_ne {p : List St} (h : pMay p = true) : pT p ≠ [] := by
  intro e
  cases p with
  | nil => rw [pT_nil] at e; cases e
  | cons s r =>
    have a := (pMay_all h).2
    rw [List.all_cons, Bool.and_eq_true] at a
    obtain ⟨c, q, e', hc⟩ := st_head a.1
    rw [pT_cons h, List.flatMap_cons, e'] at e; cases e
/-- A byte that stands in a line. -/
def lineC (c : UInt8) : Prop := 32 ≤ c ∧ c ≠ 127
theorem hex_line : ∀ c : UInt8, lineC (hexd (c / 16)) ∧ lineC (hexd (c % 16)) := by
  intro c
  have h : ∀ n : Fin 256, lineC (hexd (UInt8.ofNat n / 16)) ∧ lineC (hexd (UInt8.ofNat n % 16)) := by unfold lineC; decide +kernel
  have := h ⟨c.toNat, c.toNat_lt⟩
  simpa using this
theorem hide_line (t : Bs) : ∀ c ∈ hide t, lineC c := by
  intro c hc
  unfold hide at hc
  obtain ⟨d, _, hd⟩ := List.mem_flatMap.1 hc
  unfold esc at hd
  split at hd
  · simp only [List.mem_cons, List.not_mem_nil, or_false] at hd
    rcases hd with rfl | rfl | rfl
    · unfold lineC; decide
    · exact (hex_line d).1
    · exact (hex_line d).2
  · next hs =>
    obtain rfl : c = d := by simpa using hd
    have hs : spec c = false := by simpa using hs
    simp only [spec, Bool.or_eq_false_iff, beq_eq_false_iff_ne, decide_eq_false_iff_not] at hs
    exact ⟨by simpa [UInt8.not_lt] using hs.1.1.1.1.1.1, hs.1.1.1.1.1.2⟩
/-- A path's text is of one line. -/
theorem pT_line (p : List St) : ∀ c ∈ pT p, lineC c := by
  have hd : ∀ n, ∀ c ∈ digs n, lineC c := fun n => by rw [← hide_digs]; exact hide_line _
  have k : lineC 47 ∧ lineC 91 ∧ lineC 93 ∧ lineC 61 ∧ lineC 46 := by unfold lineC; decide
  intro c hc
  unfold pT at hc
  split at hc
  · split at hc
    · obtain rfl : c = 46 := by simpa using hc
      exact k.2.2.2.2
    · obtain ⟨s, _, hs⟩ := List.mem_flatMap.1 hc
      unfold St.txt at hs
      split at hs
      · rcases List.mem_cons.1 hs with rfl | hs
        · exact k.1
        · exact hide_line _ c hs
      · rcases List.mem_cons.1 hs with rfl | hs
        · exact k.2.1
        · rcases List.mem_append.1 hs with hs | hs
          · exact hd _ c hs
          · obtain rfl : c = 93 := by simpa using hs
            exact k.2.2.1
      · rcases List.mem_cons.1 hs with rfl | hs
        · exact k.2.1
        · rcases List.mem_append.1 hs with hs | hs
          · exact hide_line _ c hs
          · rcases List.mem_cons.1 hs with rfl | hs
            · exact k.2.2.2.1
            · rcases List.mem_append.1 hs with hs | hs
              · exact hide_line _ c hs
              · obtain rfl : c = 93 := by simpa using hs
                exact k.2.2.1
  · cases hc
end Pa
end Go.Proofs.YtoebhnhiljlljaaDoor
