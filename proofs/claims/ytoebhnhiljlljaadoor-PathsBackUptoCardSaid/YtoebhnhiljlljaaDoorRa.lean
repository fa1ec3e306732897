/- What landed of paths reads, as lists have it. -/
import Derived.Test.YtoebhnhiljlljaaDoorPc
namespace Go.Proofs.YtoebhnhiljlljaaDoor
namespace Pa
/-- As much as is a word. -/
def wd : Bs → Bs
  | [] => []
  | c :: r => if stop c = true then [] else c :: wd r
theorem wd_split : ∀ r : Bs, r = wd r ++ r.drop (wd r).length ∧ (r.drop (wd r).length = [] ∨ ∃ c s, r.drop (wd r).length = c :: s ∧ stop c = true)
  | [] => ⟨rfl, .inl rfl⟩
  | c :: r => by
    unfold wd
    split
    · next h => exact ⟨rfl, .inr ⟨c, r, rfl, h⟩⟩
    · have ih := wd_split r
      exact ⟨by rw [List.cons_append, List.length_cons, List.drop_succ_cons, ← ih.1], by rw [List.length_cons, List.drop_succ_cons]; exact ih.2⟩
theorem wd_app : ∀ {u q : Bs}, (∀ c ∈ u, stop c = false) → (q = [] ∨ ∃ c s, q = c :: s ∧ stop c = true) → wd (u ++ q) = u
  | [], q, _, h => by
    rcases h with rfl | ⟨c, s, rfl, h⟩
    · rfl
    · rw [List.nil_append, wd, if_pos h]
  | c :: u, q, hu, h => by
    rw [List.cons_append, wd, if_neg (by rw [hu c (List.mem_cons_self ..)]; decide), wd_app (fun d hd => hu d (List.mem_cons_of_mem _ hd)) h]
theorem hexd_stop : ∀ c : UInt8, stop (hexd (c / 16)) = false ∧ stop (hexd (c % 16)) = false := by
  intro c
  have h : ∀ n : Fin 256, stop (hexd (UInt8.ofNat n / 16)) = false ∧ stop (hexd (UInt8.ofNat n % 16)) = false := by decide +kernel
  have := h ⟨c.toNat, c.toNat_lt⟩
  simpa using this
theorem hide_nostop (t : Bs) : ∀ c ∈ hide t, stop c = false := by
  intro c hc
  unfold hide at hc
  obtain ⟨d, _, hd⟩ := List.mem_flatMap.1 hc
  unfold esc at hd
  split at hd
  · simp only [List.mem_cons, List.not_mem_nil, or_false] at hd
    rcases hd with rfl | rfl | rfl
    · decide
    · exact (hexd_stop d).1
    · exact (hexd_stop d).2
  · next hs =>
    obtain rfl : c = d := by simpa using hd
    exact (spec_stop (by simpa using hs)).1
/-- What is spelt so. -/
def uh (w : Bs) : Option Bs := match showF w.length w with
  | some (t, []) => if hide t = w then some t else none
  | _ => none
theorem uh_hide (t : Bs) : uh (hide t) = some t := by
  have h := show_hide t [] (.inl rfl) (hide t ++ []).length (Nat.le_refl _)
  rw [List.append_nil] at h
  unfold uh
  rw [h]
  simp
theorem uh_some {w t : Bs} (h : uh w = some t) : hide t = w := by
  unfold uh at h
  split at h
  · split at h
    · next e => injection h with h; rw [← h]; exact e
    · cases h
  · cases h
theorem uh_none {w : Bs} (h : uh w = none) (t : Bs) : hide t ≠ w := fun e => by rw [← e, uh_hide] at h; cases h
def wordL (m : UInt8) : Bs → Option (Bs × Bs)
  | [] => none
  | c :: r => if c = m then (uh (wd r)).map fun t => (t, r.drop (wd r).length) else none
theorem wordL_txt {m : UInt8} {t q : Bs} (hq : q = [] ∨ ∃ c s, q = c :: s ∧ stop c = true) : wordL m (m :: (hide t ++ q)) = some (t, q) := by
  rw [wordL, if_pos rfl, wd_app (hide_nostop t) hq, uh_hide]
  simp
theorem wordL_some {m : UInt8} {r t q : Bs} (h : wordL m r = some (t, q)) : r = m :: (hide t ++ q) ∧ (q = [] ∨ ∃ c s, q = c :: s ∧ stop c = true) := by
  unfold wordL at h
  split at h
  · cases h
  · next c r' =>
    split at h
    · next e =>
      obtain ⟨u, hu, e2⟩ := Option.map_eq_some_iff.1 h
      injection e2 with e2 e3
      subst e2
      have hw := wd_split r'
      rw [← e3, uh_some hu, e]
      exact ⟨by rw [← hw.1], hw.2⟩
    · cases h
theorem wordL_ne {m d : UInt8} {r : Bs} (h : d ≠ m) : wordL m (d :: r) = none := by rw [wordL, if_neg h]
/-- A place that is written so. -/
def nb (w : Bs) : Option Nat := match numF w 0 with
  | some n => if digs n = w then some n else none
  | none => none
theorem nb_digs {n : Nat} (h : n ≤ 9223372036854775807) : nb (digs n) = some n := by
  unfold nb; rw [numF_digs h]; simp
theorem numF_le : ∀ (l : Bs) (a n : Nat), a ≤ 9223372036854775807 → numF l a = some n → n ≤ 9223372036854775807
  | [], a, n, ha, h => by rw [numF] at h; injection h with h; omega
  | c :: r, a, n, ha, h => by
    rw [numF] at h
    split at h
    · cases h
    · split at h
      · cases h
      · next h1 h2 =>
        refine numF_le r _ n ?_ h
        have h3 : ¬ (c < 48 ∨ 57 < c) := h1
        rw [UInt8.lt_iff_toNat_lt, UInt8.lt_iff_toNat_lt] at h3
        have e1 : (48 : UInt8).toNat = 48 := rfl
        have e2 : (57 : UInt8).toNat = 57 := rfl
        omega
theorem nb_some {w : Bs} {n : Nat} (h : nb w = some n) : digs n = w ∧ n ≤ 9223372036854775807 := by
  unfold nb at h
  split at h
  · next m hm =>
    split at h
    · next e => injection h with h; subst h; exact ⟨e, numF_le _ _ _ (by decide) hm⟩
    · cases h
  · cases h
theorem nb_none {w : Bs} (h : nb w = none) {n : Nat} (hn : n ≤ 9223372036854775807) : digs n ≠ w := fun e => by rw [← e, nb_digs hn] at h; cases h
def closeL (x : St) (q : Bs) : Option (St × Bs) := match wordL 93 q with
  | some ([], q3) => some (x, q3)
  | _ => none
def stepL (r : Bs) : Option (St × Bs) := match wordL 47 r with
  | some (k, q) => some (⟨0, k, 0, []⟩, q)
  | none => match wordL 91 r with
    | none => none
    | some (t, q) => match wordL 61 q with
      | some (i, q2) => closeL ⟨2, t, 0, i⟩ q2
      | none => match nb t with
        | some n => closeL ⟨1, [], (n : Nat), []⟩ q
        | none => none
theorem closeL_some {x y : St} {q p : Bs} (h : closeL x q = some (y, p)) : y = x ∧ q = 93 :: p ∧ (p = [] ∨ ∃ c s, p = c :: s ∧ stop c = true) := by
  unfold closeL at h
  split at h
  · next q3 hw =>
    injection h with h
    injection h with h1 h2
    obtain ⟨e, hq⟩ := wordL_some hw
    subst h1 h2
    exact ⟨rfl, by rw [e]; rfl, hq⟩
  · cases h
theorem stepL_some {r q : Bs} {x : St} (h : stepL r = some (x, q)) : r = x.txt ++ q ∧ x.may = true ∧ x.pos ≤ 9223372036854775807 := by
  unfold stepL at h
  split at h
  · next k q' hw =>
    injection h with h
    injection h with h1 h2
    subst h1 h2
    exact ⟨by rw [(wordL_some hw).1, txt_key rfl]; rfl, by simp [St.may], by show (0 : Int) ≤ _; omega⟩
  · split at h
    · cases h
    · next t q' hw =>
      have e1 := (wordL_some hw).1
      split at h
      · next i q2 hw2 =>
        have e2 := (wordL_some hw2).1
        obtain ⟨rfl, e3, _⟩ := closeL_some h
        refine ⟨?_, by simp [St.may], by show (0 : Int) ≤ _; omega⟩
        rw [e1, e2, e3, txt_id rfl]
        simp
      · split at h
        · next n hn =>
          obtain ⟨rfl, e3, _⟩ := closeL_some h
          obtain ⟨e4, hn9⟩ := nb_some hn
          refine ⟨?_, by simp [St.may], by show ((n : Nat) : Int) ≤ _; omega⟩
          rw [e1, e3, txt_at rfl, ← e4, hide_digs]
          simp
        · cases h
theorem stepL_txt {x : St} {q : Bs} (hm : x.may = true) (hp : x.pos ≤ 9223372036854775807) (hq : Nx0 q) : stepL (x.txt ++ q) = some (x, q) := by
  obtain ⟨_, s2, s3, s4, s5⟩ := may_of hm
  have m93 : ∀ l : Bs, (93 :: l = [] ∨ ∃ c r, 93 :: l = c :: r ∧ stop c = true) := fun l => .inr ⟨_, l, rfl, by decide⟩
  have m61 : ∀ l : Bs, (61 :: l = [] ∨ ∃ c r, 61 :: l = c :: r ∧ stop c = true) := fun l => .inr ⟨_, l, rfl, by decide⟩
  have close : ∀ y : St, closeL y (93 :: q) = some (y, q) := fun y => by
    have h := wordL_txt (m := 93) (t := []) hq.stop
    have e : (hide [] ++ q : Bs) = q := rfl
    rw [e] at h
    unfold closeL
    rw [h]
  rcases kinds hm with k | k | k
  · rw [txt_key k, List.cons_append]
    unfold stepL
    rw [wordL_txt hq.stop]
    exact congrArg (fun y => some (y, q)) (st_ext (s := x) (u := ⟨0, x.text, 0, []⟩) k rfl (s3 (by omega)) (s5 (by omega))).symm
  · rw [txt_at k, List.cons_append, List.append_assoc]
    unfold stepL
    rw [wordL_ne (by decide)]
    have h1 := wordL_txt (m := 91) (t := digs x.pos.toNat) (m93 q)
    rw [hide_digs] at h1
    rw [show digs x.pos.toNat ++ ([93] ++ q) = digs x.pos.toNat ++ 93 :: q from rfl, h1]
    dsimp only
    rw [wordL_ne (by decide), nb_digs (by omega)]
    dsimp only
    rw [close]
    exact congrArg (fun y => some (y, q)) (st_ext (s := x) (u := ⟨1, [], (x.pos.toNat : Nat), []⟩) k (s4 k) (by show x.pos = ((x.pos.toNat : Nat) : Int); omega) (s5 (by omega))).symm
  · rw [txt_id k, List.cons_append, List.append_assoc]
    unfold stepL
    rw [wordL_ne (by decide)]
    have h1 := wordL_txt (m := 91) (t := x.text) (m61 (hide x.id ++ 93 :: q))
    rw [show hide x.text ++ (61 :: (hide x.id ++ [93]) ++ q) = hide x.text ++ 61 :: (hide x.id ++ 93 :: q) by simp, h1]
    dsimp only
    rw [wordL_txt (m93 q)]
    dsimp only
    rw [close]
    exact congrArg (fun y => some (y, q)) (st_ext (s := x) (u := ⟨2, x.text, 0, x.id⟩) k rfl (s3 (by omega)) rfl).symm
/-- As many steps as there may be. -/
def pathL : Nat → Bs → Option (List St)
  | _, [] => some []
  | 0, _ :: _ => none
  | f + 1, c :: r => match stepL (c :: r) with
    | none => none
    | some (x, q) => (pathL f q).map fun p => x :: p
def pL (s : Bs) : Option (List St) := if s = [46] then some [] else match pathL 512 s with
  | some p => if p ≠ [] then some p else none
  | none => none
theorem pathL_some : ∀ {f : Nat} {r : Bs} {p : List St}, pathL f r = some p → r = p.flatMap St.txt ∧ p.all St.may = true ∧ (∀ s ∈ p, s.pos ≤ 9223372036854775807) ∧ p.length ≤ f
  | f, [], p, h => by
    have h : some ([] : List St) = some p := by cases f <;> exact h
    injection h with h
    subst h
    exact ⟨rfl, rfl, fun s hs => (by cases hs), Nat.zero_le _⟩
  | 0, c :: r, p, h => by cases h
  | f + 1, c :: r, p, h => by
    rw [pathL] at h
    split at h
    · cases h
    · next x q hx =>
      obtain ⟨p', hp', e⟩ := Option.map_eq_some_iff.1 h
      subst e
      obtain ⟨h1, h2, h3⟩ := stepL_some hx
      obtain ⟨i1, i2, i3, i4⟩ := pathL_some hp'
      refine ⟨by rw [h1, List.flatMap_cons, ← i1], by rw [List.all_cons, h2, i2]; rfl, fun s hs => ?_, by rw [List.length_cons]; omega⟩
      rcases List.mem_cons.1 hs with rfl | hs
      · exact h3
      · exact i3 s hs
theorem pathL_txt : ∀ (p : List St) (f : Nat), p.all St.may = true → (∀ s ∈ p, s.pos ≤ 9223372036854775807) → p.length ≤ f → pathL f (p.flatMap St.txt) = some p
  | [], f, _, _, _ => by cases f <;> rfl
  | s :: r, f, h, hp, hf => by
    rw [List.all_cons, Bool.and_eq_true] at h
    obtain ⟨c, q, e, hc⟩ := st_head h.1
    have h1 := stepL_txt h.1 (hp s (List.mem_cons_self ..)) (flat_nx h.2)
    rw [List.length_cons] at hf
    obtain ⟨g, rfl⟩ : ∃ g, f = g + 1 := ⟨f - 1, by omega⟩
    have h2 := pathL_txt r g h.2 (fun x hx => hp x (List.mem_cons_of_mem _ hx)) (by omega)
    rw [List.flatMap_cons]
    rw [e, List.cons_append] at h1 ⊢
    rw [pathL, h1]
    simp only [h2]
    rfl
theorem pL_some {s : Bs} {p : List St} (h : pL s = some p) : pMay p = true ∧ pT p = s ∧ ∀ x ∈ p, x.pos ≤ 9223372036854775807 := by
  unfold pL at h
  split at h
  · next e =>
    injection h with h
    subst h
    exact ⟨by decide, by rw [e, pT_nil], fun s hs => (by cases hs)⟩
  · split at h
    · next p' hp' =>
      split at h
      · next hne =>
        injection h with h
        subst h
        obtain ⟨h1, h2, h3, h4⟩ := pathL_some hp'
        have hm : pMay p' = true := by unfold pMay; rw [h2, decide_eq_true h4]; rfl
        refine ⟨hm, ?_, h3⟩
        cases p' with
        | nil => exact absurd rfl hne
        | cons a b => rw [pT_cons hm, h1]
      · cases h
    · cases h
theorem pL_pT {p : List St} (h : pMay p = true) (hp : ∀ s ∈ p, s.pos ≤ 9223372036854775807) : pL (pT p) = some p := by
  obtain ⟨hl, ha⟩ := pMay_all h
  cases p with
  | nil => rw [pT_nil]; rfl
  | cons s r =>
    have hne : pT (s :: r) ≠ [46] := fun e => by
      rw [pT_cons h] at e
      rw [List.all_cons, Bool.and_eq_true] at ha
      obtain ⟨c, q, e', hc⟩ := st_head ha.1
      rw [List.flatMap_cons, e'] at e
      have := (List.cons.inj e).1
      subst this
      rcases hc with hc | hc <;> exact absurd hc (by decide)
    unfold pL
    rw [if_neg hne]
    have h1 := pathL_txt (s :: r) 512 ha hp hl
    rw [← pT_cons h] at h1
    rw [h1]
    simp
end Pa
end Go.Proofs.YtoebhnhiljlljaaDoor
