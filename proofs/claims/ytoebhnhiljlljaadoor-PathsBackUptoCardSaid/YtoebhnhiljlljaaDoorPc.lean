/- Paths as lists have them: a text is read, if it is one of a path. -/
import Derived.Test.YtoebhnhiljlljaaDoorPb
namespace Go.Proofs.YtoebhnhiljlljaaDoor
namespace Pa
/-- The number that digits tell, if it is no greater than may be. -/
def numF : Bs → Nat → Option Nat
  | [], a => some a
  | c :: r, a => if c < 48 ∨ 57 < c then none else if (9223372036854775807 - (c.toNat - 48)) / 10 < a then none else numF r (a * 10 + (c.toNat - 48))
def stepR : Bs → Option (St × Bs)
  | [] => none
  | c :: r => if c ≠ 47 ∧ c ≠ 91 then none else match showF r.length r with
    | none => none
    | some (w, q) => if c = 47 then some (⟨0, w, 0, []⟩, q) else match q with
      | [] => none
      | d :: q2 => if d = 61 then (match showF q2.length q2 with
          | none => none
          | some (i, q3) => (match q3 with
            | [] => none
            | e :: q4 => if e = 93 then some (⟨2, w, 0, i⟩, q4) else none))
        else match numF w 0 with
          | none => none
          | some n => if d = 93 then some (⟨1, [], (n : Nat), []⟩, q2) else none
def pathF : Nat → Bs → Option (List St)
  | _, [] => some []
  | 0, _ :: _ => none
  | f + 1, c :: r => match stepR (c :: r) with
    | none => none
    | some (x, q) => (pathF f q).map fun p => x :: p
def pR (s : Bs) : Option (List St) := if s = [46] then some [] else match pathF s.length s with
  | some p => if p ≠ [] ∧ pT p = s then some p else none
  | none => none
theorem fold_le (l : Bs) : ∀ a : Nat, a ≤ l.foldl (fun a c => a * 10 + (c.toNat - 48)) a := by
  induction l with
  | nil => exact fun a => Nat.le_refl a
  | cons c r ih => exact fun a => Nat.le_trans (by omega) (ih (a * 10 + (c.toNat - 48)))
theorem numF_of : ∀ (l : Bs) (a : Nat), (∀ c ∈ l, 48 ≤ c.toNat ∧ c.toNat ≤ 57) → l.foldl (fun a c => a * 10 + (c.toNat - 48)) a ≤ 9223372036854775807 → numF l a = some (l.foldl (fun a c => a * 10 + (c.toNat - 48)) a)
  | [], a, _, _ => rfl
  | c :: r, a, hc, hm => by
    have h1 := hc c (List.mem_cons_self ..)
    rw [List.foldl_cons] at hm ⊢
    have h2 := fold_le r (a * 10 + (c.toNat - 48))
    have h3 : ¬ (c < 48 ∨ 57 < c) := by
      rw [UInt8.lt_iff_toNat_lt, UInt8.lt_iff_toNat_lt]
      have e1 : (48 : UInt8).toNat = 48 := rfl
      have e2 : (57 : UInt8).toNat = 57 := rfl
      omega
    have h4 : ¬ ((9223372036854775807 - (c.toNat - 48)) / 10 < a) := by omega
    rw [numF, if_neg h3, if_neg h4]
    exact numF_of r _ (fun d hd => hc d (List.mem_cons_of_mem _ hd)) hm
theorem numF_digs {n : Nat} (h : n ≤ 9223372036854775807) : numF (digs n) 0 = some n := by
  have e : (digs n).foldl (fun a c => a * 10 + (c.toNat - 48)) 0 = n := digs_num n
  have := numF_of (digs n) 0 (digs_mem n) (by rw [e]; exact h)
  rwa [e] at this
/-- A step's text is read. -/
theorem stepR_txt {s : St} {q : Bs} (hs : s.may = true) (hp : s.pos ≤ 9223372036854775807) (hq : Nx0 q) : stepR (s.txt ++ q) = some (s, q) := by
  obtain ⟨_, s2, s3, s4, s5⟩ := may_of hs
  have m93 : ∀ l : Bs, (93 :: l = [] ∨ ∃ c r, 93 :: l = c :: r ∧ stop c = true) := fun l => .inr ⟨_, l, rfl, by decide⟩
  have m61 : ∀ l : Bs, (61 :: l = [] ∨ ∃ c r, 61 :: l = c :: r ∧ stop c = true) := fun l => .inr ⟨_, l, rfl, by decide⟩
  rcases kinds hs with k | k | k
  · rw [txt_key k, List.cons_append, stepR, if_neg (by decide), show_hide _ _ hq.stop _ (Nat.le_refl _)]
    simp only [if_pos]
    exact congrArg (fun x => some (x, q)) (st_ext (s := s) (u := ⟨0, s.text, 0, []⟩) k rfl (s3 (by omega)) (s5 (by omega))).symm
  · rw [txt_at k, List.cons_append, List.append_assoc, stepR, if_neg (by decide)]
    have h1 := show_hide (digs s.pos.toNat) (93 :: q) (m93 q) _ (Nat.le_refl _)
    rw [hide_digs] at h1
    rw [show digs s.pos.toNat ++ ([93] ++ q) = digs s.pos.toNat ++ 93 :: q from rfl, h1]
    have h2 := numF_digs (n := s.pos.toNat) (by omega)
    simp only [show ¬ ((91 : UInt8) = 47) by decide, show ¬ ((93 : UInt8) = 61) by decide, if_false, if_true, h2]
    exact congrArg (fun x => some (x, q)) (st_ext (s := s) (u := ⟨1, [], (s.pos.toNat : Nat), []⟩) k (s4 k) (by show s.pos = ((s.pos.toNat : Nat) : Int); omega) (s5 (by omega))).symm
  · rw [txt_id k, List.cons_append, List.append_assoc, stepR, if_neg (by decide)]
    have h1 := show_hide s.text (61 :: (hide s.id ++ [93] ++ q)) (m61 _) _ (Nat.le_refl _)
    have h2 := show_hide s.id (93 :: q) (m93 q) _ (Nat.le_refl _)
    rw [show hide s.text ++ (61 :: (hide s.id ++ [93]) ++ q) = hide s.text ++ 61 :: (hide s.id ++ [93] ++ q) from rfl, h1]
    simp only [show ¬ ((91 : UInt8) = 47) by decide, if_false, if_true]
    rw [show hide s.id ++ [93] ++ q = hide s.id ++ 93 :: q by simp, h2]
    simp only [if_true]
    exact congrArg (fun x => some (x, q)) (st_ext (s := s) (u := ⟨2, s.text, 0, s.id⟩) k rfl (s3 (by omega)) rfl).symm
theorem pathF_txt : ∀ (p : List St) (f : Nat), p.all St.may = true → (∀ s ∈ p, s.pos ≤ 9223372036854775807) → (p.flatMap St.txt).length ≤ f → pathF f (p.flatMap St.txt) = some p
  | [], f, _, _, _ => by cases f <;> rfl
  | s :: r, f, h, hp, hf => by
    rw [List.all_cons, Bool.and_eq_true] at h
    obtain ⟨c, q, e, hc⟩ := st_head h.1
    have h1 := stepR_txt h.1 (hp s (List.mem_cons_self ..)) (flat_nx h.2)
    rw [List.flatMap_cons] at hf ⊢
    rw [List.length_append] at hf
    have hl : 0 < s.txt.length := by rw [e]; simp
    obtain ⟨g, rfl⟩ : ∃ g, f = g + 1 := ⟨f - 1, by omega⟩
    have h2 := pathF_txt r g h.2 (fun x hx => hp x (List.mem_cons_of_mem _ hx)) (by omega)
    rw [e, List.cons_append] at h1 ⊢
    rw [pathF, h1]
    simp only [h2]
    rfl
/-- What is read has that text, and may be. -/
theorem pR_some {s : Bs} {p : List St} (h : pR s = some p) : pMay p = true ∧ pT p = s := by
  unfold pR at h
  split at h
  · next e =>
    injection h with h
    subst h
    exact ⟨by decide, by rw [e, pT_nil]⟩
  · split at h
    · split at h
      · next u hu hp =>
        injection h with h
        subst h
        refine ⟨?_, hp.2⟩
        cases hm : pMay u with
        | true => rfl
        | false =>
          have e := hp.2
          rw [pT_no hm] at e
          rw [← e] at hu
          cases hl : ([] : Bs).length with
          | zero => 
            rw [show ([] : Bs).length = 0 from rfl, pathF] at hu
            injection hu with hu
            exact absurd hu.symm hp.1
          | succ n => simp at hl
      · cases h
    · cases h
/-- Each path that may be is read from its text. -/
theorem pR_pT {p : List St} (h : pMay p = true) (hp : ∀ s ∈ p, s.pos ≤ 9223372036854775807) : pR (pT p) = some p := by
  obtain ⟨_, ha⟩ := pMay_all h
  cases p with
  | nil => rw [pT_nil]; rfl
  | cons s r =>
    have hne : pT (s :: r) ≠ [46] := fun e => by
      rw [pT_cons h] at e
      rw [List.all_cons, Bool.and_eq_true] at ha
      obtain ⟨c, q, e', hc⟩ := st_head ha.1
      rw [List.flatMap_cons, e'] at e
      have := (List.cons.inj e).1
      subst this
      rcases hc with hc | hc <;> exact absurd hc (by decide)
    unfold pR
    rw [if_neg hne]
    have h1 := pathF_txt (s :: r) (pT (s :: r)).length ha hp (by rw [pT_cons h]; exact Nat.le_refl _)
    rw [← pT_cons h] at h1
    rw [h1]
    simp
end Pa
end Go.Proofs.YtoebhnhiljlljaaDoor
