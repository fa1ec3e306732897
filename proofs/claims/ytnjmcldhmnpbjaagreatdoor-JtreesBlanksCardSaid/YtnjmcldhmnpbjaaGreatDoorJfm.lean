/- JSON documents as lists: tokens of the same kinds and bytes, wherever they stand, are the same document, but for places. -/
import Derived.Test.YtnjmcldhmnpbjaaGreatDoorBj
namespace Go.Proofs.YtnjmcldhmnpbjaaGreatDoor
open Go.RowKit
namespace Jt

mutual
/-- A value without its places. -/
def JV.bare : JV → JV
  | .sc k t _ => .sc k t (0, 0)
  | .box m _ is => .box m (0, 0) is.bare
def JI.bare : JI → JI
  | .nil => .nil
  | .cons k _ v r => .cons k (0, 0) v.bare r.bare
end
/-- What tokens say: their kinds and bytes. -/
def say (E : Env) (T : List Tok) : List (Nat × Bs) := T.map fun t => (t.1, E.by t)
/-- Both answers are alike. -/
def Both {α : Type} (E E' : Env) (R : α → α → Prop) : PR α → PR α → Prop
  | .ok a r, .ok a' r' => R a a' ∧ say E r = say E' r'
  | .bad c _, .bad c' _ => c = c'
  | .out, .out => True
  | _, _ => False
structure Sames (E E' : Env) : Prop where
  rq : E'.rq = E.rq
  rn : E'.rn = E.rn
  en : E'.en.1 = E.en.1
section
variable {E E' : Env} (H : Sames E E')
theorem say_nil {T' : List Tok} (h : say E [] = say E' T') : T' = [] := by
  cases T' with
  | nil => rfl
  | cons t r => cases h
theorem say_cons {t : Tok} {r T' : List Tok} (h : say E (t :: r) = say E' T') : ∃ t' r', T' = t' :: r' ∧ t.1 = t'.1 ∧ E.by t = E'.by t' ∧ say E r = say E' r' := by
  cases T' with
  | nil => cases h
  | cons t' r' =>
    unfold say at h
    rw [List.map_cons, List.map_cons] at h
    injection h with h1 h2
    injection h1 with h3 h4
    exact ⟨t', r', rfl, h3, h4, h2⟩
theorem mk_same {t t' : Tok} (h1 : t.1 = t'.1) (h2 : E.by t = E'.by t') (c : Int) : E.mk? t c = E'.mk? t' c := by
  unfold Env.mk?; rw [h1, h2]
include H
theorem comma_like {first : Bool} {T T' : List Tok} (h : say E T = say E' T') : Both E E' (fun _ _ => True) (comma E first T) (comma E' first T') := by
  unfold comma
  split
  · exact ⟨trivial, h⟩
  · cases T with
    | nil => rw [say_nil h]; exact H.en.symm
    | cons t r =>
      obtain ⟨t', r', rfl, h1, h2, h3⟩ := say_cons h
      simp only
      rw [mk_same h1 h2]
      split
      · exact ⟨trivial, h3⟩
      · exact rfl
theorem entry_like {m : Bool} {ks : List Bs} {T T' : List Tok} (h : say E T = say E' T') : Both E E' (fun a a' => a.1 = a'.1) (entry E m ks T) (entry E' m ks T') := by
  unfold entry
  split
  · exact ⟨rfl, h⟩
  · cases T with
    | nil => rw [say_nil h]; exact H.en.symm
    | cons t r =>
      obtain ⟨t', r', rfl, h1, h2, h3⟩ := say_cons h
      simp only
      rw [h1, h2, H.rq]
      split
      · cases E.rq (E'.by t') with
        | error x => exact rfl
        | ok s =>
          simp only
          split
          · exact rfl
          · cases r with
            | nil => rw [say_nil h3]; exact H.en.symm
            | cons u r2 =>
              obtain ⟨u', r2', rfl, g1, g2, g3⟩ := say_cons h3
              simp only
              rw [mk_same g1 g2]
              split
              · exact ⟨rfl, g3⟩
              · exact rfl
      · exact rfl
mutual
theorem pv_like : ∀ (f d : Nat) (T T' : List Tok), say E T = say E' T' → Both E E' (fun v v' => v.bare = v'.bare) (pv E f d T) (pv E' f d T')
  | 0, _, _, _, _ => by rw [pv, pv]; trivial
  | f + 1, d, [], T', h => by rw [say_nil h, pv, pv]; exact H.en.symm
  | f + 1, d, t :: T, T', h => by
    obtain ⟨t', r', rfl, h1, h2, h3⟩ := say_cons h
    rw [pv, pv, h1, h2, H.rn, H.rq, mk_same h1 h2 91, mk_same h1 h2 123]
    split
    · split <;> exact ⟨rfl, h3⟩
    · split
      · cases E.rn (E'.by t') with
        | error c => exact rfl
        | ok s => exact ⟨rfl, h3⟩
      · split
        · cases E.rq (E'.by t') with
          | error x => exact rfl
          | ok s => exact ⟨rfl, h3⟩
        · split
          · split
            · exact rfl
            · have hp := pl_like f d (E'.mk? t' 123) true [] T r' h3
              cases h5 : pl E f d (E'.mk? t' 123) true [] T with
              | ok a r2 =>
                cases h6 : pl E' f d (E'.mk? t' 123) true [] r' with
                | ok a' r2' =>
                  rw [h5, h6] at hp
                  exact ⟨by simp only [JV.bare]; rw [hp.1], hp.2⟩
                | bad c x => rw [h5, h6] at hp; exact hp.elim
                | out => rw [h5, h6] at hp; exact hp.elim
              | bad c x =>
                cases h6 : pl E' f d (E'.mk? t' 123) true [] r' with
                | ok a' r2' => rw [h5, h6] at hp; exact hp.elim
                | bad c' x' => rw [h5, h6] at hp; exact hp
                | out => rw [h5, h6] at hp; exact hp.elim
              | out =>
                cases h6 : pl E' f d (E'.mk? t' 123) true [] r' with
                | ok a' r2' => rw [h5, h6] at hp; exact hp.elim
                | bad c' x' => rw [h5, h6] at hp; exact hp.elim
                | out => trivial
          · exact rfl
theorem pl_like : ∀ (f d : Nat) (m first : Bool) (ks : List Bs) (T T' : List Tok), say E T = say E' T' → Both E E' (fun a a' => a.1.bare = a'.1.bare) (pl E f d m first ks T) (pl E' f d m first ks T')
  | 0, _, _, _, _, _, _, _ => by rw [pl, pl]; trivial
  | f + 1, d, m, first, ks, [], T', h => by rw [say_nil h, pl, pl]; exact H.en.symm
  | f + 1, d, m, first, ks, t :: T, T', h => by
    obtain ⟨t', r', rfl, h1, h2, h3⟩ := say_cons h
    rw [pl, pl, mk_same h1 h2]
    split
    · exact ⟨rfl, h3⟩
    · have hc := comma_like H (first := first) h
      cases h5 : comma E first (t :: T) with
      | bad c x =>
        cases h6 : comma E' first (t' :: r') with
        | bad c' x' => rw [h5, h6] at hc; exact hc
        | ok a r => rw [h5, h6] at hc; exact hc.elim
        | out => rw [h5, h6] at hc; exact hc.elim
      | out => exact absurd h5 comma_out
      | ok u T1 =>
        cases h6 : comma E' first (t' :: r') with
        | bad c' x' => rw [h5, h6] at hc; exact hc.elim
        | out => exact absurd h6 comma_out
        | ok u' T1' =>
          rw [h5, h6] at hc
          simp only
          have he := entry_like H (m := m) (ks := ks) hc.2
          cases h7 : entry E m ks T1 with
          | bad c x =>
            cases h8 : entry E' m ks T1' with
            | bad c' x' => rw [h7, h8] at he; exact he
            | ok a r => rw [h7, h8] at he; exact he.elim
            | out => rw [h7, h8] at he; exact he.elim
          | out => exact absurd h7 entry_out
          | ok a T2 =>
            cases h8 : entry E' m ks T1' with
            | bad c' x' => rw [h7, h8] at he; exact he.elim
            | out => exact absurd h8 entry_out
            | ok a' T2' =>
              rw [h7, h8] at he
              simp only
              have e1 : a.1 = a'.1 := he.1
              have hv := pv_like f (d + 1) T2 T2' he.2
              cases h9 : pv E f (d + 1) T2 with
              | bad c x =>
                cases h10 : pv E' f (d + 1) T2' with
                | bad c' x' => rw [h9, h10] at hv; exact hv
                | ok a r => rw [h9, h10] at hv; exact hv.elim
                | out => rw [h9, h10] at hv; exact hv.elim
              | out =>
                cases h10 : pv E' f (d + 1) T2' with
                | bad c' x' => rw [h9, h10] at hv; exact hv.elim
                | ok a r => rw [h9, h10] at hv; exact hv.elim
                | out => trivial
              | ok v T3 =>
                cases h10 : pv E' f (d + 1) T2' with
                | bad c' x' => rw [h9, h10] at hv; exact hv.elim
                | out => rw [h9, h10] at hv; exact hv.elim
                | ok v' T3' =>
                  rw [h9, h10] at hv
                  simp only
                  rw [e1]
                  have hl := pl_like f d m false (ks ++ [a'.1]) T3 T3' hv.2
                  cases h11 : pl E f d m false (ks ++ [a'.1]) T3 with
                  | bad c x =>
                    cases h12 : pl E' f d m false (ks ++ [a'.1]) T3' with
                    | bad c' x' => rw [h11, h12] at hl; exact hl
                    | ok a r => rw [h11, h12] at hl; exact hl.elim
                    | out => rw [h11, h12] at hl; exact hl.elim
                  | out =>
                    cases h12 : pl E' f d m false (ks ++ [a'.1]) T3' with
                    | bad c' x' => rw [h11, h12] at hl; exact hl.elim
                    | ok a r => rw [h11, h12] at hl; exact hl.elim
                    | out => trivial
                  | ok b T4 =>
                    cases h12 : pl E' f d m false (ks ++ [a'.1]) T3' with
                    | bad c' x' => rw [h11, h12] at hl; exact hl.elim
                    | out => rw [h11, h12] at hl; exact hl.elim
                    | ok b' T4' =>
                      rw [h11, h12] at hl
                      exact ⟨by simp only [JI.bare]; rw [hv.1, hl.1], hl.2⟩
end
end
end Jt
end Go.Proofs.YtnjmcldhmnpbjaaGreatDoor
