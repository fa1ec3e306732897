/- A string as a list of units, and the reading of these (lists alone). -/
import Derived.Test.YtdclhepjoifpiaaGreatDoorAo
namespace Go.Proofs.YtdclhepjoifpiaaGreatDoor

namespace Qu
structure U where
  place : Nat
  long : Nat
  byte : Bool
  n : Nat
def unl (i : Nat) (l : List UInt8) : List U × Option Nat :=
  match _h : un l with
  | .bad k => ([], some (i + k))
  | .done [] => ([], none)
  | .done (_ :: _) => ([], some (i + 1))
  | .unit k (.byte b) r => (⟨i, k, true, b.toNat⟩ :: (unl (i + k) r).1, (unl (i + k) r).2)
  | .unit k (.rune n) r => (⟨i, k, false, n⟩ :: (unl (i + k) r).1, (unl (i + k) r).2)
termination_by l.length
decreasing_by all_goals (have := un_unit ‹_›; omega)
theorem unl_bad {l : List UInt8} {k : Nat} (i : Nat) (h : un l = .bad k) : unl i l = ([], some (i + k)) := by
  rw [unl]; split <;> rename_i h2 <;> rw [h] at h2 <;> cases h2 <;> rfl
theorem unl_end {l : List UInt8} (i : Nat) (h : un l = .done []) : unl i l = ([], none) := by
  rw [unl]; split <;> rename_i h2 <;> rw [h] at h2 <;> cases h2 <;> rfl
theorem unl_more {l r : List UInt8} {c : UInt8} (i : Nat) (h : un l = .done (c :: r)) : unl i l = ([], some (i + 1)) := by
  rw [unl]; split <;> rename_i h2 <;> rw [h] at h2 <;> cases h2 <;> rfl
theorem unl_byte {l r : List UInt8} {k : Nat} {b : UInt8} (i : Nat) (h : un l = .unit k (.byte b) r) : unl i l = (⟨i, k, true, b.toNat⟩ :: (unl (i + k) r).1, (unl (i + k) r).2) := by
  rw [unl]; split <;> rename_i h2 <;> rw [h] at h2 <;> cases h2 <;> rfl
theorem unl_rune {l r : List UInt8} {k n : Nat} (i : Nat) (h : un l = .unit k (.rune n) r) : unl i l = (⟨i, k, false, n⟩ :: (unl (i + k) r).1, (unl (i + k) r).2) := by
  rw [unl]; split <;> rename_i h2 <;> rw [h] at h2 <;> cases h2 <;> rfl
/-- Is a unit a high one, a low one? -/
def uh (u : U) : Bool := !u.byte && high u.n
def ul (u : U) : Bool := !u.byte && low u.n
def ulH : List U → Bool | [] => false | v :: _ => ul v
/-- One step of the reading: how many units, what they tell; or where a half of a pair stands. -/
def st : List U → Option (Nat × List UInt8 ⊕ Nat)
  | [] => none
  | u :: r => if u.byte = true then some (.inl (1, [UInt8.ofNat u.n])) else if uh u = true ∧ ulH r = true then some (.inl (2, pt (pair u.n (match r with | v :: _ => v.n | [] => 0))))
    else if uh u = true ∨ ul u = true then some (.inr u.place) else some (.inl (1, pt u.n))
theorem st_cons (u : U) (r : List U) : st (u :: r) = if u.byte = true then some (.inl (1, [UInt8.ofNat u.n])) else if uh u = true ∧ ulH r = true then some (.inl (2, pt (pair u.n (match r with | v :: _ => v.n | [] => 0))))
    else if uh u = true ∨ ul u = true then some (.inr u.place) else some (.inl (1, pt u.n)) := rfl
def rdu (us : List U) : Res :=
  match _h : st us with
  | none => .ok []
  | some (.inr a) => .bad true a
  | some (.inl (k, t)) => if 0 < k ∧ k ≤ us.length then (rdu (us.drop k)).pre 0 t else .ok []
termination_by us.length
decreasing_by simp; omega
theorem rdu_nil : rdu [] = .ok [] := by rw [rdu]; rfl
theorem rdu_bad {us : List U} {a : Nat} (h : st us = some (.inr a)) : rdu us = .bad true a := by
  rw [rdu]; split <;> rename_i h2 <;> rw [h] at h2 <;> cases h2 <;> rfl
theorem rdu_on {us : List U} {k : Nat} {t : List UInt8} (h : st us = some (.inl (k, t))) (h1 : 0 < k) (h2 : k ≤ us.length) : rdu us = (rdu (us.drop k)).pre 0 t := by
  rw [rdu]; split <;> rename_i h3 <;> rw [h] at h3 <;> cases h3; rw [if_pos ⟨h1, h2⟩]
/-- What the reading answers, with where the string is none. -/
def fin (r : Res) (e : Option Nat) : Res := match r with
  | .bad h a => .bad h a
  | .ok t => match e with | some a => .bad false a | none => .ok t
theorem fin_pre (r : Res) (e : Option Nat) (t : List UInt8) : fin (r.pre 0 t) e = (fin r e).pre 0 t := by
  cases r <;> cases e <;> simp [fin, Res.pre]
theorem fin_body : ∀ (N i : Nat) (m : List UInt8), m.length ≤ N → fin (rdu (unl i m).1) (unl i m).2 = (body m).pre i [] := fun N => by
  induction N with
  | zero =>
    intro i m hN
    obtain rfl := List.eq_nil_of_length_eq_zero (Nat.le_zero.1 hN)
    rw [unl_bad i (show un [] = .bad 0 from rfl), rdu_nil, body_nil]; rfl
  | succ N ih =>
    intro i m hN
    cases hu : un m with
    | bad k =>
      rw [unl_bad i hu, rdu_nil, body_stop (tok_bad hu)]; rfl
    | done x =>
      cases x with
      | nil => rw [unl_end i hu, rdu_nil, body_stop (show tok m = .stop (.ok []) by rw [tok, hu])]; rfl
      | cons c r => rw [unl_more i hu, rdu_nil, body_stop (show tok m = .stop (.bad false 1) by rw [tok, hu])]; rfl
    | unit k u r =>
      have hlen := un_unit hu
      have hi := ih (i + k) r (by omega)
      cases u with
      | byte b =>
        have hst : st (⟨i, k, true, b.toNat⟩ :: (unl (i + k) r).1) = some (.inl (1, [b])) := by simp [st]
        rw [unl_byte i hu, rdu_on hst (by omega) (by simp), fin_pre]
        simp only [List.drop_succ_cons, List.drop_zero]
        rw [hi, body_go (show tok m = .go k [b] r by rw [tok, hu]), pre_pre, pre_pre]
        simp
      | rune n =>
        rw [unl_rune i hu]
        cases hh : high n with
        | true =>
          have a1 : uh ⟨i, k, false, n⟩ = true := by simp [uh, hh]
          by_cases hp : ∃ k2 m2 r2, un r = .unit k2 (.rune m2) r2 ∧ low m2 = true
          · obtain ⟨k2, m2, r2, h2, hl2⟩ := hp
            have hlen2 := un_unit h2
            have hst : st (⟨i, k, false, n⟩ :: (unl (i + k) r).1) = some (.inl (2, pt (pair n m2))) := by
              rw [unl_rune (i + k) h2, st_cons, if_neg (by simp), if_pos ⟨a1, by simp [ulH, ul, hl2]⟩]
            rw [rdu_on hst (by omega) (by rw [unl_rune (i + k) h2]; simp), fin_pre, unl_rune (i + k) h2]
            simp only [List.drop_succ_cons, List.drop_zero]
            have ht : tok m = .go (k + k2) (pt (pair n m2)) r2 := by
              rw [tok, hu]; simp only [hh, if_true]; rw [h2]; simp only [hl2, if_true]
            generalize pt (pair n m2) = x at ht ⊢
            rw [ih (i + k + k2) r2 (by omega), body_go ht, pre_pre, pre_pre, Nat.zero_add, Nat.add_assoc, List.append_nil, List.nil_append]
          · have a2 : ulH (unl (i + k) r).1 = false := by
              cases hu2 : un r with
              | bad _ => rw [unl_bad _ hu2]; rfl
              | done x => cases x with
                | nil => rw [unl_end _ hu2]; rfl
                | cons _ _ => rw [unl_more _ hu2]; rfl
              | unit k2 u2 r2 => cases u2 with
                | byte _ => rw [unl_byte _ hu2]; rfl
                | rune m2 =>
                  rw [unl_rune _ hu2]
                  cases hl2 : low m2 with
                  | true => exact absurd ⟨k2, m2, r2, hu2, hl2⟩ hp
                  | false => simp [ulH, ul, hl2]
            have hst : st (⟨i, k, false, n⟩ :: (unl (i + k) r).1) = some (.inr i) := by
              rw [st_cons, if_neg (by simp), if_neg (by rw [a2]; simp), if_pos (.inl a1)]
            have ht : tok m = .stop (.bad true 0) := by
              rw [tok, hu]; simp only [hh, if_true]
              split
              · rename_i k2 m2 r2 e
                cases hl2 : low m2 with
                | true => exact absurd ⟨k2, m2, r2, e, hl2⟩ hp
                | false => rfl
              · rfl
            rw [rdu_bad hst, body_stop ht]; rfl
        | false =>
          have a1 : uh ⟨i, k, false, n⟩ = false := by simp [uh, hh]
          cases hl : low n with
          | true =>
            have hst : st (⟨i, k, false, n⟩ :: (unl (i + k) r).1) = some (.inr i) := by
              rw [st_cons, if_neg (by simp), if_neg (by rw [a1]; simp), if_pos (.inr (by simp [ul, hl]))]
            have ht : tok m = .stop (.bad true 0) := by rw [tok, hu]; simp [hh, hl]
            rw [rdu_bad hst, body_stop ht]; rfl
          | false =>
            have hst : st (⟨i, k, false, n⟩ :: (unl (i + k) r).1) = some (.inl (1, pt n)) := by
              rw [st_cons, if_neg (by simp), if_neg (by rw [a1]; simp), if_neg (by rw [a1]; simp [ul, hl])]
            have ht : tok m = .go k (pt n) r := by rw [tok, hu]; simp [hh, hl]
            generalize pt n = x at hst ht
            rw [rdu_on hst (by omega) (by simp), fin_pre]
            simp only [List.drop_succ_cons, List.drop_zero]
            rw [hi, body_go ht, pre_pre, pre_pre, Nat.zero_add, List.append_nil, List.nil_append]
/-- The units of a whole string. -/
def unq : List UInt8 → List U × Option Nat
  | 34 :: r => unl 1 r
  | _ => ([], some 0)
theorem fin_rdq (l : List UInt8) : fin (rdu (unq l).1) (unq l).2 = rdq l := by
  unfold unq rdq
  split
  · exact fin_body _ 1 _ (Nat.le_refl _)
  · rename_i h
    rw [rdu_nil]
    split
    · exact absurd rfl (h _)
    · rfl
end Qu
end Go.Proofs.YtdclhepjoifpiaaGreatDoor
