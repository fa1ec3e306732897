/- JSON documents as lists: what is known between two tokens stays as the parser can be. -/
import Derived.Test.YtggeiajbcehkjaaGreatDoorGag
namespace Go.Proofs.YtggeiajbcehkjaaGreatDoor
open Go.RowKit
namespace Jt
theorem Wf.more {n m : Nat} {s : St} (h : Wf n s) (hm : n ≤ m) : Wf m s :=
  ⟨h.wd, h.at_, h.once, h.deep, h.top, h.key, Nat.le_trans h.few.1 hm, fun x hx => ⟨Nat.le_trans (h.few.2 x hx).1 hm, Nat.le_trans (h.few.2 x hx).2.1 hm, Nat.le_trans (h.few.2 x hx).2.2 hm⟩⟩
theorem Wf.start : Wf 0 ⟨1, [], []⟩ := ⟨by decide, fun p h => (by cases h), List.Pairwise.nil, by decide, fun _ h => absurd rfl h, fun h => absurd rfl h, Nat.le_refl _, fun x h => (by cases h)⟩
theorem modify_mem {X : List Nd} {a : Nat} {f : Nd → Nd} {y : Nd} (h : y ∈ X.modify a f) : y ∈ X ∨ ∃ x ∈ X, y = f x := by
  obtain ⟨i, hi⟩ := List.mem_iff_getElem?.1 h
  rw [List.getElem?_modify] at hi
  cases hx : X[i]? with
  | none => rw [hx] at hi; cases hi
  | some x =>
    rw [hx] at hi
    have hm := List.mem_of_getElem? hx
    by_cases e : a = i
    · have : some (if a = i then f x else x) = some y := hi
      rw [if_pos e] at this; injection this with this
      exact .inr ⟨x, hm, this.symm⟩
    · have : some (if a = i then f x else x) = some y := hi
      rw [if_neg e] at this; injection this with this
      exact .inl (this ▸ hm)
theorem goW_cases (S : List (Nat × Bool)) : (S = [] ∧ goW S = 0) ∨ (S ≠ [] ∧ goW S = 24) := by
  cases S with
  | nil => exact .inl ⟨rfl, rfl⟩
  | cons p S => exact .inr ⟨by simp, rfl⟩
theorem few_top {n : Nat} {S : List (Nat × Bool)} {X : List Nd} (h : X.length ≤ n ∧ ∀ x ∈ X, x.keys.length ≤ n ∧ x.spots.length ≤ n ∧ x.subs.length ≤ n) {n0 : Nd} (h0 : n0.keys = [] ∧ n0.spots = [] ∧ n0.subs = []) :
    (topSub S X ++ [n0]).length ≤ n + 1 ∧ ∀ x ∈ topSub S X ++ [n0], x.keys.length ≤ n + 1 ∧ x.spots.length ≤ n + 1 ∧ x.subs.length ≤ n + 1 := by
  refine ⟨by rw [List.length_append, topSub_len]; simp; omega, fun x hx => ?_⟩
  rcases List.mem_append.1 hx with hx | hx
  · have hc : x ∈ X ∨ ∃ y ∈ X, x = Nd.addSub X.length y := by
      unfold topSub at hx
      split at hx
      · exact .inl hx
      · exact modify_mem hx
    rcases hc with hx | ⟨y, hy, rfl⟩
    · have := h.2 x hx; omega
    · have := h.2 y hy
      simp only [Nd.addSub, List.length_append, List.length_cons, List.length_nil]; omega
  · obtain rfl : x = n0 := by simpa using hx
    rw [h0.1, h0.2.1, h0.2.2]; simp
theorem few_mod {n a : Nat} {X : List Nd} {f : Nd → Nd} (h : X.length ≤ n ∧ ∀ x ∈ X, x.keys.length ≤ n ∧ x.spots.length ≤ n ∧ x.subs.length ≤ n)
    (hf : ∀ x, (f x).keys.length ≤ x.keys.length + 1 ∧ (f x).spots.length ≤ x.spots.length + 1 ∧ (f x).subs.length ≤ x.subs.length + 1) :
    (X.modify a f).length ≤ n + 1 ∧ ∀ x ∈ X.modify a f, x.keys.length ≤ n + 1 ∧ x.spots.length ≤ n + 1 ∧ x.subs.length ≤ n + 1 := by
  refine ⟨by rw [List.length_modify]; omega, fun x hx => ?_⟩
  rcases modify_mem hx with hx | ⟨y, hy, rfl⟩
  · have := h.2 x hx; omega
  · have := h.2 y hy; have := hf y; omega
theorem Wf.leaf {n : Nat} {s : St} {t : Tok} {k : Nat} {x : Bs} (h : Wf n s) : Wf (n + 1) (s.leaf t k x) := by
  refine ⟨?_, fun p hp => ?_, h.once, h.deep, fun h0 _ => ?_, fun hk => ?_, few_top h.few ⟨rfl, rfl, rfl⟩⟩
  · show goW s.sk < 32
    rcases goW_cases s.sk with ⟨_, e⟩ | ⟨_, e⟩ <;> (rw [e]; decide)
  · have := h.at_ p hp
    show p.1 < (topSub s.sk s.nd ++ _).length
    rw [List.length_append, topSub_len]; omega
  · rcases goW_cases s.sk with ⟨_, e⟩ | ⟨e, _⟩
    · exact absurd e h0
    · exact e
  · have hk' : goW s.sk &&& 2 ≠ 0 := hk
    rcases goW_cases s.sk with ⟨_, e⟩ | ⟨_, e⟩ <;> (rw [e] at hk'; exact absurd rfl hk')
theorem Wf.step {E : Env} {n : Nat} {s s' : St} {t : Tok} (h : Wf n s) (e : Jt.step E s t = .ok s') : Wf (n + 1) s' := by
  have hb : ∀ m, s.begin_ t m = .ok s' → Wf (n + 1) s' := fun m e => by
    unfold St.begin_ at e
    split at e
    · cases e
    · split at e
      · cases e
      · rename_i hd
        injection e with e
        subst e
        refine ⟨by show firstM m + 16 < 32; cases m <;> decide, fun p hp => ?_, ?_, ?_, fun _ _ => by simp, fun hk => ?_, few_top h.few ⟨rfl, rfl, rfl⟩⟩
        · show p.1 < (topSub s.sk s.nd ++ _).length
          rw [List.length_append, topSub_len]
          rcases List.mem_cons.1 hp with rfl | hp
          · simp
          · have := h.at_ p hp; omega
        · refine List.nodup_cons.2 ⟨fun hm => ?_, h.once⟩
          obtain ⟨p, hp, e⟩ := List.mem_map.1 hm
          have := h.at_ p hp; omega
        · have := h.deep
          show (_ :: s.sk).length ≤ 256
          rw [List.length_cons]; omega
        · cases m with
          | true => exact ⟨_, _, rfl⟩
          | false => exact absurd (show (firstM false + 16) &&& 2 = 0 from rfl) hk
  have he : s.end_ E t = .ok s' → Wf (n + 1) s' := fun e => by
    unfold St.end_ at e
    split at e
    · cases e
    · split at e
      · cases e
      · rename_i a m S hsk
        split at e
        · injection e with e
          subst e
          refine ⟨?_, fun p hp => ?_, ?_, ?_, fun h0 _ => ?_, fun hk => ?_, few_mod h.few fun x => ⟨Nat.le_succ _, Nat.le_succ _, Nat.le_succ _⟩⟩
          · show goW S < 32
            rcases goW_cases S with ⟨_, e⟩ | ⟨_, e⟩ <;> (rw [e]; decide)
          · show p.1 < (s.nd.modify _ _).length
            rw [List.length_modify]
            exact h.at_ p (by rw [hsk]; exact List.mem_cons_of_mem _ hp)
          · have := h.once; rw [hsk] at this; exact (List.nodup_cons.1 this).2
          · have := h.deep; rw [hsk, List.length_cons] at this
            show S.length ≤ 256
            omega
          · rcases goW_cases S with ⟨_, e⟩ | ⟨e, _⟩
            · exact absurd e h0
            · exact e
          · have hk' : goW S &&& 2 ≠ 0 := hk
            rcases goW_cases S with ⟨_, e⟩ | ⟨_, e⟩ <;> (rw [e] at hk'; exact absurd rfl hk')
        · cases e
  unfold Jt.step at e
  split at e
  · split at e
    · cases e
    · split at e <;> (injection e with e; subst e; exact h.leaf)
  · split at e
    · split at e
      · cases e
      · split at e
        · cases e
        · injection e with e; subst e; exact h.leaf
    · split at e
      · split at e
        · cases e
        · split at e
          · cases e
          · split at e
            · injection e with e; subst e; exact h.leaf
            · rename_i hk2
              unfold St.key at e
              split at e
              · cases e
              · rename_i a m S hsk
                split at e
                · cases e
                · injection e with e
                  subst e
                  refine ⟨by show 4 < 32; decide, fun p hp => ?_, h.once, h.deep, fun _ _ => by rw [hsk]; simp, fun hk => absurd (show (4 : Nat) &&& 2 = 0 from rfl) hk, few_mod h.few fun x => ⟨by simp [Nd.addKey], by simp [Nd.addKey], Nat.le_succ _⟩⟩
                  show p.1 < (s.nd.modify _ _).length
                  rw [List.length_modify]; exact h.at_ p hp
      · split at e
        · split at e
          · exact hb _ e
          · split at e
            · exact hb _ e
            · split at e
              · split at e
                · cases e
                · injection e with e
                  subst e
                  exact ⟨by show 1 < 32; decide, h.at_, h.once, h.deep, fun _ h1 => absurd rfl h1, fun hk => absurd (show (1 : Nat) &&& 2 = 0 from rfl) hk, (h.more (Nat.le_succ _)).few⟩
              · split at e
                · split at e
                  · cases e
                  · rename_i h8
                    injection e with e
                    subst e
                    have hne : s.sk ≠ [] := h.top (fun e0 => h8 (by rw [e0]; rfl)) (fun e0 => h8 (by rw [e0]; rfl))
                    obtain ⟨a, m, S, hsk⟩ : ∃ a m S, s.sk = (a, m) :: S := by
                      cases hs : s.sk with
                      | nil => exact absurd hs hne
                      | cons p S => exact ⟨p.1, p.2, S, rfl⟩
                    have hf : firstTop s.sk = firstM m := by rw [hsk]; rfl
                    refine ⟨?_, h.at_, h.once, h.deep, fun _ _ => hne, fun hk => ?_, (h.more (Nat.le_succ _)).few⟩
                    · show firstTop s.sk < 32
                      rw [hf]; cases m <;> decide
                    · have hk' : firstTop s.sk &&& 2 ≠ 0 := hk
                      rw [hf] at hk'
                      cases m with
                      | true => exact ⟨a, S, hsk⟩
                      | false => exact absurd rfl hk'
                · exact he e
        · injection e with e; subst e; exact h.more (Nat.le_succ _)
end Jt
end Go.Proofs.YtggeiajbcehkjaaGreatDoor
