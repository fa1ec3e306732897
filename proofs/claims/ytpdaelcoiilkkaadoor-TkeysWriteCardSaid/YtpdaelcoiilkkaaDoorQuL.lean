/- Strings of JSON: what is written is read; nothing shorter is; a string that is cut; what stands behind (lists alone). -/
import Derived.Test.YtpdaelcoiilkkaaDoorQuM
namespace Go.Proofs.YtpdaelcoiilkkaaDoor

namespace Qu
def Step.more (m : List UInt8) : Step → Step
  | .done r => .done (r ++ m)
  | .unit k u r => .unit k u (r ++ m)
  | .bad k => .bad k
theorem un_bad {l : List UInt8} {k : Nat} (h : un l = .bad k) : k ≤ l.length ∧ k < 6 := by
  unfold un at h
  repeat' split at h
  all_goals first
    | (cases h; done)
    | skip
  all_goals first
    | (rename_i hh; cases h; have := hx_inl _ _ _ hh; simp; omega)
    | (cases h; simp)
/-- What stands behind makes no difference, where it is not the end that is wrong. -/
theorem un_more {l m : List UInt8} (h : ∀ k, un l = .bad k → k < l.length) : un (l ++ m) = (un l).more m := by
  match l, h with
  | [], h => exact absurd (h 0 rfl) (by simp)
  | c :: r, h =>
    simp only [List.cons_append, un] at h ⊢
    split
    · rfl
    · rename_i h34
      simp only [h34, if_false] at h
      split
      · rename_i h92
        simp only [h92, if_true] at h
        match r, h with
        | [], h => exact absurd (h 1 rfl) (by simp)
        | d :: r', h =>
          simp only [List.cons_append] at h ⊢
          cases hs : short d with
          | some b => rfl
          | none =>
            simp only [hs] at h ⊢
            split
            · rename_i hd
              simp only [hd, if_true] at h
              cases hh : hx 4 0 r' with
              | inr x => rw [(hx_more 4 0 r' m).1 x hh]; rfl
              | inl j =>
                rw [hh] at h
                have := h (2 + j) rfl
                simp at this
                rw [(hx_more 4 0 r' m).2 j hh (by omega)]; rfl
            · rfl
      · split <;> rfl
/-- Cut within a unit, it is wrong at its end. -/
theorem un_cut {l r : List UInt8} {k : Nat} {u : Un} (h : un l = .unit k u r) {i : Nat} (hi : i < k) : un (l.take i) = .bad i := by
  match l, i with
  | [], _ => cases h
  | c :: s, 0 => rfl
  | c :: s, i + 1 =>
    simp only [List.take_succ_cons, un] at h ⊢
    split at h
    · cases h
    · rename_i h34
      rw [if_neg h34]
      split at h
      · rename_i h92
        rw [if_pos h92]
        match s, i with
        | [], i => cases h
        | d :: s', 0 => rfl
        | d :: s', i + 1 =>
          simp only [List.take_succ_cons] at h ⊢
          cases hs : short d with
          | some b => rw [hs] at h; cases h; omega
          | none =>
            rw [hs] at h
            simp only at h ⊢
            split at h
            · rename_i hd
              rw [if_pos hd]
              cases hh : hx 4 0 s' with
              | inl j => rw [hh] at h; cases h
              | inr x =>
                rw [hh] at h; cases h
                rw [hx_cut 4 0 s' i hh (by omega)]
                simp; omega
            · cases h
      · split at h
        · cases h
        · cases h; omega
theorem hx_head : ∀ (k n : Nat) (l : List UInt8) {x : Nat × List UInt8}, hx k n l = .inr x → ∃ p, l = p ++ x.2 ∧ p.length = k ∧ ∀ r', hx k n (p ++ r') = .inr (x.1, r')
  | 0, n, r, x, h => by simp [hx] at h; subst h; exact ⟨[], by simp, rfl, fun r' => rfl⟩
  | k + 1, n, [], x, h => by simp [hx] at h
  | k + 1, n, c :: r, x, h => by
    simp only [hx] at h
    cases hd : dig c with
    | none => rw [hd] at h; cases h
    | some d =>
      rw [hd] at h
      simp only at h
      cases hh : hx k (16 * n + d) r with
      | inl j => rw [hh] at h; cases h
      | inr y =>
        rw [hh] at h
        cases h
        obtain ⟨p, hp, hk, ha⟩ := hx_head k _ r hh
        exact ⟨c :: p, by rw [hp]; rfl, by simp [hk], fun r' => by simp only [List.cons_append, hx, hd, ha r']⟩
/-- A unit is a head of its own. -/
theorem un_head {l r : List UInt8} {k : Nat} {u : Un} (h : un l = .unit k u r) : ∃ p, l = p ++ r ∧ p.length = k ∧ ∀ r', un (p ++ r') = .unit k u r' := by
  match l with
  | [] => cases h
  | c :: s =>
    simp only [un] at h
    split at h
    · cases h
    · rename_i h34
      split at h
      · rename_i h92
        match s with
        | [] => cases h
        | d :: s' =>
          simp only at h
          cases hs : short d with
          | some b => rw [hs] at h; cases h; exact ⟨[c, d], rfl, rfl, fun r' => by simp [un, h92, hs]⟩
          | none =>
            rw [hs] at h
            simp only at h
            split at h
            · rename_i hd
              cases hh : hx 4 0 s' with
              | inl j => rw [hh] at h; cases h
              | inr x =>
                rw [hh] at h; cases h
                obtain ⟨p, hp, hk, ha⟩ := hx_head 4 0 s' hh
                exact ⟨c :: d :: p, by rw [hp]; rfl, by simp [hk], fun r' => by simp only [List.cons_append, un]; rw [if_neg h34, if_pos h92]; simp only [hs]; rw [if_pos hd, ha r']⟩
            · cases h
      · split at h
        · cases h
        · rename_i h92 h32
          cases h
          exact ⟨[c], rfl, rfl, fun r' => by simp [un, h34, h92, h32]⟩
/-- What is read, with more behind it. -/
theorem tok_head {l r t : List UInt8} {k : Nat} (h : tok l = .go k t r) : ∃ p, l = p ++ r ∧ p.length = k ∧ ∀ r', tok (p ++ r') = .go k t r' := by
  rcases tok_go_is h with ⟨b, hb, rfl⟩ | ⟨n, hn, h1, h2, rfl⟩ | ⟨n, k1, k2, r1, m, e1, h1, e2, h2, ek, et⟩
  · obtain ⟨p, hp, hk, ha⟩ := un_head hb
    exact ⟨p, hp, hk, fun r' => by rw [tok, ha r']⟩
  · obtain ⟨p, hp, hk, ha⟩ := un_head hn
    exact ⟨p, hp, hk, fun r' => by simp [tok, ha r', h1, h2]⟩
  · subst ek et
    obtain ⟨p, hp, hk, ha⟩ := un_head e1
    obtain ⟨q, hq, hj, hb⟩ := un_head e2
    exact ⟨p ++ q, by rw [hp, hq, List.append_assoc], by simp [hk, hj], fun r' => by rw [List.append_assoc, tok, ha]; simp only [h1, if_true]; rw [hb]; simp only [h2, if_true]⟩
theorem body_nil : body [] = .bad false 0 := body_stop (by rfl)
/-- A piece in front that is read by itself. -/
theorem body_on {p t : List UInt8} {k : Nat} (h : ∀ r', tok (p ++ r') = .go k t r') (r : List UInt8) : body (p ++ r) = (body r).pre k t := body_go (h r)
theorem pre_pre (a b : Nat) (s t : List UInt8) (x : Res) : (x.pre b t).pre a s = x.pre (a + b) (s ++ t) := by
  cases x <;> simp [Res.pre, Nat.add_assoc]
/-! ### Cut -/
theorem pre_ok {x : Res} {k : Nat} {s t : List UInt8} (h : x.pre k s = .ok t) : ∃ y, x = .ok y ∧ t = s ++ y := by
  cases x with
  | ok y => cases h; exact ⟨y, rfl, rfl⟩
  | bad _ _ => cases h
/-- Of a text that is read: the first token. -/
theorem body_ok {l t : List UInt8} (h : body l = .ok t) : (l = [34] ∧ t = []) ∨ ∃ k s r y, tok l = .go k s r ∧ body r = .ok y ∧ t = s ++ y := by
  cases ht : tok l with
  | go k s r =>
    rw [body_go ht] at h
    obtain ⟨y, hy, e⟩ := pre_ok h
    exact .inr ⟨k, s, r, y, rfl, hy, e⟩
  | stop x =>
    rw [body_stop ht] at h
    subst h
    refine .inl ?_
    unfold tok at ht
    cases hu : un l with
    | bad _ => rw [hu] at ht; cases ht
    | done x =>
      rw [hu] at ht
      match x, ht with
      | [], ht =>
        cases ht
        match l, hu with
        | c :: s, hu =>
          simp only [un] at hu
          split at hu
          · rename_i hc; cases hu; exact ⟨by rw [hc], rfl⟩
          · repeat' split at hu
            all_goals cases hu
    | unit k u r =>
      rw [hu] at ht
      cases u with
      | byte b => cases ht
      | rune n =>
        simp only at ht
        repeat' split at ht
        all_goals cases ht
theorem tok_bad {l : List UInt8} {k : Nat} (h : un l = .bad k) : tok l = .stop (.bad false k) := by rw [tok, h]
def Cut (x : Res) (i : Nat) : Prop := x = .bad false i ∨ ∃ a, x = .bad true a ∧ a < i ∧ i < a + 12
theorem Cut.pre {x : Res} {i k : Nat} {t : List UInt8} (h : Cut x i) : Cut (x.pre k t) (k + i) := by
  rcases h with rfl | ⟨a, rfl, h1, h2⟩
  · exact .inl rfl
  · exact .inr ⟨k + a, rfl, by omega, by omega⟩
theorem body_cut : ∀ (N : Nat) {l t : List UInt8}, l.length ≤ N → body l = .ok t → ∀ i, i < l.length → Cut (body (l.take i)) i
  | 0, l, t, hN, h, i, hi => by omega
  | N + 1, l, t, hN, h, i, hi => by
    rcases body_ok h with ⟨rfl, rfl⟩ | ⟨k, s, r, y, ht, hy, rfl⟩
    · obtain rfl : i = 0 := by simp at hi; omega
      exact .inl body_nil
    · have hlen := tok_go ht
      obtain ⟨p, hp, hk, ha⟩ := tok_head ht
      by_cases hik : k ≤ i
      · have e : l.take i = p ++ r.take (i - k) := by rw [hp, List.take_append, hk, List.take_of_length_le (by omega)]
        rw [e, body_on ha]
        have := (body_cut N (by omega) hy (i - k) (by omega)).pre (k := k) (t := s)
        rwa [show k + (i - k) = i by omega] at this
      · have hik : i < k := by omega
        rcases tok_go_is ht with ⟨b, hb, rfl⟩ | ⟨n, hn, h1, h2, rfl⟩ | ⟨n, k1, k2, r1, m, e1, h1, e2, h2, ek, et⟩
        · exact .inl (body_stop (tok_bad (un_cut hb hik)))
        · exact .inl (body_stop (tok_bad (un_cut hn hik)))
        · subst ek
          by_cases h3 : i < k1
          · exact .inl (body_stop (tok_bad (un_cut e1 h3)))
          · obtain ⟨q, hq, hj, hb⟩ := un_head e1
            have e : l.take i = q ++ r1.take (i - k1) := by rw [hq, List.take_append, hj, List.take_of_length_le (by omega)]
            refine .inr ⟨0, ?_, by have := un_unit e1; omega, by have := un_unit e1; have := un_unit e2; omega⟩
            rw [e]
            exact body_stop (by rw [tok, hb]; simp only [h1, if_true]; rw [un_cut e2 (by omega)])
end Qu
end Go.Proofs.YtpdaelcoiilkkaaDoor
