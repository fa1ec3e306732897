/- JSON's tokens as lists: what a token is told by; its bytes alone; with a mark behind. -/
import Derived.Test.YtfnahondlcbjnaaTb
namespace Go.Proofs.Ytfnahondlcbjnaa
open Go.RowKit
namespace Jk

theorem ne_of {l : List UInt8} (h : bt l 0 ≠ 0) : l ≠ [] := by rintro rfl; exact h rfl
theorem spc_v {c : Int} : spc c = true ↔ c = 32 ∨ c = 9 ∨ c = 10 ∨ c = 13 := by simp [spc]
theorem mrk_v {c : Int} : mrk c = true ↔ c = 123 ∨ c = 125 ∨ c = 91 ∨ c = 93 ∨ c = 44 ∨ c = 58 := by simp [mrk]
theorem ltr_v {c : Int} : ltr c = true ↔ 97 ≤ c ∧ c ≤ 122 := by simp [ltr]
theorem spc_no {c : Int} (h : ¬ (c = 32 ∨ c = 9 ∨ c = 10 ∨ c = 13)) : spc c = false := decide_eq_false h
theorem mrk_no {c : Int} (h : ¬ (c = 123 ∨ c = 125 ∨ c = 91 ∨ c = 93 ∨ c = 44 ∨ c = 58)) : mrk c = false := decide_eq_false h
theorem ltr_no {c : Int} (h : ¬ (97 ≤ c ∧ c ≤ 122)) : ltr c = false := decide_eq_false h
theorem dg_no {c : Int} (h : ¬ (48 ≤ c ∧ c ≤ 57)) : dg c = false := decide_eq_false h
theorem nx_space {l : List UInt8} (h : spc (bt l 0) = true) : nx l = .tok 0 (rw spc l) := by
  have := spc_v.1 h
  rw [nx, if_neg (ne_of (by omega)), if_pos h]
theorem nx_mark {l : List UInt8} (h : mrk (bt l 0) = true) : nx l = .tok 1 1 := by
  have := mrk_v.1 h
  rw [nx, if_neg (ne_of (by omega)), if_neg (by rw [spc_no (by omega)]; simp), if_pos h]
theorem nx_letter {l : List UInt8} (h : ltr (bt l 0) = true) : nx l = if words (l.take (rw ltr l)) = true then .tok 2 (rw ltr l) else .bad 0 := by
  have := ltr_v.1 h
  rw [nx, if_neg (ne_of (by omega)), if_neg (by rw [spc_no (by omega)]; simp), if_neg (by rw [mrk_no (by omega)]; simp), if_pos h]
theorem nx_digit {l : List UInt8} (h : bt l 0 = 45 ∨ dg (bt l 0) = true) : nx l = if dg (bt l (mnE l)) = true then .tok 3 (nmE l) else .bad (mnE l) := by
  have : bt l 0 = 45 ∨ 48 ≤ bt l 0 ∧ bt l 0 ≤ 57 := h.imp id dg_iff.1
  rw [nx, if_neg (ne_of (by omega)), if_neg (by rw [spc_no (by omega)]; simp), if_neg (by rw [mrk_no (by omega)]; simp), if_neg (by rw [ltr_no (by omega)]; simp), if_pos h]
theorem nx_quote {l : List UInt8} (h : bt l 0 = 34) : nx l = match strE l 1 with | .ok n => .tok 4 n | .bad n => .bad n := by
  rw [nx, if_neg (ne_of (by omega)), if_neg (by rw [spc_no (by omega)]; simp), if_neg (by rw [mrk_no (by omega)]; simp), if_neg (by rw [ltr_no (by omega)]; simp), if_neg (by
    rintro (g | g)
    · omega
    · have := dg_iff.1 g; omega), if_pos h]
  cases strE l 1 <;> rfl
theorem nx_other {l : List UInt8} (h1 : spc (bt l 0) = false) (h2 : mrk (bt l 0) = false) (h3 : ltr (bt l 0) = false) (h4 : bt l 0 ≠ 45) (h5 : dg (bt l 0) = false) (h6 : bt l 0 ≠ 34) : nx l = .bad 0 := by
  rw [nx]
  split
  · rfl
  · rw [if_neg (by rw [h1]; simp), if_neg (by rw [h2]; simp), if_neg (by rw [h3]; simp), if_neg (by rw [h5]; simp [h4])]
    try rw [if_neg h6]
/-- What a token is. -/
inductive TK (l : List UInt8) : Nat → Nat → Prop where
  | space (h : spc (bt l 0) = true) : TK l 0 (rw spc l)
  | mark (h : mrk (bt l 0) = true) : TK l 1 1
  | word (h : ltr (bt l 0) = true) (h2 : words (l.take (rw ltr l)) = true) : TK l 2 (rw ltr l)
  | num (h : bt l 0 = 45 ∨ dg (bt l 0) = true) (h2 : dg (bt l (mnE l)) = true) : TK l 3 (nmE l)
  | str (n : Nat) (h : bt l 0 = 34) (h2 : strE l 1 = .ok n) : TK l 4 n
theorem tk_of {l : List UInt8} {k n : Nat} (h : nx l = .tok k n) : TK l k n := by
  cases h1 : spc (bt l 0)
  · cases h2 : mrk (bt l 0)
    · cases h3 : ltr (bt l 0)
      · by_cases h4 : bt l 0 = 45 ∨ dg (bt l 0) = true
        · rw [nx_digit h4] at h
          split at h
          · rename_i g; injection h with a b; subst a b; exact .num h4 g
          · cases h
        · by_cases h5 : bt l 0 = 34
          · rw [nx_quote h5] at h
            cases hs : strE l 1 with
            | ok m => rw [hs] at h; injection h with a b; subst a b; exact .str m h5 hs
            | bad m => rw [hs] at h; cases h
          · rw [nx_other h1 h2 h3 (fun g => h4 (.inl g)) (by cases g : dg (bt l 0)
                                                             · rfl
                                                             · exact absurd (.inr g) h4) h5] at h
            cases h
      · rw [nx_letter h3] at h
        split at h
        · rename_i g; injection h with a b; subst a b; exact .word h3 g
        · cases h
    · rw [nx_mark h2] at h; injection h with a b; subst a b; exact .mark h2
  · rw [nx_space h1] at h; injection h with a b; subst a b; exact .space h1
theorem nx_of {l : List UInt8} {k n : Nat} (h : TK l k n) : nx l = .tok k n := by
  cases h with
  | space h => exact nx_space h
  | mark h => exact nx_mark h
  | word h h2 => rw [nx_letter h, if_pos h2]
  | num h h2 => rw [nx_digit h, if_pos h2]
  | str n h h2 => rw [nx_quote h, h2]
theorem mnE_le (l : List UInt8) : mnE l ≤ 1 := by unfold mnE; split <;> omega
theorem tk_len {l : List UInt8} {k n : Nat} (h : TK l k n) : 0 < n ∧ n ≤ l.length := by
  cases h with
  | space h => exact ⟨rw_pos spc0 h, rw_le _ _⟩
  | mark h => exact ⟨by omega, bt_in (by have := mrk_v.1 h; omega)⟩
  | word h h2 => exact ⟨rw_pos ltr0 h, rw_le _ _⟩
  | num h h2 => have := nmE_gt h2; omega
  | str n h h2 => have := strE_ok _ 1 n (Nat.le_refl _) h2; omega
theorem nx_bad {l : List UInt8} {n : Nat} (h : nx l = .bad n) : n ≤ l.length := by
  unfold nx at h
  split at h
  · injection h with h; omega
  · rename_i hne
    have hl := List.length_pos_iff.2 hne
    split at h
    · cases h
    · split at h
      · cases h
      · split at h
        · split at h
          · cases h
          · injection h with h; omega
        · split at h
          · split at h
            · cases h
            · injection h with h; have := mnE_le l; omega
          · split at h
            · cases hs : strE l 1 with
              | ok m => rw [hs] at h; cases h
              | bad m => rw [hs] at h; injection h with h; have := strE_bad _ 1 m (Nat.le_refl _) (by omega) hs; omega
            · injection h with h; omega
/-- No two spaces, no two words, stand side by side. -/
theorem tk_next {l : List UInt8} {k n k' n' : Nat} (h : TK l k n) (h' : TK (l.drop n) k' n') : ¬ (k = k' ∧ (k = 0 ∨ k = 2)) := by
  have e : ∀ j, bt (l.drop n) j = bt l (n + j) := fun j => bt_drop l n j
  rintro ⟨rfl, hk | hk⟩
  · subst hk
    cases h with
    | space h =>
      cases h' with
      | space h' =>
        rw [e, Nat.add_zero] at h'
        rw [rw_end spc0 l] at h'; cases h'
  · subst hk
    cases h with
    | word h h2 =>
      cases h' with
      | word h' h3 =>
        rw [e, Nat.add_zero] at h'
        rw [rw_end ltr0 l] at h'; cases h'
/-- What a test says of a text with more, or less, behind a place. -/
theorem rw_drop_take (p : Int → Bool) (l : List UInt8) (n k : Nat) : rw p ((l.take n).drop k) = min (rw p (l.drop k)) (n - k) := by
  rw [List.drop_take, rw_take]
theorem tk_take {l : List UInt8} {k n : Nat} (h : TK l k n) : TK (l.take n) k n := by
  have hn := tk_len h
  have b0 : bt (l.take n) 0 = bt l 0 := bt_take l hn.1
  cases h with
  | space h =>
    have e : rw spc (l.take (rw spc l)) = rw spc l := by rw [rw_take]; omega
    have := TK.space (l := l.take (rw spc l)) (by rw [b0]; exact h)
    rwa [e] at this
  | mark h => exact .mark (by rw [b0]; exact h)
  | word h h2 =>
    have e : rw ltr (l.take (rw ltr l)) = rw ltr l := by rw [rw_take]; omega
    have := TK.word (l := l.take (rw ltr l)) (by rw [b0]; exact h) (by rw [e, List.take_take, Nat.min_self]; exact h2)
    rwa [e] at this
  | num h h2 =>
    have g1 := nmE_gt h2
    have i1 := intE_gt h2
    have i2 := frE_ge i1.2
    have i3 := exE_ge i2.2
    generalize hnn : nmE l = n at *
    have hnx : exE l (frE l (intE l (mnE l))) = n := hnn
    have m1 : mnE (l.take n) = mnE l := by unfold mnE; rw [b0]
    have bj : bt (l.take n) (mnE l) = bt l (mnE l) := bt_take l (by omega)
    have e1 : intE (l.take n) (mnE l) = intE l (mnE l) := by
      have q := i1
      unfold intE at q ⊢
      rw [bj]
      split
      · rfl
      · rename_i g
        rw [if_neg g] at q
        rw [rw_drop_take]
        have : mnE l + rw dg (l.drop (mnE l)) ≤ n := by
          have := i2.1; have := i3.1; unfold intE at this; rw [if_neg g] at this
          have q2 : mnE l + rw dg (l.drop (mnE l)) ≤ frE l (mnE l + rw dg (l.drop (mnE l))) := by
            have := i2.1; unfold intE at this; rw [if_neg g] at this; exact this
          have q3 := i3.1
          rw [hnx] at q3
          unfold intE at q3; rw [if_neg g] at q3
          omega
        omega
    generalize hi : intE l (mnE l) = i at *
    have e2 : frE (l.take n) i = frE l i := by
      have q3 := i3.1
      rw [hnx] at q3
      unfold frE at q3 i2 ⊢
      by_cases g : bt l i = 46 ∧ dg (bt l (i + 1)) = true
      · rw [if_pos g] at q3 i2 ⊢
        have r1 := rw_dg g.2
        rw [if_pos ⟨by rw [bt_take l (by omega)]; exact g.1, by rw [bt_take l (by omega)]; exact g.2⟩, rw_drop_take]
        omega
      · rw [if_neg g, if_neg]
        rintro ⟨q1, q2⟩
        rw [bt_tk] at q1 q2
        split at q1
        · split at q2
          · exact g ⟨q1, q2⟩
          · cases q2
        · cases q1
    generalize hf : frE l i = f at *
    have e3 : exE (l.take n) f = n := by
      unfold exE at hnx ⊢
      by_cases g : (bt l f = 101 ∨ bt l f = 69) ∧ dg (bt l (sgE l (f + 1))) = true
      · rw [if_pos g] at hnx
        have r1 := rw_dg g.2
        have r2 := sgE_ge l (f + 1)
        have s1 : sgE (l.take n) (f + 1) = sgE l (f + 1) := by
          unfold sgE
          rw [bt_take l (by omega)]
        rw [s1, bt_take l (by omega), bt_take l (by omega), if_pos g, rw_drop_take]
        omega
      · rw [if_neg g] at hnx
        rw [if_neg]
        · exact hnx
        · rintro ⟨q1, _⟩
          rw [bt_far (by rw [List.length_take]; omega)] at q1
          omega
    have := TK.num (l := l.take n) (by rw [b0]; exact h) (by rw [m1, bj]; exact h2)
    have e : nmE (l.take n) = n := by unfold nmE; rw [m1, e1, e2, e3]
    rwa [e] at this
  | str n h h2 =>
    exact .str n (by rw [b0]; exact h) (strE_same _ 1 n (Nat.le_refl _) h2 (fun k hk => bt_take l hk) (by rw [List.length_take]; omega))
end Jk
end Go.Proofs.Ytfnahondlcbjnaa
