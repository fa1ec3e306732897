/- JSON's tokens as lists: a token's bytes alone are that token; a mark behind changes none. -/
import Derived.Test.YtdclhepjoifpiaaGreatDoorTam
namespace Go.Proofs.YtdclhepjoifpiaaGreatDoor
open Go.RowKit
namespace Jk

theorem dg_iff {c : Int} : dg c = true ↔ 48 ≤ c ∧ c ≤ 57 := by simp [dg]
theorem dg0 : dg 0 = false := rfl
theorem spc0 : spc 0 = false := rfl
theorem ltr0 : ltr 0 = false := rfl
theorem dg_in {l : List UInt8} {k : Nat} (h : dg (bt l k) = true) : k < l.length := bt_in (by have := dg_iff.1 h; omega)
theorem rw_in (p : Int → Bool) (l : List UInt8) {k : Nat} (h : k ≤ l.length) : k + rw p (l.drop k) ≤ l.length := by
  have := rw_le p (l.drop k)
  rw [List.length_drop] at this
  omega
theorem rw_dg {l : List UInt8} {k : Nat} (h : dg (bt l k) = true) : 0 < rw dg (l.drop k) := by rw [rw_at dg0, if_pos h]; omega
-- the parts of a number
theorem intE_gt {l : List UInt8} {j : Nat} (h : dg (bt l j) = true) : j < intE l j ∧ intE l j ≤ l.length := by
  have h1 := dg_in h
  have h2 := rw_in dg l (Nat.le_of_lt h1)
  have h3 := rw_dg h
  unfold intE
  split <;> omega
theorem frE_ge {l : List UInt8} {k : Nat} (hk : k ≤ l.length) : k ≤ frE l k ∧ frE l k ≤ l.length := by
  unfold frE
  split
  · rename_i h
    have h1 := dg_in h.2
    have h2 := rw_in dg l (Nat.le_of_lt h1)
    omega
  · omega
theorem sgE_ge (l : List UInt8) (k : Nat) : k ≤ sgE l k ∧ sgE l k ≤ k + 1 := by unfold sgE; split <;> omega
theorem exE_ge {l : List UInt8} {k : Nat} (hk : k ≤ l.length) : k ≤ exE l k ∧ exE l k ≤ l.length := by
  unfold exE
  split
  · rename_i h
    have h1 := dg_in h.2
    have h2 := rw_in dg l (Nat.le_of_lt h1)
    have h3 := sgE_ge l (k + 1)
    omega
  · omega
theorem nmE_gt {l : List UInt8} (h : dg (bt l (mnE l)) = true) : mnE l < nmE l ∧ nmE l ≤ l.length := by
  have h1 := intE_gt h
  have h2 := frE_ge h1.2
  have h3 := exE_ge h2.2
  unfold nmE
  omega
-- strings
theorem h4_some {l : List UInt8} {i a : Nat} (h : h4 l i = some a) (hi : i < l.length) : i < a ∧ a ≤ l.length := by
  have hin : ∀ k, hx (bt l k) = true → k < l.length := fun k hk => bt_in (by intro e; rw [e] at hk; revert hk; decide)
  unfold h4 at h
  split at h
  · injection h with h; omega
  · rename_i g1
    have := hin (i + 1) (by simpa using g1)
    split at h
    · injection h with h; omega
    · rename_i g2
      have := hin (i + 2) (by simpa using g2)
      split at h
      · injection h with h; omega
      · rename_i g3
        have := hin (i + 3) (by simpa using g3)
        split at h
        · injection h with h; omega
        · cases h
theorem h4_none {l : List UInt8} {i : Nat} (h : h4 l i = none) : hx (bt l (i + 1)) = true ∧ hx (bt l (i + 2)) = true ∧ hx (bt l (i + 3)) = true ∧ hx (bt l (i + 4)) = true := by
  unfold h4 at h
  split at h
  · cases h
  · rename_i g1
    split at h
    · cases h
    · rename_i g2
      split at h
      · cases h
      · rename_i g3
        split at h
        · cases h
        · rename_i g4
          simp only [Bool.not_eq_false] at g1 g2 g3 g4
          exact ⟨g1, g2, g3, g4⟩
theorem h4_of {l : List UInt8} {i : Nat} (h : hx (bt l (i + 1)) = true ∧ hx (bt l (i + 2)) = true ∧ hx (bt l (i + 3)) = true ∧ hx (bt l (i + 4)) = true) : h4 l i = none := by
  unfold h4
  rw [if_neg (by rw [h.1]; simp), if_neg (by rw [h.2.1]; simp), if_neg (by rw [h.2.2.1]; simp), if_neg (by rw [h.2.2.2]; simp)]
theorem hx_in {l : List UInt8} {k : Nat} (h : hx (bt l k) = true) : k < l.length := bt_in (by intro e; rw [e] at h; revert h; decide)
theorem esc_in {l : List UInt8} {k : Nat} (h : esc (bt l k) = true) : k < l.length := bt_in (by intro e; rw [e] at h; revert h; decide)
theorem strE_ok {l : List UInt8} : ∀ (m i n : Nat), l.length - i ≤ m → strE l i = .ok n → i < n ∧ n ≤ l.length
  | m, i, n, hm, h => by
    rw [strE] at h
    split at h
    · rename_i hi
      split at h
      · injection h with h; omega
      · split at h
        · cases h
        · split at h
          · cases m with
            | zero => omega
            | succ m => have := strE_ok m (i + 1) n (by omega) h; omega
          · split at h
            · cases h
            · split at h
              · cases hq : h4 l (i + 1) with
                | some a => rw [hq] at h; cases h
                | none =>
                  rw [hq] at h
                  cases m with
                  | zero => omega
                  | succ m => have := strE_ok m (i + 6) n (by omega) h; omega
              · split at h
                · cases m with
                  | zero => omega
                  | succ m => have := strE_ok m (i + 2) n (by omega) h; omega
                · cases h
    · cases h
theorem strE_bad {l : List UInt8} : ∀ (m i n : Nat), l.length - i ≤ m → i ≤ l.length → strE l i = .bad n → n ≤ l.length
  | m, i, n, hm, hil, h => by
    rw [strE] at h
    split at h
    · rename_i hi
      split at h
      · cases h
      · split at h
        · injection h with h; omega
        · split at h
          · cases m with
            | zero => omega
            | succ m => exact strE_bad m (i + 1) n (by omega) (by omega) h
          · split at h
            · injection h with h; omega
            · split at h
              · cases hq : h4 l (i + 1) with
                | some a => rw [hq] at h; injection h with h; have := h4_some hq (by omega); omega
                | none =>
                  rw [hq] at h
                  have := hx_in (h4_none hq).2.2.2
                  cases m with
                  | zero => omega
                  | succ m => exact strE_bad m (i + 6) n (by omega) (by omega) h
              · split at h
                · rename_i he
                  have := esc_in he
                  cases m with
                  | zero => omega
                  | succ m => exact strE_bad m (i + 2) n (by omega) (by omega) h
                · injection h with h; omega
    · injection h with h; omega
/-- A string is the same in whatever text has the same bytes up to its end. -/
theorem strE_same {l l' : List UInt8} : ∀ (m i n : Nat), l.length - i ≤ m → strE l i = .ok n → (∀ k, k < n → bt l' k = bt l k) → n ≤ l'.length → strE l' i = .ok n
  | m, i, n, hm, h, hb, hl => by
    have hn := strE_ok m i n hm h
    have h0 := h
    rw [strE] at h
    have hi : i < l.length := by omega
    rw [dif_pos hi] at h
    rw [strE, dif_pos (by omega), hb i (by omega)]
    split at h
    · rename_i g; rw [if_pos g]; exact h
    · rename_i g
      rw [if_neg g]
      split at h
      · cases h
      · rename_i g1
        rw [if_neg g1]
        split at h
        · rename_i g2
          rw [if_pos g2]
          cases m with
          | zero => omega
          | succ m => exact strE_same m (i + 1) n (by omega) h hb hl
        · rename_i g2
          rw [if_neg g2]
          split at h
          · cases h
          · rename_i g3
            split at h
            · rename_i g4
              cases hq : h4 l (i + 1) with
              | some a => rw [hq] at h; cases h
              | none =>
                rw [hq] at h
                cases m with
                | zero => omega
                | succ m =>
                  have h6 := strE_ok m (i + 6) n (by omega) h
                  have hx4 := h4_none hq
                  rw [if_neg (by omega), hb (i + 1) (by omega), if_pos g4, h4_of (l := l') (by
                    rw [hb (i + 1 + 1) (by omega), hb (i + 1 + 2) (by omega), hb (i + 1 + 3) (by omega), hb (i + 1 + 4) (by omega)]; exact hx4)]
                  exact strE_same m (i + 6) n (by omega) h hb hl
            · rename_i g4
              split at h
              · rename_i g5
                cases m with
                | zero => omega
                | succ m =>
                  have h6 := strE_ok m (i + 2) n (by omega) h
                  rw [if_neg (by omega), hb (i + 1) (by omega), if_neg g4, if_pos g5]
                  exact strE_same m (i + 2) n (by omega) h hb hl
              · cases h
end Jk
end Go.Proofs.YtdclhepjoifpiaaGreatDoor
/- JSON's tokens as lists: what a token is told by; its bytes alone; with a mark behind. -/
namespace Go.Proofs.YtdclhepjoifpiaaGreatDoor
open Go.RowKit
namespace Jk

theorem ne_of {l : List UInt8} (h : bt l 0 ≠ 0) : l ≠ [] := by rintro rfl; exact h rfl
theorem spc_v {c : Int} : spc c = true ↔ c = 32 ∨ c = 9 ∨ c = 10 ∨ c = 13 := by simp [spc]
theorem mrk_v {c : Int} : mrk c = true ↔ c = 123 ∨ c = 125 ∨ c = 91 ∨ c = 93 ∨ c = 44 ∨ c = 58 := by simp [mrk]
theorem ltr_v {c : Int} : ltr c = true ↔ 97 ≤ c ∧ c ≤ 122 := by simp [ltr]
theorem spc_no {c : Int} (h : ¬ (c = 32 ∨ c = 9 ∨ c = 10 ∨ c = 13)) : spc c = false := decide_eq_false h
theorem mrk_no {c : Int} (h : ¬ (c = 123 ∨ c = 125 ∨ c = 91 ∨ c = 93 ∨ c = 44 ∨ c = 58)) : mrk c = false := decide_eq_false h
theorem ltr_no {c : Int} (h : ¬ (97 ≤ c ∧ c ≤ 122)) : ltr c = false := decide_eq_false h
theorem dg_no {c : Int} (h : ¬ (48 ≤ c ∧ c ≤ 57)) : dg c = false := decide_eq_false h
theorem nx_space {l : List UInt8} (h : spc (bt l 0) = true) : nx l = .tok 0 (rw spc l) := by
  have := spc_v.1 h
  rw [nx, if_neg (ne_of (by omega)), if_pos h]
theorem nx_mark {l : List UInt8} (h : mrk (bt l 0) = true) : nx l = .tok 1 1 := by
  have := mrk_v.1 h
  rw [nx, if_neg (ne_of (by omega)), if_neg (by rw [spc_no (by omega)]; simp), if_pos h]
theorem nx_letter {l : List UInt8} (h : ltr (bt l 0) = true) : nx l = if words (l.take (rw ltr l)) = true then .tok 2 (rw ltr l) else .bad 0 := by
  have := ltr_v.1 h
  rw [nx, if_neg (ne_of (by omega)), if_neg (by rw [spc_no (by omega)]; simp), if_neg (by rw [mrk_no (by omega)]; simp), if_pos h]
theorem nx_digit {l : List UInt8} (h : bt l 0 = 45 ∨ dg (bt l 0) = true) : nx l = if dg (bt l (mnE l)) = true then .tok 3 (nmE l) else .bad (mnE l) := by
  have : bt l 0 = 45 ∨ 48 ≤ bt l 0 ∧ bt l 0 ≤ 57 := h.imp id dg_iff.1
  rw [nx, if_neg (ne_of (by omega)), if_neg (by rw [spc_no (by omega)]; simp), if_neg (by rw [mrk_no (by omega)]; simp), if_neg (by rw [ltr_no (by omega)]; simp), if_pos h]
theorem nx_quote {l : List UInt8} (h : bt l 0 = 34) : nx l = match strE l 1 with | .ok n => .tok 4 n | .bad n => .bad n := by
  rw [nx, if_neg (ne_of (by omega)), if_neg (by rw [spc_no (by omega)]; simp), if_neg (by rw [mrk_no (by omega)]; simp), if_neg (by rw [ltr_no (by omega)]; simp), if_neg (by
    rintro (g | g)
    · omega
    · have := dg_iff.1 g; omega), if_pos h]
  cases strE l 1 <;> rfl
theorem nx_other {l : List UInt8} (h1 : spc (bt l 0) = false) (h2 : mrk (bt l 0) = false) (h3 : ltr (bt l 0) = false) (h4 : bt l 0 ≠ 45) (h5 : dg (bt l 0) = false) (h6 : bt l 0 ≠ 34) : nx l = .bad 0 := by
  rw [nx]
  split
  · rfl
  · rw [if_neg (by rw [h1]; simp), if_neg (by rw [h2]; simp), if_neg (by rw [h3]; simp), if_neg (by rw [h5]; simp [h4])]
    try rw [if_neg h6]
/-- What a token is. -/
inductive TK (l : List UInt8) : Nat → Nat → Prop where
  | space (h : spc (bt l 0) = true) : TK l 0 (rw spc l)
  | mark (h : mrk (bt l 0) = true) : TK l 1 1
  | word (h : ltr (bt l 0) = true) (h2 : words (l.take (rw ltr l)) = true) : TK l 2 (rw ltr l)
  | num (h : bt l 0 = 45 ∨ dg (bt l 0) = true) (h2 : dg (bt l (mnE l)) = true) : TK l 3 (nmE l)
  | str (n : Nat) (h : bt l 0 = 34) (h2 : strE l 1 = .ok n) : TK l 4 n
theorem tk_of {l : List UInt8} {k n : Nat} (h : nx l = .tok k n) : TK l k n := by
  cases h1 : spc (bt l 0)
  · cases h2 : mrk (bt l 0)
    · cases h3 : ltr (bt l 0)
      · by_cases h4 : bt l 0 = 45 ∨ dg (bt l 0) = true
        · rw [nx_digit h4] at h
          split at h
          · rename_i g; injection h with a b; subst a b; exact .num h4 g
          · cases h
        · by_cases h5 : bt l 0 = 34
          · rw [nx_quote h5] at h
            cases hs : strE l 1 with
            | ok m => rw [hs] at h; injection h with a b; subst a b; exact .str m h5 hs
            | bad m => rw [hs] at h; cases h
          · rw [nx_other h1 h2 h3 (fun g => h4 (.inl g)) (by cases g : dg (bt l 0)
                                                             · rfl
                                                             · exact absurd (.inr g) h4) h5] at h
            cases h
      · rw [nx_letter h3] at h
        split at h
        · rename_i g; injection h with a b; subst a b; exact .word h3 g
        · cases h
    · rw [nx_mark h2] at h; injection h with a b; subst a b; exact .mark h2
  · rw [nx_space h1] at h; injection h with a b; subst a b; exact .space h1
theorem nx_of {l : List UInt8} {k n : Nat} (h : TK l k n) : nx l = .tok k n := by
  cases h with
  | space h => exact nx_space h
  | mark h => exact nx_mark h
  | word h h2 => rw [nx_letter h, if_pos h2]
  | num h h2 => rw [nx_digit h, if_pos h2]
  | str n h h2 => rw [nx_quote h, h2]
theorem mnE_le (l : List UInt8) : mnE l ≤ 1 := by unfold mnE; split <;> omega
theorem tk_len {l : List UInt8} {k n : Nat} (h : TK l k n) : 0 < n ∧ n ≤ l.length := by
  cases h with
  | space h => exact ⟨rw_pos spc0 h, rw_le _ _⟩
  | mark h => exact ⟨by omega, bt_in (by have := mrk_v.1 h; omega)⟩
  | word h h2 => exact ⟨rw_pos ltr0 h, rw_le _ _⟩
  | num h h2 => have := nmE_gt h2; omega
  | str n h h2 => have := strE_ok _ 1 n (Nat.le_refl _) h2; omega
theorem nx_bad {l : List UInt8} {n : Nat} (h : nx l = .bad n) : n ≤ l.length := by
  unfold nx at h
  split at h
  · injection h with h; omega
  · rename_i hne
    have hl := List.length_pos_iff.2 hne
    split at h
    · cases h
    · split at h
      · cases h
      · split at h
        · split at h
          · cases h
          · injection h with h; omega
        · split at h
          · split at h
            · cases h
            · injection h with h; have := mnE_le l; omega
          · split at h
            · cases hs : strE l 1 with
              | ok m => rw [hs] at h; cases h
              | bad m => rw [hs] at h; injection h with h; have := strE_bad _ 1 m (Nat.le_refl _) (by omega) hs; omega
            · injection h with h; omega
/-- No two spaces, no two words, stand side by side. -/
theorem tk_next {l : List UInt8} {k n k' n' : Nat} (h : TK l k n) (h' : TK (l.drop n) k' n') : ¬ (k = k' ∧ (k = 0 ∨ k = 2)) := by
  have e : ∀ j, bt (l.drop n) j = bt l (n + j) := fun j => bt_drop l n j
  rintro ⟨rfl, hk | hk⟩
  · subst hk
    cases h with
    | space h =>
      cases h' with
      | space h' =>
        rw [e, Nat.add_zero] at h'
        rw [rw_end spc0 l] at h'; cases h'
  · subst hk
    cases h with
    | word h h2 =>
      cases h' with
      | word h' h3 =>
        rw [e, Nat.add_zero] at h'
        rw [rw_end ltr0 l] at h'; cases h'
/-- What a test says of a text with more, or less, behind a place. -/
theorem rw_drop_take (p : Int → Bool) (l : List UInt8) (n k : Nat) : rw p ((l.take n).drop k) = min (rw p (l.drop k)) (n - k) := by
  rw [List.drop_take, rw_take]
theorem tk_take {l : List UInt8} {k n : Nat} (h : TK l k n) : TK (l.take n) k n := by
  have hn := tk_len h
  have b0 : bt (l.take n) 0 = bt l 0 := bt_take l hn.1
  cases h with
  | space h =>
    have e : rw spc (l.take (rw spc l)) = rw spc l := by rw [rw_take]; omega
    have := TK.space (l := l.take (rw spc l)) (by rw [b0]; exact h)
    rwa [e] at this
  | mark h => exact .mark (by rw [b0]; exact h)
  | word h h2 =>
    have e : rw ltr (l.take (rw ltr l)) = rw ltr l := by rw [rw_take]; omega
    have := TK.word (l := l.take (rw ltr l)) (by rw [b0]; exact h) (by rw [e, List.take_take, Nat.min_self]; exact h2)
    rwa [e] at this
  | num h h2 =>
    have g1 := nmE_gt h2
    have i1 := intE_gt h2
    have i2 := frE_ge i1.2
    have i3 := exE_ge i2.2
    generalize hnn : nmE l = n at *
    have hnx : exE l (frE l (intE l (mnE l))) = n := hnn
    have m1 : mnE (l.take n) = mnE l := by unfold mnE; rw [b0]
    have bj : bt (l.take n) (mnE l) = bt l (mnE l) := bt_take l (by omega)
    have e1 : intE (l.take n) (mnE l) = intE l (mnE l) := by
      have q := i1
      unfold intE at q ⊢
      rw [bj]
      split
      · rfl
      · rename_i g
        rw [if_neg g] at q
        rw [rw_drop_take]
        have : mnE l + rw dg (l.drop (mnE l)) ≤ n := by
          have := i2.1; have := i3.1; unfold intE at this; rw [if_neg g] at this
          have q2 : mnE l + rw dg (l.drop (mnE l)) ≤ frE l (mnE l + rw dg (l.drop (mnE l))) := by
            have := i2.1; unfold intE at this; rw [if_neg g] at this; exact this
          have q3 := i3.1
          rw [hnx] at q3
          unfold intE at q3; rw [if_neg g] at q3
          omega
        omega
    generalize hi : intE l (mnE l) = i at *
    have e2 : frE (l.take n) i = frE l i := by
      have q3 := i3.1
      rw [hnx] at q3
      unfold frE at q3 i2 ⊢
      by_cases g : bt l i = 46 ∧ dg (bt l (i + 1)) = true
      · rw [if_pos g] at q3 i2 ⊢
        have r1 := rw_dg g.2
        rw [if_pos ⟨by rw [bt_take l (by omega)]; exact g.1, by rw [bt_take l (by omega)]; exact g.2⟩, rw_drop_take]
        omega
      · rw [if_neg g, if_neg]
        rintro ⟨q1, q2⟩
        rw [bt_tk] at q1 q2
        split at q1
        · split at q2
          · exact g ⟨q1, q2⟩
          · cases q2
        · cases q1
    generalize hf : frE l i = f at *
    have e3 : exE (l.take n) f = n := by
      unfold exE at hnx ⊢
      by_cases g : (bt l f = 101 ∨ bt l f = 69) ∧ dg (bt l (sgE l (f + 1))) = true
      · rw [if_pos g] at hnx
        have r1 := rw_dg g.2
        have r2 := sgE_ge l (f + 1)
        have s1 : sgE (l.take n) (f + 1) = sgE l (f + 1) := by
          unfold sgE
          rw [bt_take l (by omega)]
        rw [s1, bt_take l (by omega), bt_take l (by omega), if_pos g, rw_drop_take]
        omega
      · rw [if_neg g] at hnx
        rw [if_neg]
        · exact hnx
        · rintro ⟨q1, _⟩
          rw [bt_far (by rw [List.length_take]; omega)] at q1
          omega
    have := TK.num (l := l.take n) (by rw [b0]; exact h) (by rw [m1, bj]; exact h2)
    have e : nmE (l.take n) = n := by unfold nmE; rw [m1, e1, e2, e3]
    rwa [e] at this
  | str n h h2 =>
    exact .str n (by rw [b0]; exact h) (strE_same _ 1 n (Nat.le_refl _) h2 (fun k hk => bt_take l hk) (by rw [List.length_take]; omega))
end Jk
end Go.Proofs.YtdclhepjoifpiaaGreatDoor
/- JSON's tokens as lists: a mark behind changes no token; all tokens of two texts with a mark between. -/
namespace Go.Proofs.YtdclhepjoifpiaaGreatDoor
open Go.RowKit
namespace Jk

section
variable {l b : List UInt8} {c : UInt8} (hc : mrk (c.toNat : Int) = true)
include hc
theorem mk_no : spc (c.toNat : Int) = false ∧ ltr (c.toNat : Int) = false ∧ dg (c.toNat : Int) = false ∧ (c.toNat : Int) ≠ 46 ∧ (c.toNat : Int) ≠ 101 ∧ (c.toNat : Int) ≠ 69 ∧ (c.toNat : Int) ≠ 43 ∧ (c.toNat : Int) ≠ 45 := by
  have := mrk_v.1 hc
  exact ⟨spc_no (by omega), ltr_no (by omega), dg_no (by omega), by omega, by omega, by omega, by omega, by omega⟩
omit hc in
theorem bt_lt {k : Nat} (h : k < l.length) : bt (l ++ c :: b) k = bt l k := by rw [bt_app, if_pos h]
omit hc in
theorem bt_len : bt (l ++ c :: b) l.length = (c.toNat : Int) := by rw [bt_app, if_neg (by omega), Nat.sub_self]; rfl
omit hc in
/-- A test that neither nought nor the mark passes is answered alike up to the mark. -/
theorem test_same {t : Int → Prop} (h0 : ¬ t 0) (hm : ¬ t (c.toNat : Int)) {k : Nat} (hk : k ≤ l.length) : t (bt (l ++ c :: b) k) ↔ t (bt l k) := by
  by_cases h : k < l.length
  · rw [bt_lt h]
  · obtain rfl : k = l.length := by omega
    rw [bt_len, bt_far (Nat.le_refl _)]
    exact ⟨fun g => absurd g hm, fun g => absurd g h0⟩
omit hc in
theorem rw_drop_app {p : Int → Bool} (hp : p (c.toNat : Int) = false) {k : Nat} (hk : k ≤ l.length) : rw p ((l ++ c :: b).drop k) = rw p (l.drop k) := by
  rw [List.drop_append_of_le_length hk, rw_app hp]
theorem intE_app {j : Nat} (hj : j < l.length) : intE (l ++ c :: b) j = intE l j := by
  obtain ⟨_, _, h3, _⟩ := mk_no hc
  unfold intE
  rw [bt_lt hj, rw_drop_app h3 (by omega)]
theorem frE_app {k : Nat} (hk : k ≤ l.length) : frE (l ++ c :: b) k = frE l k := by
  obtain ⟨_, _, h3, h4, _⟩ := mk_no hc
  have a := test_same (l := l) (b := b) (c := c) (t := fun x => x = 46) (by decide) h4 hk
  unfold frE
  by_cases g : bt l k = 46
  · have hlt : k < l.length := bt_in (by omega)
    have d := test_same (l := l) (b := b) (c := c) (t := fun x => dg x = true) (by decide) (by rw [h3]; simp) (k := k + 1) (by omega)
    rw [rw_drop_app h3 (by omega)]
    by_cases e : dg (bt l (k + 1)) = true
    · rw [if_pos ⟨a.2 g, d.2 e⟩, if_pos ⟨g, e⟩]
    · rw [if_neg (fun q => e (d.1 q.2)), if_neg (fun q => e q.2)]
  · rw [if_neg (fun q => g (a.1 q.1)), if_neg (fun q => g q.1)]
theorem sgE_app {k : Nat} (hk : k ≤ l.length) : sgE (l ++ c :: b) k = sgE l k := by
  obtain ⟨_, _, _, _, _, _, h7, h8⟩ := mk_no hc
  have a := test_same (l := l) (b := b) (c := c) (t := fun x => x = 43 ∨ x = 45) (by decide) (by omega) hk
  unfold sgE
  by_cases g : bt l k = 43 ∨ bt l k = 45
  · rw [if_pos (a.2 g), if_pos g]
  · rw [if_neg (fun q => g (a.1 q)), if_neg g]
theorem exE_app {k : Nat} (hk : k ≤ l.length) : exE (l ++ c :: b) k = exE l k := by
  obtain ⟨_, _, h3, _, h5, h6, _⟩ := mk_no hc
  have a := test_same (l := l) (b := b) (c := c) (t := fun x => x = 101 ∨ x = 69) (by decide) (by omega) hk
  unfold exE
  by_cases g : bt l k = 101 ∨ bt l k = 69
  · have hlt : k < l.length := bt_in (by omega)
    have s1 := sgE_app (k := k + 1) hc (l := l) (b := b) (by omega)
    have s2 : sgE l (k + 1) ≤ l.length := by
      unfold sgE
      split
      · have : k + 1 < l.length := bt_in (by omega)
        omega
      · omega
    rw [s1]
    have d := test_same (l := l) (b := b) (c := c) (t := fun x => dg x = true) (by decide) (by rw [h3]; simp) s2
    rw [rw_drop_app h3 s2]
    by_cases e : dg (bt l (sgE l (k + 1))) = true
    · rw [if_pos ⟨a.2 g, d.2 e⟩, if_pos ⟨g, e⟩]
    · rw [if_neg (fun q => e (d.1 q.2)), if_neg (fun q => e q.2)]
  · rw [if_neg (fun q => g (a.1 q.1)), if_neg (fun q => g q.1)]
theorem tk_app {k n : Nat} (h : TK l k n) : TK (l ++ c :: b) k n := by
  have hn := tk_len h
  have b0 : bt (l ++ c :: b) 0 = bt l 0 := bt_lt (by omega)
  obtain ⟨h1, h2', h3, _⟩ := mk_no hc
  cases h with
  | space h =>
    have := TK.space (l := l ++ c :: b) (by rw [b0]; exact h)
    rwa [rw_app h1] at this
  | mark h => exact .mark (by rw [b0]; exact h)
  | word h h2 =>
    have e : (l ++ c :: b).take (rw ltr l) = l.take (rw ltr l) := List.take_append_of_le_length (rw_le _ _)
    have := TK.word (l := l ++ c :: b) (by rw [b0]; exact h) (by rw [rw_app h2', e]; exact h2)
    rwa [rw_app h2'] at this
  | num h h2 =>
    have m1 : mnE (l ++ c :: b) = mnE l := by unfold mnE; rw [b0]
    have i1 := intE_gt h2
    have i2 := frE_ge i1.2
    have hj := dg_in h2
    have := TK.num (l := l ++ c :: b) (by rw [b0]; exact h) (by rw [m1, bt_lt hj]; exact h2)
    have e : nmE (l ++ c :: b) = nmE l := by unfold nmE; rw [m1, intE_app hc hj, frE_app hc i1.2, exE_app hc i2.2]
    rwa [e] at this
  | str n h h2 =>
    exact .str n (by rw [b0]; exact h) (strE_same _ 1 n (Nat.le_refl _) h2 (fun k hk => bt_lt (by omega)) (by rw [List.length_append]; omega))
end
/-- A round of all tokens. -/
theorem tks_tok {l : List UInt8} {i k n : Nat} (h : TK (l.drop i) k n) : tks l i = ((k, i, i + n) :: (tks l (i + n)).1, (tks l (i + n)).2) := by
  have hn := tk_len h
  rw [List.length_drop] at hn
  rw [tks, dif_pos (by omega), nx_of h]
  show (if h2 : 0 < n then _ else _) = _
  rw [dif_pos hn.1]
theorem tks_bad {l : List UInt8} {i n : Nat} (hi : i < l.length) (h : nx (l.drop i) = .bad n) : tks l i = ([], some (i + n)) := by
  rw [tks, dif_pos hi, h]
theorem tks_end {l : List UInt8} {i : Nat} (hi : l.length ≤ i) : tks l i = ([], none) := by
  rw [tks, dif_neg (by omega)]
/-- Each token's bytes alone are that token. -/
theorem tks_own {l : List UInt8} {i k n : Nat} (h : TK (l.drop i) k n) : tks ((l.take (i + n)).drop i) 0 = ([(k, 0, n)], none) := by
  have e : (l.take (i + n)).drop i = (l.drop i).take n := by rw [List.take_drop]
  have ht := tk_take h
  have hn := tk_len h
  rw [e]
  have := tks_tok (l := (l.drop i).take n) (i := 0) (by rw [List.drop_zero]; exact ht)
  rw [this, Nat.zero_add, tks_end (by rw [List.length_take]; omega)]
def sh (d : Nat) (t : Nat × Nat × Nat) : Nat × Nat × Nat := (t.1, t.2.1 + d, t.2.2 + d)
/-- What stands behind is told as much later. -/
theorem tks_shift (p b : List UInt8) : ∀ (m i : Nat), b.length - i ≤ m → tks (p ++ b) (p.length + i) = ((tks b i).1.map (sh p.length), (tks b i).2.map (· + p.length))
  | m, i, hm => by
    by_cases hi : i < b.length
    · have e : (p ++ b).drop (p.length + i) = b.drop i := by rw [List.drop_append]; simp
      cases hx : nx (b.drop i) with
      | bad n =>
        rw [tks_bad hi hx, tks_bad (by rw [List.length_append]; omega) (by rw [e]; exact hx)]
        simp; omega
      | tok k n =>
        have ht := tk_of hx
        have hn := tk_len ht
        cases m with
        | zero => omega
        | succ m =>
          rw [tks_tok ht, tks_tok (by rw [e]; exact ht), Nat.add_assoc, tks_shift p b m (i + n) (by omega)]
          simp [sh]; omega
    · rw [tks_end (l := b) (by omega), tks_end (l := p ++ b) (by rw [List.length_append]; omega)]; rfl
/-- Tokens ahead of a mark stay. -/
theorem tks_ahead {a b : List UInt8} {c : UInt8} (hc : mrk (c.toNat : Int) = true) : ∀ (m i : Nat), a.length - i ≤ m → i ≤ a.length → (tks a i).2 = none →
    tks (a ++ c :: b) i = ((tks a i).1 ++ (tks (a ++ c :: b) a.length).1, (tks (a ++ c :: b) a.length).2)
  | m, i, hm, hil, h => by
    by_cases hi : i < a.length
    · cases hx : nx (a.drop i) with
      | bad n => rw [tks_bad hi hx] at h; cases h
      | tok k n =>
        have ht := tk_of hx
        have hn := tk_len ht
        rw [List.length_drop] at hn
        have e : (a ++ c :: b).drop i = a.drop i ++ c :: b := List.drop_append_of_le_length (by omega)
        rw [tks_tok ht] at h ⊢
        cases m with
        | zero => omega
        | succ m =>
          have ht2 : TK ((a ++ c :: b).drop i) k n := by rw [e]; exact tk_app hc ht
          rw [tks_tok ht2, tks_ahead hc m (i + n) (by omega) (by omega) h]
          rfl
    · obtain rfl : i = a.length := by omega
      rw [tks_end (l := a) (Nat.le_refl _)]; rfl
theorem tks_join {a b : List UInt8} {c : UInt8} (hc : mrk (c.toNat : Int) = true) (h : (tks a 0).2 = none) :
    tks (a ++ c :: b) 0 = ((tks a 0).1 ++ (1, a.length, a.length + 1) :: (tks b 0).1.map (sh (a.length + 1)), (tks b 0).2.map (· + (a.length + 1))) := by
  rw [tks_ahead hc _ 0 (Nat.le_refl _) (Nat.zero_le _) h]
  have e : (a ++ c :: b).drop a.length = c :: b := by rw [List.drop_append]; simp
  have hm : TK ((a ++ c :: b).drop a.length) 1 1 := by rw [e]; exact .mark hc
  rw [tks_tok hm]
  have e2 : a ++ c :: b = (a ++ [c]) ++ b := by simp
  have e3 := tks_shift (a ++ [c]) b _ 0 (Nat.le_refl _)
  rw [Nat.add_zero, ← e2, List.length_append] at e3
  rw [show a.length + [c].length = a.length + 1 from rfl] at e3
  rw [e3]
end Jk
end Go.Proofs.YtdclhepjoifpiaaGreatDoor
