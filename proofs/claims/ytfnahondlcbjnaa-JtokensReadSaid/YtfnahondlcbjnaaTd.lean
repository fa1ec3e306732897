/- JSON's tokens as lists: a mark behind changes no token; all tokens of two texts with a mark between. -/
import Derived.Test.YtfnahondlcbjnaaTc
namespace Go.Proofs.Ytfnahondlcbjnaa
open Go.RowKit
namespace Jk

section
variable {l b : List UInt8} {c : UInt8} (hc : mrk (c.toNat : Int) = true)
include hc
theorem mk_no : spc (c.toNat : Int) = false ∧ ltr (c.toNat : Int) = false ∧ dg (c.toNat : Int) = false ∧ (c.toNat : Int) ≠ 46 ∧ (c.toNat : Int) ≠ 101 ∧ (c.toNat : Int) ≠ 69 ∧ (c.toNat : Int) ≠ 43 ∧ (c.toNat : Int) ≠ 45 := by
  have := mrk_v.1 hc
  exact ⟨spc_no (by omega), ltr_no (by omega), dg_no (by omega), by omega, by omega, by omega, by omega, by omega⟩
omit hc in
theorem bt_lt {k : Nat} (h : k < l.length) : bt (l ++ c :: b) k = bt l k := by rw [bt_app, if_pos h]
omit hc in
theorem bt_len : bt (l ++ c :: b) l.length = (c.toNat : Int) := by rw [bt_app, if_neg (by omega), Nat.sub_self]; rfl
omit hc in
/-- A test that neither nought nor the mark passes is answered alike up to the mark. -/
theorem test_same {t : Int → Prop} (h0 : ¬ t 0) (hm : ¬ t (c.toNat : Int)) {k : Nat} (hk : k ≤ l.length) : t (bt (l ++ c :: b) k) ↔ t (bt l k) := by
  by_cases h : k < l.length
  · rw [bt_lt h]
  · obtain rfl : k = l.length := by omega
    rw [bt_len, bt_far (Nat.le_refl _)]
    exact ⟨fun g => absurd g hm, fun g => absurd g h0⟩
omit hc in
theorem rw_drop_app {p : Int → Bool} (hp : p (c.toNat : Int) = false) {k : Nat} (hk : k ≤ l.length) : rw p ((l ++ c :: b).drop k) = rw p (l.drop k) := by
  rw [List.drop_append_of_le_length hk, rw_app hp]
theorem intE_app {j : Nat} (hj : j < l.length) : intE (l ++ c :: b) j = intE l j := by
  obtain ⟨_, _, h3, _⟩ := mk_no hc
  unfold intE
  rw [bt_lt hj, rw_drop_app h3 (by omega)]
theorem frE_app {k : Nat} (hk : k ≤ l.length) : frE (l ++ c :: b) k = frE l k := by
  obtain ⟨_, _, h3, h4, _⟩ := mk_no hc
  have a := test_same (l := l) (b := b) (c := c) (t := fun x => x = 46) (by decide) h4 hk
  unfold frE
  by_cases g : bt l k = 46
  · have hlt : k < l.length := bt_in (by omega)
    have d := test_same (l := l) (b := b) (c := c) (t := fun x => dg x = true) (by decide) (by rw [h3]; simp) (k := k + 1) (by omega)
    rw [rw_drop_app h3 (by omega)]
    by_cases e : dg (bt l (k + 1)) = true
    · rw [if_pos ⟨a.2 g, d.2 e⟩, if_pos ⟨g, e⟩]
    · rw [if_neg (fun q => e (d.1 q.2)), if_neg (fun q => e q.2)]
  · rw [if_neg (fun q => g (a.1 q.1)), if_neg (fun q => g q.1)]
theorem sgE_app {k : Nat} (hk : k ≤ l.length) : sgE (l ++ c :: b) k = sgE l k := by
  obtain ⟨_, _, _, _, _, _, h7, h8⟩ := mk_no hc
  have a := test_same (l := l) (b := b) (c := c) (t := fun x => x = 43 ∨ x = 45) (by decide) (by omega) hk
  unfold sgE
  by_cases g : bt l k = 43 ∨ bt l k = 45
  · rw [if_pos (a.2 g), if_pos g]
  · rw [if_neg (fun q => g (a.1 q)), if_neg g]
theorem exE_app {k : Nat} (hk : k ≤ l.length) : exE (l ++ c :: b) k = exE l k := by
  obtain ⟨_, _, h3, _, h5, h6, _⟩ := mk_no hc
  have a := test_same (l := l) (b := b) (c := c) (t := fun x => x = 101 ∨ x = 69) (by decide) (by omega) hk
  unfold exE
  by_cases g : bt l k = 101 ∨ bt l k = 69
  · have hlt : k < l.length := bt_in (by omega)
    have s1 := sgE_app (k := k + 1) hc (l := l) (b := b) (by omega)
    have s2 : sgE l (k + 1) ≤ l.length := by
      unfold sgE
      split
      · have : k + 1 < l.length := bt_in (by omega)
        omega
      · omega
    rw [s1]
    have d := test_same (l := l) (b := b) (c := c) (t := fun x => dg x = true) (by decide) (by rw [h3]; simp) s2
    rw [rw_drop_app h3 s2]
    by_cases e : dg (bt l (sgE l (k + 1))) = true
    · rw [if_pos ⟨a.2 g, d.2 e⟩, if_pos ⟨g, e⟩]
    · rw [if_neg (fun q => e (d.1 q.2)), if_neg (fun q => e q.2)]
  · rw [if_neg (fun q => g (a.1 q.1)), if_neg (fun q => g q.1)]
theorem tk_app {k n : Nat} (h : TK l k n) : TK (l ++ c :: b) k n := by
  have hn := tk_len h
  have b0 : bt (l ++ c :: b) 0 = bt l 0 := bt_lt (by omega)
  obtain ⟨h1, h2', h3, _⟩ := mk_no hc
  cases h with
  | space h =>
    have := TK.space (l := l ++ c :: b) (by rw [b0]; exact h)
    rwa [rw_app h1] at this
  | mark h => exact .mark (by rw [b0]; exact h)
  | word h h2 =>
    have e : (l ++ c :: b).take (rw ltr l) = l.take (rw ltr l) := List.take_append_of_le_length (rw_le _ _)
    have := TK.word (l := l ++ c :: b) (by rw [b0]; exact h) (by rw [rw_app h2', e]; exact h2)
    rwa [rw_app h2'] at this
  | num h h2 =>
    have m1 : mnE (l ++ c :: b) = mnE l := by unfold mnE; rw [b0]
    have i1 := intE_gt h2
    have i2 := frE_ge i1.2
    have hj := dg_in h2
    have := TK.num (l := l ++ c :: b) (by rw [b0]; exact h) (by rw [m1, bt_lt hj]; exact h2)
    have e : nmE (l ++ c :: b) = nmE l := by unfold nmE; rw [m1, intE_app hc hj, frE_app hc i1.2, exE_app hc i2.2]
    rwa [e] at this
  | str n h h2 =>
    exact .str n (by rw [b0]; exact h) (strE_same _ 1 n (Nat.le_refl _) h2 (fun k hk => bt_lt (by omega)) (by rw [List.length_append]; omega))
end
/-- A round of all tokens. -/
theorem tks_tok {l : List UInt8} {i k n : Nat} (h : TK (l.drop i) k n) : tks l i = ((k, i, i + n) :: (tks l (i + n)).1, (tks l (i + n)).2) := by
  have hn := tk_len h
  rw [List.length_drop] at hn
  rw [tks, dif_pos (by omega), nx_of h]
  show (if h2 : 0 < n then _ else _) = _
  rw [dif_pos hn.1]
theorem tks_bad {l : List UInt8} {i n : Nat} (hi : i < l.length) (h : nx (l.drop i) = .bad n) : tks l i = ([], some (i + n)) := by
  rw [tks, dif_pos hi, h]
theorem tks_end {l : List UInt8} {i : Nat} (hi : l.length ≤ i) : tks l i = ([], none) := by
  rw [tks, dif_neg (by omega)]
/-- Each token's bytes alone are that token. -/
theorem tks_own {l : List UInt8} {i k n : Nat} (h : TK (l.drop i) k n) : tks ((l.take (i + n)).drop i) 0 = ([(k, 0, n)], none) := by
  have e : (l.take (i + n)).drop i = (l.drop i).take n := by rw [List.take_drop]
  have ht := tk_take h
  have hn := tk_len h
  rw [e]
  have := tks_tok (l := (l.drop i).take n) (i := 0) (by rw [List.drop_zero]; exact ht)
  rw [this, Nat.zero_add, tks_end (by rw [List.length_take]; omega)]
def sh (d : Nat) (t : Nat × Nat × Nat) : Nat × Nat × Nat := (t.1, t.2.1 + d, t.2.2 + d)
/-- What stands behind is told as much later. -/
theorem tks_shift (p b : List UInt8) : ∀ (m i : Nat), b.length - i ≤ m → tks (p ++ b) (p.length + i) = ((tks b i).1.map (sh p.length), (tks b i).2.map (· + p.length))
  | m, i, hm => by
    by_cases hi : i < b.length
    · have e : (p ++ b).drop (p.length + i) = b.drop i := by rw [List.drop_append]; simp
      cases hx : nx (b.drop i) with
      | bad n =>
        rw [tks_bad hi hx, tks_bad (by rw [List.length_append]; omega) (by rw [e]; exact hx)]
        simp; omega
      | tok k n =>
        have ht := tk_of hx
        have hn := tk_len ht
        cases m with
        | zero => omega
        | succ m =>
          rw [tks_tok ht, tks_tok (by rw [e]; exact ht), Nat.add_assoc, tks_shift p b m (i + n) (by omega)]
          simp [sh]; omega
    · rw [tks_end (l := b) (by omega), tks_end (l := p ++ b) (by rw [List.length_append]; omega)]; rfl
/-- Tokens ahead of a mark stay. -/
theorem tks_ahead {a b : List UInt8} {c : UInt8} (hc : mrk (c.toNat : Int) = true) : ∀ (m i : Nat), a.length - i ≤ m → i ≤ a.length → (tks a i).2 = none →
    tks (a ++ c :: b) i = ((tks a i).1 ++ (tks (a ++ c :: b) a.length).1, (tks (a ++ c :: b) a.length).2)
  | m, i, hm, hil, h => by
    by_cases hi : i < a.length
    · cases hx : nx (a.drop i) with
      | bad n => rw [tks_bad hi hx] at h; cases h
      | tok k n =>
        have ht := tk_of hx
        have hn := tk_len ht
        rw [List.length_drop] at hn
        have e : (a ++ c :: b).drop i = a.drop i ++ c :: b := List.drop_append_of_le_length (by omega)
        rw [tks_tok ht] at h ⊢
        cases m with
        | zero => omega
        | succ m =>
          have ht2 : TK ((a ++ c :: b).drop i) k n := by rw [e]; exact tk_app hc ht
          rw [tks_tok ht2, tks_ahead hc m (i + n) (by omega) (by omega) h]
          rfl
    · obtain rfl : i = a.length := by omega
      rw [tks_end (l := a) (Nat.le_refl _)]; rfl
theorem tks_join {a b : List UInt8} {c : UInt8} (hc : mrk (c.toNat : Int) = true) (h : (tks a 0).2 = none) :
    tks (a ++ c :: b) 0 = ((tks a 0).1 ++ (1, a.length, a.length + 1) :: (tks b 0).1.map (sh (a.length + 1)), (tks b 0).2.map (· + (a.length + 1))) := by
  rw [tks_ahead hc _ 0 (Nat.le_refl _) (Nat.zero_le _) h]
  have e : (a ++ c :: b).drop a.length = c :: b := by rw [List.drop_append]; simp
  have hm : TK ((a ++ c :: b).drop a.length) 1 1 := by rw [e]; exact .mark hc
  rw [tks_tok hm]
  have e2 : a ++ c :: b = (a ++ [c]) ++ b := by simp
  have e3 := tks_shift (a ++ [c]) b _ 0 (Nat.le_refl _)
  rw [Nat.add_zero, ← e2, List.length_append] at e3
  rw [show a.length + [c].length = a.length + 1 from rfl] at e3
  rw [e3]
end Jk
end Go.Proofs.Ytfnahondlcbjnaa
