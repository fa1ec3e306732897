/- JSON's tokens as lists: a blank behind changes no token but a space; texts made of the same tokens, with blanks between, say the same. -/
import Derived.Test.YtnjmcldhmnpbjaaGreatDoorJfm
import Derived.Test.YtnjmcldhmnpbjaaGreatDoorKym
namespace Go.Proofs.YtnjmcldhmnpbjaaGreatDoor
open Go.RowKit
namespace Jt
open Jk

section
variable {l b : Bs} {c : UInt8} (hc : spc (c.toNat : Int) = true)
include hc
theorem bl_no : ltr (c.toNat : Int) = false ∧ dg (c.toNat : Int) = false ∧ (c.toNat : Int) ≠ 46 ∧ (c.toNat : Int) ≠ 101 ∧ (c.toNat : Int) ≠ 69 ∧ (c.toNat : Int) ≠ 43 ∧ (c.toNat : Int) ≠ 45 := by
  have := spc_v.1 hc
  exact ⟨ltr_no (by omega), dg_no (by omega), by omega, by omega, by omega, by omega, by omega⟩
theorem intE_bl {j : Nat} (hj : j < l.length) : intE (l ++ c :: b) j = intE l j := by
  obtain ⟨_, h3, _⟩ := bl_no hc
  unfold intE
  rw [Jk.bt_lt hj, rw_drop_app h3 (by omega)]
theorem frE_bl {k : Nat} (hk : k ≤ l.length) : frE (l ++ c :: b) k = frE l k := by
  obtain ⟨_, h3, h4, _⟩ := bl_no hc
  have a := test_same (l := l) (b := b) (c := c) (t := fun x => x = 46) (by decide) h4 hk
  unfold frE
  by_cases g : bt l k = 46
  · have hlt : k < l.length := bt_in (by omega)
    have d := test_same (l := l) (b := b) (c := c) (t := fun x => dg x = true) (by decide) (by rw [h3]; simp) (k := k + 1) (by omega)
    rw [rw_drop_app h3 (by omega)]
    by_cases e : dg (bt l (k + 1)) = true
    · rw [if_pos ⟨a.2 g, d.2 e⟩, if_pos ⟨g, e⟩]
    · rw [if_neg (fun q => e (d.1 q.2)), if_neg (fun q => e q.2)]
  · rw [if_neg (fun q => g (a.1 q.1)), if_neg (fun q => g q.1)]
theorem sgE_bl {k : Nat} (hk : k ≤ l.length) : sgE (l ++ c :: b) k = sgE l k := by
  obtain ⟨_, _, _, _, _, h7, h8⟩ := bl_no hc
  have a := test_same (l := l) (b := b) (c := c) (t := fun x => x = 43 ∨ x = 45) (by decide) (by omega) hk
  unfold sgE
  by_cases g : bt l k = 43 ∨ bt l k = 45
  · rw [if_pos (a.2 g), if_pos g]
  · rw [if_neg (fun q => g (a.1 q)), if_neg g]
theorem exE_bl {k : Nat} (hk : k ≤ l.length) : exE (l ++ c :: b) k = exE l k := by
  obtain ⟨_, h3, _, h5, h6, _⟩ := bl_no hc
  have a := test_same (l := l) (b := b) (c := c) (t := fun x => x = 101 ∨ x = 69) (by decide) (by omega) hk
  unfold exE
  by_cases g : bt l k = 101 ∨ bt l k = 69
  · have hlt : k < l.length := bt_in (by omega)
    have s1 := sgE_bl (k := k + 1) hc (l := l) (b := b) (by omega)
    have s2 : sgE l (k + 1) ≤ l.length := by
      unfold sgE
      split
      · have : k + 1 < l.length := bt_in (by omega)
        omega
      · omega
    rw [s1]
    have d := test_same (l := l) (b := b) (c := c) (t := fun x => dg x = true) (by decide) (by rw [h3]; simp) s2
    rw [rw_drop_app h3 s2]
    by_cases e : dg (bt l (sgE l (k + 1))) = true
    · rw [if_pos ⟨a.2 g, d.2 e⟩, if_pos ⟨g, e⟩]
    · rw [if_neg (fun q => e (d.1 q.2)), if_neg (fun q => e q.2)]
  · rw [if_neg (fun q => g (a.1 q.1)), if_neg (fun q => g q.1)]
/-- A blank behind a text changes none of its tokens but a space. -/
theorem tk_bl {k n : Nat} (h : TK l k n) (hk : k ≠ 0) : TK (l ++ c :: b) k n := by
  have hn := tk_len h
  have b0 : bt (l ++ c :: b) 0 = bt l 0 := Jk.bt_lt (by omega)
  obtain ⟨h2', h3, _⟩ := bl_no hc
  cases h with
  | space h => exact absurd rfl hk
  | mark h => exact .mark (by rw [b0]; exact h)
  | word h h2 =>
    have e : (l ++ c :: b).take (rw ltr l) = l.take (rw ltr l) := List.take_append_of_le_length (rw_le _ _)
    have := TK.word (l := l ++ c :: b) (by rw [b0]; exact h) (by rw [rw_app h2', e]; exact h2)
    rwa [rw_app h2'] at this
  | num h h2 =>
    have m1 : mnE (l ++ c :: b) = mnE l := by unfold mnE; rw [b0]
    have i1 := intE_gt h2
    have i2 := frE_ge i1.2
    have hj := dg_in h2
    have := TK.num (l := l ++ c :: b) (by rw [b0]; exact h) (by rw [m1, Jk.bt_lt hj]; exact h2)
    have e : nmE (l ++ c :: b) = nmE l := by unfold nmE; rw [m1, intE_bl hc hj, frE_bl hc i1.2, exE_bl hc i2.2]
    rwa [e] at this
  | str n h h2 =>
    exact .str n (by rw [b0]; exact h) (strE_same _ 1 n (Nat.le_refl _) h2 (fun k hk => Jk.bt_lt (by omega)) (by rw [List.length_append]; omega))
end
/-- Two texts that are the same up to where the first one ends, or has a blank. -/
def Agr (z y : Bs) : Prop := ∃ w r y', y = w ++ y' ∧ z = w ++ r ∧ (r = [] ∨ ∃ c r', r = c :: r' ∧ spc (c.toNat : Int) = true)
theorem tk_agr {x y z : Bs} {k : Nat} (h : TK (x ++ y) k x.length) (hk : k ≠ 0) (ha : Agr z y) : TK (x ++ z) k x.length := by
  obtain ⟨w, r, y', rfl, rfl, hr⟩ := ha
  have h1 : TK (x ++ w) k x.length := by
    have := tk_cut (n := x.length + w.length) h (by omega)
    rw [← List.append_assoc, List.take_append_of_le_length (by rw [List.length_append]; omega), List.take_of_length_le (by rw [List.length_append]; omega)] at this
    exact this
  rcases hr with rfl | ⟨c, r', rfl, hc⟩
  · rw [List.append_nil]; exact h1
  · rw [← List.append_assoc]; exact tk_bl hc h1 hk
/-- What a text's tokens say, but for spaces. -/
def says (l : Bs) : List (Nat × Bs) := (sol l).map fun t => (t.1, part l t.2)
def okT (l : Bs) : Prop := (tks l 0).2 = none
theorem part_sh (x z : Bs) (t : Tok) : part (x ++ z) (sh x.length t).2 = part z t.2 := by
  show ((x ++ z).take (t.2.2 + x.length)).drop (t.2.1 + x.length) = (z.take t.2.2).drop t.2.1
  rw [show t.2.2 + x.length = x.length + t.2.2 by omega, List.take_append, List.take_of_length_le (by omega), Nat.add_sub_cancel_left, show t.2.1 + x.length = x.length + t.2.1 by omega, List.drop_append, List.drop_eq_nil_of_le (by omega), Nat.add_sub_cancel_left, List.nil_append]
theorem tks_two {x z : Bs} {k : Nat} (h : TK (x ++ z) k x.length) : tks (x ++ z) 0 = ((k, 0, x.length) :: (tks z 0).1.map (sh x.length), (tks z 0).2.map (· + x.length)) := by
  have h1 := tks_tok (l := x ++ z) (i := 0) (k := k) (n := x.length) (by rw [List.drop_zero]; exact h)
  have h2 := tks_shift x z _ 0 (Nat.le_refl _)
  rw [Nat.add_zero] at h2
  rw [h1, Nat.zero_add, h2]
theorem says_tok {x z : Bs} {k : Nat} (h : TK (x ++ z) k x.length) : says (x ++ z) = (if k ≠ 0 then [(k, x)] else []) ++ says z ∧ (okT (x ++ z) ↔ okT z) := by
  have e := tks_two h
  constructor
  · unfold says sol
    rw [e]
    have e2 : ∀ L : List Tok, ((L.map (sh x.length)).filter solid).map (fun t => (t.1, part (x ++ z) t.2)) = (L.filter solid).map fun t => (t.1, part z t.2) := fun L => by
      rw [filt_map, List.map_map]
      exact List.map_congr_left fun t _ => by
        show ((sh x.length t).1, part (x ++ z) (sh x.length t).2) = _
        rw [part_sh]; rfl
    by_cases hk : k = 0
    · rw [List.filter_cons_of_neg (by simp [solid, hk]), e2, if_neg (by simp [hk]), List.nil_append]
    · rw [List.filter_cons_of_pos (by simp [solid, hk]), List.map_cons, e2, if_pos hk]
      have : part (x ++ z) (0, x.length) = x := by
        show ((x ++ z).take x.length).drop 0 = x
        rw [List.drop_zero, List.take_left]
      rw [show ((k, 0, x.length) : Tok).1 = k from rfl, show ((k, 0, x.length) : Tok).2 = (0, x.length) from rfl, this]; rfl
  · unfold okT
    rw [e]
    cases (tks z 0).2 <;> simp
def AllB (B : Bs) : Prop := ∀ c ∈ B, spc (c.toNat : Int) = true
theorem AllB.app {a b : Bs} (ha : AllB a) (hb : AllB b) : AllB (a ++ b) := fun c hc => (List.mem_append.1 hc).elim (ha c) (hb c)
theorem rw_blank : ∀ (B z : Bs), AllB B → (z = [] ∨ spc (bt z 0) = false) → rw spc (B ++ z) = B.length
  | [], z, _, hz => by
    rcases hz with rfl | hz
    · rfl
    · cases z with
      | nil => rfl
      | cons c z =>
        rw [List.nil_append, rw]
        have e : bt (c :: z) 0 = (c.toNat : Int) := rfl
        rw [e] at hz
        rw [hz]; rfl
  | c :: B, z, hB, hz => by
    rw [List.cons_append, rw, hB c List.mem_cons_self, if_pos rfl, rw_blank B z (fun d hd => hB d (List.mem_cons_of_mem _ hd)) hz, List.length_cons]
theorem says_blank {B z : Bs} (hB : AllB B) (hz : z = [] ∨ spc (bt z 0) = false) : says (B ++ z) = says z ∧ (okT (B ++ z) ↔ okT z) := by
  cases B with
  | nil => exact ⟨rfl, Iff.rfl⟩
  | cons c B =>
    have h1 : TK ((c :: B) ++ z) 0 (c :: B).length := by
      have h2 : spc (bt ((c :: B) ++ z) 0) = true := hB c List.mem_cons_self
      have := TK.space h2
      rwa [rw_blank _ _ hB hz] at this
    have h3 := says_tok h1
    rw [if_neg (by simp), List.nil_append] at h3
    exact h3
/-- What the law puts ahead of a space that was there. -/
def sepB : List Tok → Bs
  | [] => []
  | u :: _ => if u.1 = 0 then [32] else []
/-- The text that the law makes: tokens, with blanks ahead of each, and behind all. -/
def bld (l : Bs) (S : Nat → Bs) : Nat → List Tok → Bs
  | i, [] => S i
  | i, t :: r => S i ++ ((if t.1 ≠ 0 then part l t.2 else []) ++ (sepB r ++ bld l S (i + 1) r))
theorem sepB_all (r : List Tok) : AllB (sepB r) := by
  unfold sepB
  split
  · exact fun c h => by cases h
  · split
    · intro c h
      rw [List.mem_singleton] at h
      subst h; decide
    · exact fun c h => by cases h
theorem tks_inv {l : Bs} {p : Nat} {t : Tok} {r : List Tok} (h : (tks l p).1 = t :: r) (h2 : (tks l p).2 = none) : ∃ k n, TK (l.drop p) k n ∧ t = (k, p, p + n) ∧ (tks l (p + n)).1 = r ∧ (tks l (p + n)).2 = none := by
  by_cases hlt : p < l.length
  · cases hx : nx (l.drop p) with
    | bad n => rw [tks_bad hlt hx] at h; cases h
    | tok k n =>
      have hk := tk_of hx
      rw [tks_tok hk] at h h2
      injection h with h3 h4
      exact ⟨k, n, hk, h3.symm, h4, h2⟩
  · rw [tks_end (by omega)] at h; cases h
theorem head_solid {l : Bs} {k n : Nat} (h : TK l k n) (hk : k ≠ 0) : spc (bt l 0) = false := by
  cases h with
  | space h => exact absurd rfl hk
  | mark h => have := mrk_v.1 h; exact spc_no (by omega)
  | word h _ => have := ltr_v.1 h; exact spc_no (by omega)
  | num h _ =>
    rcases h with h | h
    · exact spc_no (by omega)
    · have := dg_iff.1 h; exact spc_no (by omega)
  | str n h _ => exact spc_no (by omega)
theorem cut_at {l : Bs} {p n : Nat} (h : n ≤ (l.drop p).length) : l.drop p = part l (p, p + n) ++ l.drop (p + n) ∧ (part l (p, p + n)).length = n := by
  have e : part l (p, p + n) = (l.drop p).take n := by
    show (l.take (p + n)).drop p = _
    rw [List.drop_take, Nat.add_sub_cancel_left]
  rw [e]
  refine ⟨?_, by rw [List.length_take]; omega⟩
  rw [← List.drop_drop, List.take_append_drop]
theorem agr_bld {l : Bs} {S : Nat → Bs} (hS : ∀ i, AllB (S i)) : ∀ (r : List Tok) (q i : Nat), (tks l q).1 = r → (tks l q).2 = none → Agr (sepB r ++ bld l S i r) (l.drop q)
  | [], q, i, _, _ => by
    refine ⟨[], S i, l.drop q, rfl, rfl, ?_⟩
    cases hs : S i with
    | nil => exact .inl rfl
    | cons c r => exact .inr ⟨c, r, rfl, hS i c (by rw [hs]; exact List.mem_cons_self)⟩
  | u :: r, q, i, h, h2 => by
    obtain ⟨k, n, hk, rfl, h3, h4⟩ := tks_inv h h2
    by_cases hk0 : k = 0
    · refine ⟨[], _, l.drop q, rfl, rfl, .inr ⟨32, bld l S i ((k, q, q + n) :: r), ?_, by decide⟩⟩
      have e : sepB ((k, q, q + n) :: r) = [32] := by show (if k = 0 then [32] else []) = _; rw [if_pos hk0]
      rw [e]; rfl
    · have hsep : sepB ((k, q, q + n) :: r) = [] := by show (if k = 0 then [32] else []) = _; rw [if_neg hk0]
      rw [hsep, List.nil_append, bld, if_pos hk0]
      cases hs : S i with
      | cons c r' => exact ⟨[], _, l.drop q, rfl, rfl, .inr ⟨c, _, rfl, hS i c (by rw [hs]; exact List.mem_cons_self)⟩⟩
      | nil =>
        obtain ⟨e1, _⟩ := cut_at (tk_len hk).2
        obtain ⟨w, r2, y', q1, q2, q3⟩ := agr_bld hS r (q + n) (i + 1) h3 h4
        refine ⟨part l (q, q + n) ++ w, r2, y', by rw [e1, q1, List.append_assoc], ?_, q3⟩
        rw [List.nil_append, q2, List.append_assoc]
/-- The text that is made has the same tokens, but for spaces; none of them is wrong. -/
theorem bld_says {l : Bs} {S : Nat → Bs} (hS : ∀ i, AllB (S i)) : ∀ (T : List Tok) (p i : Nat) (B : Bs), (tks l p).1 = T → (tks l p).2 = none → AllB B →
    okT (B ++ bld l S i T) ∧ says (B ++ bld l S i T) = (T.filter solid).map fun t => (t.1, part l t.2)
  | [], p, i, B, _, _, hB => by
    have h := says_blank (z := []) (hB.app (hS i)) (.inl rfl)
    rw [List.append_nil] at h
    rw [bld]
    refine ⟨h.2.2 ?_, h.1.trans ?_⟩
    · unfold okT; rw [tks_end (l := []) (i := 0) (Nat.le_refl _)]
    · unfold says sol; rw [tks_end (l := []) (i := 0) (Nat.le_refl _)]; rfl
  | t :: r, p, i, B, h, h2, hB => by
    obtain ⟨k, n, hk, rfl, h3, h4⟩ := tks_inv h h2
    rw [bld]
    by_cases hk0 : k = 0
    · rw [if_neg (by simp [hk0]), List.nil_append, List.filter_cons_of_neg (by simp [solid, hk0])]
      have := bld_says hS r (p + n) (i + 1) (B ++ S i ++ sepB r) h3 h4 ((hB.app (hS i)).app (sepB_all r))
      rw [show B ++ S i ++ sepB r ++ bld l S (i + 1) r = B ++ (S i ++ (sepB r ++ bld l S (i + 1) r)) by simp] at this
      exact this
    · rw [if_pos hk0, List.filter_cons_of_pos (by simp [solid, hk0]), List.map_cons]
      obtain ⟨e1, e2⟩ := cut_at (tk_len hk).2
      have hx : TK (part l (p, p + n) ++ l.drop (p + n)) k (part l (p, p + n)).length := by rw [e2, ← e1]; exact hk
      have ha := agr_bld hS r (p + n) (i + 1) h3 h4
      have hz := tk_agr hx hk0 ha
      obtain ⟨q1, q2⟩ := bld_says hS r (p + n) (i + 1) (sepB r) h3 h4 (sepB_all r)
      obtain ⟨q3, q4⟩ := says_tok hz
      obtain ⟨q5, q6⟩ := says_blank (B := B ++ S i) (z := part l (p, p + n) ++ (sepB r ++ bld l S (i + 1) r)) (hB.app (hS i)) (.inr (head_solid hz hk0))
      rw [List.append_assoc] at q5 q6
      refine ⟨q6.2 (q4.2 q1), ?_⟩
      rw [q5, q3, q2, if_pos hk0]; rfl
end Jt
end Go.Proofs.YtnjmcldhmnpbjaaGreatDoor
