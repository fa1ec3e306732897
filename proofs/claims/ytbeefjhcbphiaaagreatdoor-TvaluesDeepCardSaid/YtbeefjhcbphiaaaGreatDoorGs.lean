/- Texts of lists within lists, as deep as may be: what is read of them. -/
import Derived.Test.YtbeefjhcbphiaaaGreatDoorHw
namespace Go.Proofs.YtbeefjhcbphiaaaGreatDoor
open Go.RowKit
namespace Tv
open Ty (WR1 KR Ky Bs blK endP endP_on endP_no endP_far)

theorem gap_self {l : Bs} {p : Nat} (h1 : bt l p ≠ 9) (h2 : bt l p ≠ 32) (h3 : bt l p ≠ 35) (h4 : bt l p ≠ 10) (h5 : bt l p ≠ 13) : gap l p = .ok p := by
  have e1 : endP blK l p = p := endP_no (decide_eq_false (by omega))
  have e2 : cm l p = p := by rw [cm, if_neg (fun e => h3 e.2)]
  rw [gap, gp, e1, e2, if_neg h4, if_neg h5]
theorem tell1 {m : Bs} (h0 : bt m 0 = 49) (h1 : bt m 1 = 93 ∨ bt m 1 = 125) : tellB m = ⟨4, [49], 1, 0⟩ := by
  have l0 := bt_in h0 (by decide)
  have hx : Da.t2 m 0 = false := by
    cases h : Da.t2 m 0 with
    | false => rfl
    | true => have := (Da.t2_iff.1 h).2; rw [Nat.zero_add] at this; omega
  have hd : Da.dte m = false := by
    cases h : Da.dte m with
    | false => rfl
    | true => have := (Da.dte_iff.1 h).1; rw [hx] at this; cases this
  have hT' : Da.hT m = false := by
    unfold Da.hT
    rw [hd, if_neg (by decide)]
    cases h : Da.clk m 0 with
    | false => rfl
    | true => have := (Da.clk_iff.1 h).1; rw [hx] at this; cases this
  have he : Da.en m = 0 := by
    unfold Da.en
    rw [hT', hd]; rfl
  have hq : endP tkC m 0 = 1 := by
    rw [endP_on l0 (by rw [h0]; decide), endP_no (by rcases h1 with h1 | h1 <;> rw [h1] <;> decide)]
  have ht : m.take 1 = [49] := by
    cases m with
    | nil => simp at l0
    | cons c r =>
      have : (c.toNat : Int) = 49 := h0
      have : c = 49 := by apply UInt8.toNat_inj.1; show c.toNat = 49; omega
      rw [this]; rfl
  unfold tellB
  rw [he, if_neg (by decide), hq, ht]
  have e : tokB [49] = (4, [49], 0) := by decide +kernel
  rw [e]
theorem envF_l (l : Bs) : (envF l).l = l := rfl
theorem addSub_len (s : St) (n : Nat) : (s.addSub n).X.length = s.X.length := by simp [St.addSub]
theorem lists_ok {l : Bs} : ∀ (j f : Nat) (s : St) (ar : Nat), (∀ i, i < j → bt l (s.a + i) = 91) → bt l (s.a + j) = 49 → (bt l (s.a + j + 1) = 93 ∨ bt l (s.a + j + 1) = 125) → (∀ i, i < j → bt l (s.a + j + 1 + i) = 93) → 2 * j < f → ar + j ≤ 256 →
    ∃ s', val (envF l) f s ar = .ok s' ∧ s'.a = s.a + 2 * j + 1 ∧ s'.X.length = s.X.length + j + 1
  | 0, 0, _, _, _, _, _, _, hf, _ => absurd hf (by omega)
  | 0, f + 1, s, ar, _, h1, h2, _, _, _ => by
    have h1 : bt l s.a = 49 := h1
    have ht : (envF l).tk s.a = ⟨4, [49], 1, 0⟩ := tell1 (m := l.drop s.a) (by rw [bt_drop]; exact h1) (by rw [bt_drop]; exact h2)
    refine ⟨s.push (Nd.leaf 4 [49] (s.a, ((s.a + 1 : Nat) : Int))) (s.a + 1), ?_, rfl, push_len ..⟩
    rw [val, envF_l, if_neg (show ¬ (bt l s.a = 34 ∨ bt l s.a = 39) by omega), if_neg (show ¬ bt l s.a = 91 by omega), if_neg (show ¬ bt l s.a = 123 by omega), bare, ht, if_pos rfl]
  | j + 1, 0, _, _, _, _, _, _, hf, _ => absurd hf (by omega)
  | j + 1, 1, _, _, _, _, _, _, hf, _ => absurd hf (by omega)
  | j + 1, f + 2, s, ar, h0, h1, h2, h3, hf, ha => by
    have b0 : bt l s.a = 91 := h0 0 (by omega)
    have b1 : bt l (s.a + 1) = 91 ∨ bt l (s.a + 1) = 49 := by
      rcases Nat.eq_zero_or_pos j with rfl | hj
      · exact .inr h1
      · exact .inl (h0 1 (by omega))
    have g1 : gap l (s.a + 1) = .ok (s.a + 1) := gap_self (by omega) (by omega) (by omega) (by omega) (by omega)
    obtain ⟨s1, e1⟩ : ∃ s1, s1 = (s.push (Nd.leaf 7 [] (s.a, ((s.a + 1 : Nat) : Int))) (s.a + 1)).addSub s.X.length := ⟨_, rfl⟩
    have ea : s1.a = s.a + 1 := by rw [e1]; rfl
    have el : s1.X.length = s.X.length + 1 := by rw [e1, addSub_len, push_len]
    obtain ⟨s2, v2, a2, l2⟩ := lists_ok j f s1 (ar + 1) (fun i hi => by rw [ea, show s.a + 1 + i = s.a + (i + 1) by omega]; exact h0 _ (by omega)) (by rw [ea, show s.a + 1 + j = s.a + (j + 1) by omega]; exact h1)
      (by rw [ea, show s.a + 1 + j + 1 = s.a + (j + 1) + 1 by omega]; exact h2) (fun i hi => by rw [ea, show s.a + 1 + j + 1 + i = s.a + (j + 1) + 1 + i by omega]; exact h3 _ (by omega)) (by omega) (by omega)
    have b2 : bt l s2.a = 93 := by rw [a2, ea, show s.a + 1 + 2 * j + 1 = s.a + (j + 1) + 1 + j by omega]; exact h3 _ (by omega)
    have g2 : gap l s2.a = .ok s2.a := gap_self (by omega) (by omega) (by omega) (by omega) (by omega)
    refine ⟨St.close { s2 with a := s2.a } s.X.length, ?_, ?_, ?_⟩
    · rw [val, envF_l, if_neg (show ¬ (bt l s.a = 34 ∨ bt l s.a = 39) by omega), if_pos (show bt l s.a = 91 from b0), if_neg (by omega), g1]
      show items (envF l) (f + 1) s.X.length (s.push (Nd.leaf 7 [] (s.a, ((s.a + 1 : Nat) : Int))) (s.a + 1)) ar = _
      rw [items, envF_l, if_neg (show ¬ bt l (s.push (Nd.leaf 7 [] (s.a, ((s.a + 1 : Nat) : Int))) (s.a + 1)).a = 93 from fun e => by have e : bt l (s.a + 1) = 93 := e; omega), ← e1, v2]
      simp only [g2]
      rw [if_neg (show ¬ bt l s2.a = 44 by omega), if_pos b2]
    · show s2.a + 1 = _
      omega
    · rw [close_len]; show s2.X.length = _; omega
theorem lists_bad {l : Bs} : ∀ (j f : Nat) (s : St) (ar : Nat), (∀ i, i ≤ j → bt l (s.a + i) = 91) → 2 * j < f → (ar + j = 256 ∨ j = 0 ∧ 256 ≤ ar) → val (envF l) f s ar = .bad 4 (s.a + j)
  | 0, 0, _, _, _, hf, _ => absurd hf (by omega)
  | 0, f + 1, s, ar, h0, _, ha => by
    have b0 : bt l s.a = 91 := h0 0 (by omega)
    rw [val, envF_l, if_neg (show ¬ (bt l s.a = 34 ∨ bt l s.a = 39) by omega), if_pos (show bt l s.a = 91 from b0), if_pos (by omega)]; rfl
  | j + 1, 0, _, _, _, hf, _ => absurd hf (by omega)
  | j + 1, 1, _, _, _, hf, _ => absurd hf (by omega)
  | j + 1, f + 2, s, ar, h0, hf, ha => by
    have b0 : bt l s.a = 91 := h0 0 (by omega)
    have b1 : bt l (s.a + 1) = 91 := h0 1 (by omega)
    have g1 : gap l (s.a + 1) = .ok (s.a + 1) := gap_self (by omega) (by omega) (by omega) (by omega) (by omega)
    have ih := lists_bad j f ((s.push (Nd.leaf 7 [] (s.a, ((s.a + 1 : Nat) : Int))) (s.a + 1)).addSub s.X.length) (ar + 1) (fun i hi => by show bt l (s.a + 1 + i) = 91; rw [show s.a + 1 + i = s.a + (i + 1) by omega]; exact h0 _ (by omega)) (by omega) (by omega)
    rw [val, envF_l, if_neg (show ¬ (bt l s.a = 34 ∨ bt l s.a = 39) by omega), if_pos (show bt l s.a = 91 from b0), if_neg (by omega), g1]
    show items (envF l) (f + 1) s.X.length (s.push (Nd.leaf 7 [] (s.a, ((s.a + 1 : Nat) : Int))) (s.a + 1)) ar = _
    rw [items, envF_l, if_neg (show ¬ bt l (s.push (Nd.leaf 7 [] (s.a, ((s.a + 1 : Nat) : Int))) (s.a + 1)).a = 93 from fun e => by have e : bt l (s.a + 1) = 93 := e; omega), ih]
    show Rs.bad 4 (s.a + 1 + j) = _
    rw [show s.a + 1 + j = s.a + (j + 1) by omega]
end Tv
end Go.Proofs.YtbeefjhcbphiaaaGreatDoor
/- Texts of tables within tables, and of dotted keys, as deep as may be: what is read of them. -/
namespace Go.Proofs.YtbeefjhcbphiaaaGreatDoor
open Go.RowKit
namespace Tv
open Ty (WR1 KR Ky Bs blK plK nxt krun endP endP_on endP_no endP_far)

theorem take1 {m : Bs} {c : UInt8} (h : bt m 0 = (c.toNat : Int)) (hc : c ≠ 0) : m.take 1 = [c] := by
  cases m with
  | nil =>
    have h1 : (0 : Int) = (c.toNat : Int) := h
    exact absurd (UInt8.toNat_inj.1 (show c.toNat = (0 : UInt8).toNat from by show c.toNat = 0; omega)) hc
  | cons d r =>
    have h1 : (d.toNat : Int) = (c.toNat : Int) := h
    rw [show d = c from UInt8.toNat_inj.1 (by omega)]; rfl
theorem blk_self {l : Bs} {p : Nat} (h1 : bt l p ≠ 9) (h2 : bt l p ≠ 32) : endP blK l p = p := endP_no (decide_eq_false (by omega))
theorem word_a {l : Bs} {q : Nat} (h : bt l q = 97) (h1 : bt l (q + 1) = 46 ∨ bt l (q + 1) = 61) : wdF l q = .ok [97] (q + 1) := by
  have hl := bt_in h (by decide)
  have e : endP plK l q = q + 1 := by
    rw [endP_on hl (by rw [h]; decide), endP_no (by rcases h1 with h1 | h1 <;> rw [h1] <;> decide)]
  unfold wdF
  rw [e, if_pos (by omega), List.drop_take, show q + 1 - q = 1 by omega, take1 (c := 97) (by rw [bt_drop]; exact h) (by decide)]
/-- The words of a dotted key of one letter each. -/
def kyA : Nat → Nat → Ky
  | q, 0 => [([97], (q, q + 1))]
  | q, i + 1 => ([97], (q, q + 1)) :: kyA (q + 2) i
theorem krun_as {l : Bs} : ∀ (i f q : Nat) (k : Ky), (∀ t, t ≤ i → bt l (q + 2 * t) = 97) → (∀ t, t < i → bt l (q + 2 * t + 1) = 46) → bt l (q + 2 * i + 1) = 61 → i < f → krun (wdF l) l f q k = .ok (k ++ kyA q i) (q + 2 * i + 1)
  | _, 0, _, _, _, _, _, hf => absurd hf (by omega)
  | 0, f + 1, q, k, h0, _, h2, _ => by
    have h2 : bt l (q + 1) = 61 := h2
    have hn : nxt l (q + 1) = none := by unfold nxt; rw [blk_self (by omega) (by omega), if_neg (fun e => by have := e.2; omega)]
    have a0 : bt l q = 97 := h0 0 (by omega)
    rw [krun, word_a a0 (.inr h2)]
    simp only [hn]; rfl
  | i + 1, f + 1, q, k, h0, h1, h2, hf => by
    have a0 : bt l q = 97 := h0 0 (by omega)
    have a1 : bt l (q + 1) = 46 := h1 0 (by omega)
    have a2 : bt l (q + 1 + 1) = 97 := h0 1 (by omega)
    have hn : nxt l (q + 1) = some (q + 2) := by
      unfold nxt
      rw [blk_self (by omega) (by omega), if_pos ⟨bt_in a1 (by decide), a1⟩, blk_self (by omega) (by omega)]
    rw [krun, word_a a0 (.inl a1)]
    simp only [hn]
    rw [krun_as i f (q + 2) _ (fun t ht => by rw [show q + 2 + 2 * t = q + 2 * (t + 1) by omega]; exact h0 _ (by omega)) (fun t ht => by rw [show q + 2 + 2 * t + 1 = q + 2 * (t + 1) + 1 by omega]; exact h1 _ (by omega)) (by rw [show q + 2 + 2 * i + 1 = q + 2 * (i + 1) + 1 by omega]; exact h2) (by omega)]
    rw [show q + 2 + 2 * i + 1 = q + 2 * (i + 1) + 1 by omega]
    simp [kyA]
theorem key_a {l : Bs} {q : Nat} (h : bt l q = 97) (h1 : bt l (q + 1) = 61) : (envF l).kd q = .ok [([97], (q, q + 1))] (q + 1) :=
  krun_as 0 (l.length + 1) q [] (fun t ht => by rw [show q + 2 * t = q by omega]; exact h) (fun t ht => absurd ht (by omega)) h1 (by omega)
/-- Names that are none of a node's. -/
theorem lk_new {m : Nm} {n : Nat} {w : Bs} (h : ∀ x ∈ m, x.1.1 < n) : lk m (n, w) = none := by
  induction m with
  | nil => rfl
  | cons x m ih =>
    have h1 := h x (List.mem_cons_self ..)
    rw [lk, if_neg (fun e => by rw [e] at h1; exact absurd h1 (by simp)), ih fun y hy => h y (List.mem_cons_of_mem _ hy)]
theorem tables_ok {l : Bs} : ∀ (j f : Nat) (s : St) (ar : Nat), (∀ i, i < j → bt l (s.a + 3 * i) = 123 ∧ bt l (s.a + 3 * i + 1) = 97 ∧ bt l (s.a + 3 * i + 2) = 61) → bt l (s.a + 3 * j) = 49 → (bt l (s.a + 3 * j + 1) = 93 ∨ bt l (s.a + 3 * j + 1) = 125) → (∀ i, i < j → bt l (s.a + 3 * j + 1 + i) = 125) →
    (∀ x ∈ s.m, x.1.1 < s.X.length) → 2 * j < f → ar + j ≤ 256 → ∃ s', val (envF l) f s ar = .ok s' ∧ s'.a = s.a + 4 * j + 1 ∧ s'.X.length = s.X.length + j + 1
  | 0, f, s, ar, _, h1, h2, _, _, hf, ha => by
    obtain ⟨s', v, a, n⟩ := lists_ok (l := l) 0 f s ar (fun i hi => absurd hi (by omega)) h1 h2 (fun i hi => absurd hi (by omega)) hf (by omega)
    exact ⟨s', v, by omega, by omega⟩
  | j + 1, 0, _, _, _, _, _, _, _, hf, _ => absurd hf (by omega)
  | j + 1, 1, _, _, _, _, _, _, _, hf, _ => absurd hf (by omega)
  | j + 1, f + 2, s, ar, h0, h1, h2, h3, hm, hf, ha => by
    obtain ⟨b0, b1, b2⟩ := h0 0 (by omega)
    have b0 : bt l s.a = 123 := b0
    have b1 : bt l (s.a + 1) = 97 := b1
    have b2 : bt l (s.a + 2) = 61 := b2
    have b3 : bt l (s.a + 3) = 123 ∨ bt l (s.a + 3) = 49 := by
      rcases Nat.eq_zero_or_pos j with rfl | hj
      · exact .inr h1
      · exact .inl (h0 1 (by omega)).1
    have k1 : endP blK l (s.a + 1) = s.a + 1 := blk_self (by omega) (by omega)
    have k2 : endP blK l (s.a + 1 + 1) = s.a + 2 := blk_self (by rw [show s.a + 1 + 1 = s.a + 2 from rfl]; omega) (by rw [show s.a + 1 + 1 = s.a + 2 from rfl]; omega)
    have k3 : endP blK l (s.a + 2 + 1) = s.a + 3 := blk_self (by rw [show s.a + 2 + 1 = s.a + 3 from rfl]; omega) (by rw [show s.a + 2 + 1 = s.a + 3 from rfl]; omega)
    obtain ⟨s0, e0⟩ : ∃ s0, s0 = s.push (Nd.leaf 8 [] (s.a, ((s.a + 1 : Nat) : Int))) (s.a + 1) := ⟨_, rfl⟩
    obtain ⟨s1, e1⟩ : ∃ s1, s1 = ({ s0 with a := s.a + 1 } : St).hang s.X.length [97] (s.a + 1, s.a + 1 + 1) := ⟨_, rfl⟩
    have hl0 : s0.X.length = s.X.length + 1 := by rw [e0, push_len]
    have hl1 : s1.X.length = s.X.length + 1 := by rw [e1]; simp [St.hang, hl0]
    have hm1 : ∀ x ∈ s1.m, x.1.1 < s1.X.length := by
      rw [hl1, e1, e0]
      intro x hx
      have hx : x = ((s.X.length, [97]), (s.X ++ [Nd.leaf 8 [] (s.a, ((s.a + 1 : Nat) : Int))]).length) ∨ x ∈ s.m := by simpa [St.hang, St.push] using hx
      rcases hx with rfl | hx
      · exact Nat.lt_succ_self _
      · have := hm x hx; omega
    have ld : lead [([97], (s.a + 1, s.a + 1 + 1))] s.X.length (ar + 1) { s0 with a := s.a + 1 } = .ok s1 := by
      have hn : lk ({ s0 with a := s.a + 1 } : St).m (s.X.length, [97]) = none := lk_new (by rw [e0]; exact hm)
      rw [lead]; simp only [hn]; rw [e1]
    obtain ⟨s2, v2, a2, l2⟩ := tables_ok j f { s1 with a := s.a + 3 } (ar + 1) (fun i hi => by show bt l (s.a + 3 + 3 * i) = 123 ∧ bt l (s.a + 3 + 3 * i + 1) = 97 ∧ bt l (s.a + 3 + 3 * i + 2) = 61; rw [show s.a + 3 + 3 * i = s.a + 3 * (i + 1) by omega]; exact h0 _ (by omega))
      (by show bt l (s.a + 3 + 3 * j) = 49; rw [show s.a + 3 + 3 * j = s.a + 3 * (j + 1) by omega]; exact h1) (by show bt l (s.a + 3 + 3 * j + 1) = 93 ∨ bt l (s.a + 3 + 3 * j + 1) = 125; rw [show s.a + 3 + 3 * j = s.a + 3 * (j + 1) by omega]; exact h2)
      (fun i hi => by show bt l (s.a + 3 + 3 * j + 1 + i) = 125; rw [show s.a + 3 + 3 * j = s.a + 3 * (j + 1) by omega]; exact h3 _ (by omega)) hm1 (by omega) (by omega)
    have a2 : s2.a = s.a + 3 + 4 * j + 1 := a2
    have l2 : s2.X.length = s1.X.length + j + 1 := l2
    have c2 : bt l s2.a = 125 := by rw [a2, show s.a + 3 + 4 * j + 1 = s.a + 3 * (j + 1) + 1 + j by omega]; exact h3 _ (by omega)
    have k4 : endP blK l s2.a = s2.a := blk_self (by omega) (by omega)
    refine ⟨St.close { s2 with a := s2.a } s.X.length, ?_, ?_, ?_⟩
    · rw [val, envF_l, if_neg (show ¬ (bt l s.a = 34 ∨ bt l s.a = 39) by omega), if_neg (show ¬ bt l s.a = 91 by omega), if_pos b0, if_neg (by omega), k1, if_neg (show ¬ bt l (s.a + 1) = 125 by omega), ← e0, pairs, envF_l]
      have ea : s0.a = s.a + 1 := by rw [e0]; rfl
      rw [ea, k1, key_a b1 b2]
      simp only [ld]
      rw [k2, if_pos b2, k3]
      show (match val (envF l) f { s1 with a := s.a + 3 } (ar + 1) with | .bad c a => _ | .out => _ | .ok s2 => _) = _
      rw [v2]
      simp only [k4]
      rw [if_neg (show ¬ bt l s2.a = 44 by omega), if_pos c2]
    · show s2.a + 1 = _; omega
    · rw [close_len]; show s2.X.length = _; omega
end Tv
end Go.Proofs.YtbeefjhcbphiaaaGreatDoor
