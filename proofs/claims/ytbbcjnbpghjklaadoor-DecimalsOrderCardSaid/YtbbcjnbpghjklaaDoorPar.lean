/- Written numbers, in parts: where these lie, and what Read tells. Lists alone. -/
import Derived.Test.YtbbcjnbpghjklaaDoorVal
namespace Go.Proofs.YtbbcjnbpghjklaaDoor
open Go.RowKit

/-- Whole numerals: nought, or not begun with it. -/
structure Whole (W : List UInt8) : Prop where
  nums : ∀ x ∈ W, nb x = true
  some : W ≠ []
  lead : W = [48] ∨ bt W 0 ≠ 48
/-- What stands behind the point: nothing, or the point and numerals F. -/
def Frac (P F : List UInt8) : Prop := (P = [] ∧ F = []) ∨ (P = 46 :: F ∧ F ≠ [] ∧ ∀ x ∈ F, nb x = true)
theorem frac_nums {P F : List UInt8} (h : Frac P F) : ∀ x ∈ F, nb x = true := by
  rcases h with ⟨_, rfl⟩ | ⟨_, _, h⟩
  · intro x hx; cases hx
  · exact h
theorem take_mid (A B C : List UInt8) : ((A ++ (B ++ C)).take (A.length + B.length)).drop A.length = B := by
  rw [← List.append_assoc, ← List.length_append, List.take_left, List.drop_left]
theorem nb48 {x : UInt8} (h : nb x = true) : (x.toNat : Int) ≠ 45 ∧ (x.toNat : Int) ≠ 46 ∧ (x.toNat : Int) ≠ 101 ∧ (x.toNat : Int) ≠ 69 ∧ (x.toNat : Int) ≠ 43 := by have := nb_range h; omega
theorem head_nb {W : List UInt8} (h : ∀ x ∈ W, nb x = true) (hne : W ≠ []) (Y : List UInt8) : 48 ≤ bt (W ++ Y) 0 ∧ bt (W ++ Y) 0 ≤ 57 := by
  rw [bt_app_lt _ (List.length_pos_iff.2 hne)]; exact bt_head h hne
structure Parse1 (l : List UInt8) (m : Bool) (W P F : List UInt8) : Prop where
  e0 : q0 l = (sg m).length
  e1 : q1 l = (sg m).length + W.length
  bad : bad1 l = false
  d : (!dot l || decide (q3 l ≠ q2 l)) = true
  e3 : q3 l = (sg m).length + W.length + P.length
  f : (q3 l : Int) - q2 l = F.length
  digits : rdD l = W ++ F
  neg : bt l 0 = 45 ↔ m = true
theorem parse1 {l : List UInt8} (m : Bool) {W P F Y : List UInt8} (hl : l = sg m ++ (W ++ (P ++ Y))) (hW : Whole W) (hP : Frac P F) (hY : nmr (bt Y 0) = false) (hY2 : bt Y 0 ≠ 46) : Parse1 l m W P F := by
  have hWl := List.length_pos_iff.2 hW.some
  have b0 : bt l (sg m).length = bt W 0 := by rw [hl, bt_app, bt_app_lt _ hWl]
  have hWh := bt_head hW.nums hW.some
  have hneg : bt l 0 = 45 ↔ m = true := by
    cases m
    · have : bt l 0 = bt W 0 := b0
      rw [this]; simp; omega
    · rw [hl]; simp [sg, bt]
  have e0 : q0 l = (sg m).length := by
    unfold q0
    cases m
    · rw [if_neg (fun h => by simpa using hneg.1 h)]; rfl
    · rw [if_pos (hneg.2 rfl)]; rfl
  have hPY : nmr (bt (P ++ Y) 0) = false := by
    rcases hP with ⟨rfl, _⟩ | ⟨rfl, _, _⟩
    · exact hY
    · rw [List.cons_append, bt_cons]; rfl
  have e1 : q1 l = (sg m).length + W.length := by
    unfold q1; rw [e0, hl]; exact runE_app W _ _ hW.nums hPY
  have b1 : bt l (q1 l) = bt (P ++ Y) 0 := by
    rw [e1, ← List.length_append, hl, ← List.append_assoc, bt_app]
  have hbad : bad1 l = false := by
    unfold bad1; rw [e0, b0, e1]
    refine decide_eq_false (fun h => ?_)
    rcases h with h | ⟨h, h2⟩
    · omega
    · rcases hW.lead with h3 | h3
      · rw [h3] at h2; simp at h2
      · exact h3 h
  have hcutW : ((l.take (q1 l)).drop (q0 l)) = W := by rw [e1, e0, hl]; exact take_mid _ _ _
  rcases hP with ⟨rfl, rfl⟩ | ⟨rfl, hF1, hF2⟩
  · have hdot : dot l = false := by unfold dot; rw [b1]; exact decide_eq_false hY2
    have e2 : q2 l = q1 l := by unfold q2; rw [hdot]; rfl
    have e3 : q3 l = q1 l := by unfold q3; rw [hdot]; rfl
    refine ⟨e0, e1, hbad, by rw [hdot]; rfl, by rw [e3, e1]; rfl, by rw [e3, e2]; simp, ?_, hneg⟩
    unfold rdD; rw [hcutW, e2, e3, List.drop_eq_nil_of_le (by simp; omega)]
  · have hdot : dot l = true := by unfold dot; rw [b1, List.cons_append, bt_cons]; rfl
    have e2 : q2 l = q1 l + 1 := by unfold q2; rw [hdot]; rfl
    have hl2 : l = (sg m ++ W ++ [46]) ++ (F ++ Y) := by rw [hl]; simp
    have e2' : q2 l = (sg m ++ W ++ [46]).length := by rw [e2, e1]; simp; omega
    have e3 : q3 l = (sg m ++ W ++ [46]).length + F.length := by
      unfold q3; rw [hdot]; simp only [if_true]; rw [e2']; conv => lhs; rw [hl2]
      exact runE_app F _ _ hF2 hY
    have hFl := List.length_pos_iff.2 hF1
    refine ⟨e0, e1, hbad, by rw [hdot]; simp; omega, by rw [e3]; simp; omega, by rw [e3, e2']; omega, ?_, hneg⟩
    unfold rdD; rw [hcutW, e2', e3]; conv => lhs; rw [hl2]
    rw [take_mid]
theorem parse1_at {l : List UInt8} {m : Bool} {W P F Y : List UInt8} (hl : l = sg m ++ (W ++ (P ++ Y))) (h : Parse1 l m W P F) (k : Nat) : bt l (q3 l + k) = bt Y k := by
  have hl2 : l = (sg m ++ W ++ P) ++ Y := by rw [hl]; simp
  rw [h.e3, show (sg m).length + W.length + P.length = (sg m ++ W ++ P).length by simp; omega]
  conv => lhs; rw [hl2]
  rw [bt_app_ge _ _ (by omega)]; congr 1; omega
/-- Without an exponent: Read's code, and its text's value. -/
theorem plain_rd {l : List UInt8} (m : Bool) {W P F : List UInt8} (hl : l = sg m ++ (W ++ P)) (hW : Whole W) (hP : Frac P F) : isB l = true ∧ powR l (q4 l) (q5 l) = (0, true) ∧ Parse1 l m W P F := by
  have hl' : l = sg m ++ (W ++ (P ++ [])) := by rw [hl, List.append_nil]
  have h := parse1 m hl' hW hP rfl (by decide)
  have hx : exq l = false := by unfold exq; have := parse1_at hl' h 0; rw [Nat.add_zero] at this; rw [this]; rfl
  have e4 : q4 l = q3 l := by unfold q4; rw [hx]; rfl
  have e5 : q5 l = q3 l := by unfold q5; rw [hx]; rfl
  have hlen : q3 l = l.length := by rw [h.e3, hl]; simp; omega
  refine ⟨?_, ?_, h⟩
  · unfold isB; rw [h.bad, h.d, hx, e5, hlen]; simp
  · rw [e4, e5]; unfold powR; rw [powA_end (by omega)]; simp
/-- An exponent: its letter, its sign, its numerals. -/
structure Expo (c : UInt8) (S G : List UInt8) : Prop where
  c : c = 101 ∨ c = 69
  s : S = [] ∨ S = [43] ∨ S = [45]
  nums : ∀ x ∈ G, nb x = true
  some : G ≠ []
theorem val_vN (D : List UInt8) : ∀ n : Int, (∀ x ∈ D, nb x = true) → val D n = n * 10 ^ D.length + vN D := by
  induction D with
  | nil => intro n _; simp [val, vN]
  | cons x D ih =>
    intro n h
    have hx := nbN (h x (by simp))
    simp only [val, vN]
    rw [ih _ (fun y hy => h y (by simp [hy])), List.length_cons]
    have e : (x.toNat : Int) - 48 = ((x.toNat - 48 : Nat) : Int) := by omega
    rw [e, Int.add_mul, Int.natCast_add, Int.natCast_mul, Int.natCast_pow, Int.pow_succ, Int.mul_comm 10 n, Int.mul_assoc, Int.mul_comm 10]
    simp only [Int.add_assoc]; rfl
theorem expo_rd {l : List UInt8} (m : Bool) {W P F S G R : List UInt8} {c : UInt8} (hl : l = sg m ++ (W ++ (P ++ (c :: (S ++ (G ++ R)))))) (hW : Whole W) (hP : Frac P F) (hE : Expo c S G) (hR : nmr (bt R 0) = false) (hv : vN G ≤ 1000000000) :
    isB l = decide (R = []) ∧ powR l (q4 l) (q5 l) = (if S = [45] then -(vN G : Int) else vN G, true) ∧ Parse1 l m W P F := by
  have hc : (c.toNat : Int) = 101 ∨ (c.toNat : Int) = 69 := by rcases hE.c with rfl | rfl <;> decide
  have h := parse1 m hl hW hP (by rw [bt_cons]; unfold nmr; simp; omega) (by rw [bt_cons]; omega)
  have hat := fun k => parse1_at hl h k
  have hx : exq l = true := by unfold exq; have := hat 0; rw [Nat.add_zero] at this; rw [this, bt_cons]; simpa using hc
  have hGl := List.length_pos_iff.2 hE.some
  have hGh := head_nb hE.nums hE.some R
  have b1 : bt l (q3 l + 1) = bt (S ++ (G ++ R)) 0 := by rw [hat 1]; simp [bt]
  have hs : sgn l = decide (S ≠ []) := by
    unfold sgn; rw [b1]
    rcases hE.s with rfl | rfl | rfl
    · rw [List.nil_append]; simp; omega
    · rfl
    · rfl
  have e4 : q4 l = q3 l + 1 + S.length := by
    unfold q4; rw [hx, hs]; simp only [if_true]
    rcases hE.s with rfl | rfl | rfl <;> rfl
  have hl2 : l = (sg m ++ W ++ P ++ [c] ++ S) ++ (G ++ R) := by rw [hl]; simp
  have e4' : q4 l = (sg m ++ W ++ P ++ [c] ++ S).length := by rw [e4, h.e3]; simp; omega
  have e5 : q5 l = q4 l + G.length := by
    unfold q5; rw [hx]; simp only [if_true]; rw [e4']; conv => lhs; rw [hl2]
    exact runE_app G _ _ hE.nums hR
  have hlen : l.length = q5 l + R.length := by rw [e5, e4']; conv => lhs; rw [hl2]
                                               simp; omega
  refine ⟨?_, ?_, h⟩
  · unfold isB; rw [h.bad, h.d, hx, e5]
    rw [e5] at hlen
    have : q4 l + G.length ≠ q4 l := by omega
    simp only [Bool.not_false, Bool.true_and, Bool.not_true, Bool.false_or, ne_eq, this, not_false_eq_true, decide_true]
    rw [Bool.eq_iff_iff]; simp only [decide_eq_true_eq]
    rw [hlen, ← List.length_eq_zero_iff]; omega
  · have hvv : val G 0 = vN G := by rw [val_vN G 0 hE.nums]; simp
    have hp : powA l (q5 l) (q4 l) 0 = some ((vN G : Nat) : Int) := by
      have h1 := powA_val G (sg m ++ W ++ P ++ [c] ++ S) 0 hE.nums (by omega) (by rw [hvv]; omega)
      have h2 : l.take (q5 l) = (sg m ++ W ++ P ++ [c] ++ S) ++ G := by
        rw [e5, e4']; conv => lhs; rw [hl2]
        rw [← List.append_assoc, ← List.length_append, List.take_left]
      have h3 := powA_mid l 0 (q5 l) (by omega) (q4 l) 0 (by omega)
      rw [Nat.zero_add, Nat.sub_zero, List.drop_zero, h2] at h3
      rw [← h3, e5, e4', h1, hvv]
    unfold powR
    rw [hp]
    simp only []
    have hlt : q4 l < q5 l := by omega
    have b4 : bt l (q4 l - 1) = if S = [] then (c.toNat : Int) else bt S 0 := by
      rw [e4]
      rcases hE.s with rfl | rfl | rfl
      · have := hat 0
        rw [Nat.add_zero, bt_cons] at this
        rw [if_pos rfl]; simpa using this
      · rw [if_neg (by simp), show q3 l + 1 + [(43 : UInt8)].length - 1 = q3 l + 1 from rfl, b1]; rfl
      · rw [if_neg (by simp), show q3 l + 1 + [(45 : UInt8)].length - 1 = q3 l + 1 from rfl, b1]; rfl
    rw [b4]
    congr 1
    rcases hE.s with rfl | rfl | rfl
    · rw [if_neg (fun h => by rw [if_pos rfl] at h; omega), if_neg (by simp)]
    · rw [if_neg (fun h => by simp [bt] at h), if_neg (by simp)]
    · rw [if_pos ⟨hlt, by rw [if_neg (by simp)]; rfl⟩, if_pos rfl]
end Go.Proofs.YtbbcjnbpghjklaaDoor
