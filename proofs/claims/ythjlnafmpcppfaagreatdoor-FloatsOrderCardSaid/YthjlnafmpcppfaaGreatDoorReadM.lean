/- The document's answer on Read, walked. -/
import Derived.Test.YthjlnafmpcppfaaGreatDoorIs
import Derived.Test.YthjlnafmpcppfaaGreatDoorPow
import Derived.Test.YthjlnafmpcppfaaGreatDoorItoa
import Derived.Deep.DeepCutAuto
import Derived.Lib.Strings
namespace Go.Proofs.YthjlnafmpcppfaaGreatDoor
open Go.RowKit

/-- The noughts at an end taken off. -/
def trimR (d : List UInt8) : List UInt8 := if 0 < d.length ∧ bt d (d.length - 1) = 48 then trimR (d.take (d.length - 1)) else d
termination_by d.length
decreasing_by simp; omega
def trimL (d : List UInt8) : List UInt8 := if 0 < d.length ∧ bt d 0 = 48 then trimL (d.drop 1) else d
termination_by d.length
decreasing_by simp; omega
/-- The numerals ahead of and behind the point. -/
def rdD (l : List UInt8) : List UInt8 := (l.take (q1 l)).drop (q0 l) ++ (l.take (q3 l)).drop (q2 l)
def rdT (l : List UInt8) : List UInt8 := trimL (trimR (rdD l))
/-- The exponent of the normal form. -/
def rdN (l : List UInt8) : Int := (powR l (q4 l) (q5 l)).1 - ((q3 l : Int) - q2 l) + (((rdD l).length : Int) - (trimR (rdD l)).length)
/-- The document's answer: text and code. -/
def rd (l : List UInt8) : List UInt8 × Int :=
  if isB l = false then ([], 3) else
  if (powR l (q4 l) (q5 l)).2 = false then ([], 7) else
  if rdT l = [] then ([48], 0) else
  if rdN l > 1000000000 ∨ rdN l < -1000000000 then ([], 7) else
  ((if bt l 0 = 45 then [45] else []) ++ rdT l ++ [101] ++ itoL (rdN l), 0)

theorem runE_nmr (l : List UInt8) (i : Nat) : ∀ k, i ≤ k → k < runE l i → nmr (bt l k) = true := by
  intro k hk hk2
  by_cases h : i < l.length ∧ nmr (bt l i) = true
  · rw [runE_on h.1 h.2] at hk2
    rcases Nat.eq_or_lt_of_le hk with h3 | h3
    · rw [← h3]; exact h.2
    · exact runE_nmr l (i + 1) k h3 hk2
  · rw [runE_end h] at hk2; omega
termination_by l.length - i
/-- What lies where. -/
theorem q_order {l : List UInt8} : q0 l ≤ q1 l ∧ q1 l ≤ q2 l ∧ q2 l ≤ q3 l ∧ q3 l ≤ q4 l ∧ q4 l ≤ q5 l ∧ q5 l ≤ l.length ∧ (q4 l < q5 l → 1 ≤ q4 l) ∧ ∀ k, q4 l ≤ k → k < q5 l → nmr (bt l k) = true := by
  have h0 : q0 l ≤ l.length := by
    unfold q0; split
    · rename_i h
      rcases Nat.eq_zero_or_pos l.length with h2 | h2
      · rw [bt_far (by omega)] at h; omega
      · omega
    · omega
  have h1 : q1 l ≤ l.length := runE_le l (q0 l) h0
  have h2 : q2 l ≤ l.length := by
    unfold q2; split
    · rename_i h
      rcases Nat.lt_or_ge (q1 l) l.length with h2 | h2
      · exact h2
      · unfold dot at h; rw [bt_far (by omega)] at h; cases h
    · exact h1
  have h23 : q2 l ≤ q3 l ∧ q3 l ≤ l.length := by
    unfold q3; split
    · exact ⟨runE_ge .., runE_le l _ h2⟩
    · rename_i h
      unfold q2; rw [if_neg h]; exact ⟨Nat.le_refl _, h1⟩
  have h4 : q3 l ≤ q4 l ∧ q4 l ≤ l.length := by
    unfold q4; split
    · rename_i h
      have hl : q3 l < l.length := by
        rcases Nat.lt_or_ge (q3 l) l.length with h2 | h2
        · exact h2
        · unfold exq at h; rw [bt_far (by omega)] at h; cases h
      split
      · rename_i hsg
        rcases Nat.lt_or_ge (q3 l + 1) l.length with h2 | h2
        · omega
        · unfold sgn at hsg; rw [bt_far (by omega)] at hsg; cases hsg
      · omega
    · omega
  have h5 : q4 l ≤ q5 l ∧ q5 l ≤ l.length ∧ (q4 l < q5 l → 1 ≤ q4 l) ∧ ∀ k, q4 l ≤ k → k < q5 l → nmr (bt l k) = true := by
    by_cases h : exq l = true
    · have e : q5 l = runE l (q4 l) := by unfold q5; rw [if_pos h]
      rw [e]
      refine ⟨runE_ge .., runE_le l _ h4.2, fun _ => ?_, runE_nmr l _⟩
      unfold q4; rw [if_pos h]; split <;> omega
    · have e : q5 l = q4 l := by unfold q5 q4; rw [if_neg h, if_neg h]
      rw [e]
      exact ⟨Nat.le_refl _, h4.2, fun h => by omega, fun k h1 h2 => by omega⟩
  exact ⟨runE_ge .., by unfold q2; split <;> omega, h23.1, h4.1, h5⟩
theorem powA_range (l : List UInt8) (e i : Nat) (n : Int) (hn : 0 ≤ n) (hb : n ≤ 1000000000) (hd : ∀ k, i ≤ k → k < e → nmr (bt l k) = true) : ∀ m, powA l e i n = some m → 0 ≤ m ∧ m ≤ 1000000000 := by
  intro m hm
  by_cases h : i < e
  · by_cases h2 : 10 * n + (bt l i - 48) > 1000000000
    · rw [powA_big h h2] at hm; cases hm
    · rw [powA_on h h2] at hm
      have h3 : 48 ≤ bt l i ∧ bt l i ≤ 57 := by simpa [nmr] using hd i (Nat.le_refl _) h
      exact powA_range l e (i + 1) _ (by omega) (by omega) (fun k h1 h2 => hd k (by omega) h2) m hm
  · rw [powA_end h] at hm; cases hm; exact ⟨hn, hb⟩
termination_by e - i
theorem powR_range (l : List UInt8) (i e : Nat) (hd : ∀ k, i ≤ k → k < e → nmr (bt l k) = true) : -1000000000 ≤ (powR l i e).1 ∧ (powR l i e).1 ≤ 1000000000 := by
  unfold powR
  split
  · simp
  · rename_i n h
    have := powA_range l e i 0 (by omega) (by omega) hd n h
    dsimp only
    split <;> omega
theorem trimR_on {d : List UInt8} (h : 0 < d.length) (h2 : bt d (d.length - 1) = 48) : trimR d = trimR (d.take (d.length - 1)) := by rw [trimR, if_pos ⟨h, h2⟩]
theorem trimR_end {d : List UInt8} (h : ¬ (0 < d.length ∧ bt d (d.length - 1) = 48)) : trimR d = d := by rw [trimR, if_neg h]
theorem trimL_on {d : List UInt8} (h : 0 < d.length) (h2 : bt d 0 = 48) : trimL d = trimL (d.drop 1) := by rw [trimL, if_pos ⟨h, h2⟩]
theorem trimL_end {d : List UInt8} (h : ¬ (0 < d.length ∧ bt d 0 = 48)) : trimL d = d := by rw [trimL, if_neg h]
theorem trimR_len (d : List UInt8) : (trimR d).length ≤ d.length := by
  by_cases h : 0 < d.length ∧ bt d (d.length - 1) = 48
  · rw [trimR_on h.1 h.2]; have := trimR_len (d.take (d.length - 1)); simp at *; omega
  · rw [trimR_end h]; exact Nat.le_refl _
termination_by d.length
decreasing_by simp; omega
theorem trimL_len (d : List UInt8) : (trimL d).length ≤ d.length := by
  by_cases h : 0 < d.length ∧ bt d 0 = 48
  · rw [trimL_on h.1 h.2]; have := trimL_len (d.drop 1); simp at *; omega
  · rw [trimL_end h]; exact Nat.le_refl _
termination_by d.length
decreasing_by simp; omega
theorem txt_take (d : List UInt8) (n : Nat) : (txt d).extract 0 n = txt (d.take n) := by rw [txt_cut]; rfl
theorem txt_drop (d : List UInt8) (i : Nat) : (txt d).extract i (txt d).size = txt (d.drop i) := by rw [txt_cut, txt_size, List.take_length]
theorem rdD_len (l : List UInt8) : (rdD l).length ≤ 2 * l.length := by simp [rdD]; omega
theorem belowDrewN {B : Nat} {a w : World} (h : Below B a w) (k : Nat) : Below B a (w.drewN k) := ⟨h.os, h.tape, h.output, h.size, h.block⟩
theorem rd_syntax {l : List UInt8} (h : isB l = false) : rd l = ([], 3) := by unfold rd; rw [if_pos h]
theorem rd_exp {l : List UInt8} (h : isB l = true) (h2 : (powR l (q4 l) (q5 l)).2 = false) : rd l = ([], 7) := by unfold rd; rw [if_neg (by rw [h]; simp), if_pos h2]
theorem rd_zero {l : List UInt8} (h : isB l = true) (h2 : (powR l (q4 l) (q5 l)).2 = true) (h3 : rdT l = []) : rd l = ([48], 0) := by unfold rd; rw [if_neg (by rw [h]; simp), if_neg (by rw [h2]; simp), if_pos h3]
theorem rd_far {l : List UInt8} (h : isB l = true) (h2 : (powR l (q4 l) (q5 l)).2 = true) (h3 : rdT l ≠ []) (h4 : rdN l > 1000000000 ∨ rdN l < -1000000000) : rd l = ([], 7) := by
  unfold rd; rw [if_neg (by rw [h]; simp), if_neg (by rw [h2]; simp), if_neg h3, if_pos h4]
theorem rd_ok {l : List UInt8} (h : isB l = true) (h2 : (powR l (q4 l) (q5 l)).2 = true) (h3 : rdT l ≠ []) (h4 : ¬ (rdN l > 1000000000 ∨ rdN l < -1000000000)) : rd l = ((if bt l 0 = 45 then [45] else []) ++ rdT l ++ [101] ++ itoL (rdN l), 0) := by
  unfold rd; rw [if_neg (by rw [h]; simp), if_neg (by rw [h2]; simp), if_neg h3, if_neg h4]
theorem itoL_len {n : Int} (h1 : -1000000000 ≤ n) (h2 : n ≤ 1000000000) : (itoL n).length ≤ 1000000003 := by
  unfold itoL; split
  · have := itoN_len (-n).toNat; simp; omega
  · have := itoN_len n.toNat; omega
theorem txt_list (l : List UInt8) : (txt l).toList = l := by rw [Lib.toList_data]; rfl
theorem isB_size {l : List UInt8} (h : isB l = true) : q0 l < q1 l ∧ 0 < l.length := by
  have ⟨o1, o2, o3, o4, o5, o6, _, _⟩ := q_order (l := l)
  have hb : bad1 l = false := by
    unfold isB at h
    cases h2 : bad1 l
    · rfl
    · rw [h2] at h; simp at h
  unfold bad1 at hb
  have hb2 := of_decide_eq_false hb
  have : q1 l ≠ q0 l := fun e => hb2 (Or.inl e)
  omega
end Go.Proofs.YthjlnafmpcppfaaGreatDoor
