/- A small decimal's text, as the law writes it; walked. -/
import Derived.Test.YtbbcjnbpghjklaaDoorPar
import Derived.Test.YtbbcjnbpghjklaaDoorLawRead
import Derived.BigQuiet
import Derived.Deep.QuietTactic
namespace Go.Proofs.YtbbcjnbpghjklaaDoor
open Go.RowKit

/-- Noughts ahead, till there are more than k. -/
def pad (k : Nat) (D : List UInt8) : List UInt8 := if D.length ≤ k then pad k (48 :: D) else D
termination_by k + 1 - D.length
decreasing_by simp; omega
theorem pad_on {k : Nat} {D : List UInt8} (h : D.length ≤ k) : pad k D = pad k (48 :: D) := by rw [pad, if_pos h]
theorem pad_end {k : Nat} {D : List UInt8} (h : ¬ D.length ≤ k) : pad k D = D := by rw [pad, if_neg h]
theorem pad_spec (k : Nat) (D : List UInt8) (hn : ∀ x ∈ D, nb x = true) : (∀ x ∈ pad k D, nb x = true) ∧ vN (pad k D) = vN D ∧ k < (pad k D).length ∧ (pad k D).length ≤ D.length + k + 1 ∧ (D.length ≤ k → (pad k D).length = k + 1 ∧ bt (pad k D) 0 = 48) := by
  by_cases h : D.length ≤ k
  · rw [pad_on h]
    have hn' : ∀ x ∈ (48 :: D), nb x = true := by
      intro x hx
      rcases List.mem_cons.1 hx with h1 | h2
      · rw [h1]; rfl
      · exact hn x h2
    have ih := pad_spec k (48 :: D) hn'
    refine ⟨ih.1, by rw [ih.2.1]; simp [vN], ih.2.2.1, ?_, fun _ => ?_⟩
    · by_cases h3 : (48 :: D).length ≤ k
      · rw [(ih.2.2.2.2 h3).1]; omega
      · rw [pad_end h3]; simp <;> omega
    · by_cases h3 : (48 :: D).length ≤ k
      · exact ih.2.2.2.2 h3
      · rw [pad_end h3]; exact ⟨by simp at h3 ⊢; omega, by rw [bt_cons]; rfl⟩
  · rw [pad_end h]
    exact ⟨hn, rfl, by omega, by omega, fun h2 => absurd h2 h⟩
termination_by k + 1 - D.length
decreasing_by simp; omega
def smD (n : Int) (k : Nat) : List UInt8 := pad k (itoN n.natAbs)
def smW (n : Int) (k : Nat) : List UInt8 := (smD n k).take ((smD n k).length - k)
def smF (n : Int) (k : Nat) : List UInt8 := (smD n k).drop ((smD n k).length - k)
def smP (n : Int) (k : Nat) : List UInt8 := if 0 < k then 46 :: smF n k else []
def smL (n : Int) (k : Nat) : List UInt8 := sg (decide (n < 0)) ++ (smW n k ++ smP n k)
theorem itoN_first {n : Nat} (h : n ≠ 0) : bt (itoN n) 0 ≠ 48 := by
  induction n using Nat.strongRecOn with
  | ind n ih =>
    by_cases h2 : n < 10
    · rw [itoN_lt h2, bt_cons]
      have := u8_digit n h2
      omega
    · rw [itoN_ge h2, bt_app_lt _ (List.length_pos_iff.2 (itoN_spec (n / 10)).2.2)]
      exact ih (n / 10) (by omega) (by omega)
theorem sm_spec (n : Int) (k : Nat) : Whole (smW n k) ∧ Frac (smP n k) (smF n k) ∧ (smF n k).length = k ∧ vN (smW n k ++ smF n k) = n.natAbs := by
  obtain ⟨d1, d2, d3⟩ := itoN_spec n.natAbs
  obtain ⟨p1, p2, p3, p4, p5⟩ := pad_spec k (itoN n.natAbs) d1
  have hWF : smW n k ++ smF n k = smD n k := List.take_append_drop _ _
  have hFl : (smF n k).length = k := by unfold smF smD; simp; omega
  have hWl : (smW n k).length = (smD n k).length - k := by unfold smW; simp
  have hWne : smW n k ≠ [] := by intro h; rw [h] at hWl; simp at hWl; unfold smD at hWl; omega
  have hbW : bt (smW n k) 0 = bt (smD n k) 0 := by rw [← hWF, bt_app_lt _ (List.length_pos_iff.2 hWne)]
  refine ⟨⟨fun x hx => p1 x (List.mem_of_mem_take hx), hWne, ?_⟩, ?_, hFl, by rw [hWF]; unfold smD; rw [p2, vN_ito]⟩
  · by_cases h : (itoN n.natAbs).length ≤ k
    · left
      have hl1 : (smW n k).length = 1 := by rw [hWl]; unfold smD; rw [(p5 h).1]; omega
      obtain ⟨x, hx⟩ := List.length_eq_one_iff.1 hl1
      rw [hx] at hbW ⊢
      have : bt (smD n k) 0 = 48 := (p5 h).2
      rw [this, bt_cons] at hbW
      congr 1
      exact UInt8.toNat_inj.1 (by simpa using (by omega : x.toNat = 48))
    · by_cases h0 : n.natAbs = 0
      · left
        have e : itoN n.natAbs = [48] := by rw [h0, itoN_lt (by omega)]; rfl
        rw [e] at h
        simp at h
        subst h
        unfold smW smD; rw [e, pad_end (by simp)]; rfl
      · right
        rw [hbW]; unfold smD; rw [pad_end h]; exact itoN_first h0
  · by_cases hk : 0 < k
    · right
      exact ⟨by unfold smP; rw [if_pos hk], by intro h; rw [h] at hFl; simp at hFl; omega, fun x hx => p1 x (List.mem_of_mem_drop hx)⟩
    · left
      have : k = 0 := by omega
      exact ⟨by unfold smP; rw [if_neg hk], List.length_eq_zero_iff.1 (by rw [hFl, this])⟩
theorem rd_norm {l : List UInt8} (h : norm l = true) : rd l = (l, 0) := by
  unfold norm at h; simp at h; exact Prod.ext h.2 h.1
theorem rd_code {l : List UInt8} (h1 : isB l = true) (h2 : (powR l (q4 l) (q5 l)).2 = true) (h3 : -1000000000 ≤ rdN l) (h4 : rdN l ≤ 1000000000) : (rd l).2 = 0 := by
  by_cases hT : rdT l = []
  · rw [rd_zero h1 h2 hT]
  · rw [rd_ok h1 h2 hT (by omega)]
/-- A number by so many tens, 4000 more. -/
def V (n : Int) (e : Int) : Int := n * 10 ^ (e + 4000).toNat
theorem V_sg (n : Int) (e : Int) : V n e = sgI (decide (n < 0)) (n.natAbs * 10 ^ (e + 4000).toNat) := by
  unfold V sgI
  rw [Int.natCast_mul, Int.natCast_pow]
  by_cases h : n < 0
  · rw [if_pos (by simp [h]), show n = -(n.natAbs : Int) by omega, Int.neg_mul]; simp
  · rw [if_neg (by simp [h])]
    congr 1; omega
theorem ten_pos (a : Nat) : (0 : Int) < 10 ^ a := Int.pow_pos (by omega)
theorem V_split {n p : Int} {k j : Nat} (h : 0 ≤ p - k - j + 4000) : V n (p - k) = n * 10 ^ j * 10 ^ (p - k - j + 4000).toNat := by
  unfold V
  rw [Int.mul_assoc, ← Int.pow_add, show j + (p - k - j + 4000).toNat = (p - k + 4000).toNat by omega]
theorem V_lt {n m p : Int} {k j : Nat} (h : 0 ≤ p - k - j + 4000) : V n (p - k) < V m (p - j) ↔ n * 10 ^ j < m * 10 ^ k := by
  rw [V_split h, V_split (j := k) (k := j) (by omega), show p - (j : Int) - k = p - k - j by omega]
  exact Int.mul_lt_mul_right (ten_pos _)
theorem V_eq {n m p : Int} {k j : Nat} (h : 0 ≤ p - k - j + 4000) : V n (p - k) = V m (p - j) ↔ n * 10 ^ j = m * 10 ^ k := by
  rw [V_split h, V_split (j := k) (k := j) (by omega), show p - (j : Int) - k = p - k - j by omega]
  exact ⟨fun h2 => Int.eq_of_mul_eq_mul_right (Int.ne_of_gt (ten_pos _)) h2, fun h2 => by rw [h2]⟩
/-- What Read tells of a text that is parted so. -/
structure Told (l : List UInt8) (n e : Int) : Prop where
  code : (rd l).2 = 0
  norm : norm (rd l).1 = true
  x : 0 ≤ ptX (rd l).1 + 4000
  v : sval 4000 (rd l).1 = V n e
theorem told {l W P F : List UInt8} {n p : Int} {k : Nat} (h : Parse1 l (decide (n < 0)) W P F) (hk : F.length = k) (hv : vN (W ++ F) = n.natAbs) (hB : isB l = true) (hp : powR l (q4 l) (q5 l) = (p, true)) (h1 : -2000 ≤ p) (h2 : p ≤ 2000) (hk2 : k ≤ 1000) (hl : (rdD l).length ≤ 100000) : Told l n (p - k) := by
  have hle := trimR_len (rdD l)
  have hN : rdN l = p - k + (((rdD l).length : Int) - (trimR (rdD l)).length) := by unfold rdN; rw [hp, h.f, hk]
  have hc : (rd l).2 = 0 := rd_code hB (by rw [hp]) (by omega) (by omega)
  refine ⟨hc, norm_rd hc, rd_X hc 4000 (by rw [hp, h.f, hk]; simp only; omega) (by omega), ?_⟩
  rw [rd_val 4000 hc (by rw [hp, h.f, hk]; simp only; omega), hp, h.f, hk, h.digits, hv, V_sg]
  congr 1
  rw [Bool.eq_iff_iff]; simp only [decide_eq_true_eq]
  rw [h.neg]; simp
theorem told_eq {a b : List UInt8} {n m e f : Int} (ha : Told a n e) (hb : Told b m f) : (rd a).1 = (rd b).1 ↔ V n e = V m f := by
  rw [sval_eq 4000 ha.norm hb.norm ha.x hb.x, ha.v, hb.v]
theorem told_lt {a b : List UInt8} {n m e f : Int} (ha : Told a n e) (hb : Told b m f) : less (rd a).1 (rd b).1 = decide (V n e < V m f) := by
  rw [sval_less 4000 ha.norm hb.norm ha.x hb.x, ha.v, hb.v]
theorem itoN_short2 {n : Nat} (h : n < 10 ^ 20) : (itoN n).length ≤ 20 := itoN_short 19 n h
theorem itoL_expo (p : Int) : Expo 101 (sg (decide (p < 0))) (itoN p.natAbs) := by
  obtain ⟨d1, d2, d3⟩ := itoN_spec p.natAbs
  exact ⟨Or.inl rfl, by unfold sg; split <;> simp, d1, d3⟩
theorem sg_pow (p : Int) : (if sg (decide (p < 0)) = [45] then -(vN (itoN p.natAbs) : Int) else vN (itoN p.natAbs)) = p := by
  rw [vN_ito]
  by_cases h : p < 0
  · rw [if_pos (by simp [sg, h])]; omega
  · rw [if_neg (by simp [sg, h])]; omega
theorem sm_len {n : Int} {k : Nat} (hn : n.natAbs < 10 ^ 20) (hk : k ≤ 100) : (smW n k ++ smF n k).length ≤ 200 := by
  obtain ⟨d1, _, _⟩ := itoN_spec n.natAbs
  obtain ⟨p1, p2, p3, p4, p5⟩ := pad_spec k (itoN n.natAbs) d1
  have := itoN_short2 hn
  have e : smW n k ++ smF n k = smD n k := List.take_append_drop _ _
  rw [e]; unfold smD; omega
/-- A small decimal, with no exponent and with one. -/
theorem sm_told {n : Int} {k : Nat} (hn : n.natAbs < 10 ^ 20) (hk : k ≤ 100) : Told (smL n k) n (0 - k) := by
  obtain ⟨hW, hP, hF, hv⟩ := sm_spec n k
  obtain ⟨a, b, c⟩ := plain_rd (l := smL n k) (decide (n < 0)) rfl hW hP
  exact told c hF hv a b (by omega) (by omega) (by omega) (by rw [c.digits]; have := sm_len hn hk; omega)
theorem sm_told_e {n p : Int} {k : Nat} (hn : n.natAbs < 10 ^ 20) (hk : k ≤ 100) (h1 : -2000 ≤ p) (h2 : p ≤ 2000) : Told (smL n k ++ (101 :: itoL p)) n (p - k) := by
  obtain ⟨hW, hP, hF, hv⟩ := sm_spec n k
  obtain ⟨a, b, c⟩ := expo_rd (l := smL n k ++ (101 :: itoL p)) (R := []) (decide (n < 0)) (by unfold smL; rw [itoL_sg]; simp) hW hP (itoL_expo p) rfl (by rw [vN_ito]; omega)
  rw [sg_pow] at b
  exact told c hF hv (by rw [a]; rfl) b h1 h2 (by omega) (by rw [c.digits]; have := sm_len hn hk; omega)
end Go.Proofs.YtbbcjnbpghjklaaDoor
