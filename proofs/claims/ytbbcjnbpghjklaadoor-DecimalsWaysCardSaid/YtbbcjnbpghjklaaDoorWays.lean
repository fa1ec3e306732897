/- A value's other ways to be written: what Read tells of them. Lists alone. -/
import Derived.Test.YtbbcjnbpghjklaaDoorSmall2
import Derived.Lib.Repeat
namespace Go.Proofs.YtbbcjnbpghjklaaDoor
open Go.RowKit

theorem V_shift (n e : Int) (a : Nat) (h : 0 ≤ e - a + 4000) : V (n * 10 ^ a) (e - a) = V n e := by
  unfold V
  rw [Int.mul_assoc, ← Int.pow_add, show a + (e - a + 4000).toNat = (e + 4000).toNat by omega]
def zs (k : Nat) : List UInt8 := List.replicate k 48
theorem zs_nb (k : Nat) : ∀ x ∈ zs k, nb x = true := by intro x hx; rw [List.eq_of_mem_replicate hx]; rfl
theorem zs_len (k : Nat) : (zs k).length = k := List.length_replicate ..
theorem vN_zs (k : Nat) : vN (zs k) = 0 := by
  induction k with
  | zero => rfl
  | succ k ih => unfold zs at *; rw [List.replicate_succ]; simp only [vN]; rw [ih]; simp
theorem rep_zs (k : Nat) : Lib.repeatL [48] k = zs k := by
  induction k with
  | zero => rfl
  | succ k ih => unfold zs at *; rw [List.replicate_succ, Lib.repeatL, ih]; rfl
theorem whole_itoN (n : Nat) : Whole (itoN n) := by
  obtain ⟨d1, _, d3⟩ := itoN_spec n
  refine ⟨d1, d3, ?_⟩
  by_cases h : n = 0
  · left; subst h; rw [itoN_lt (by omega)]; rfl
  · right; exact itoN_first h
theorem whole_zs {n : Nat} (h : n ≠ 0) (k : Nat) : Whole (itoN n ++ zs k) := by
  obtain ⟨d1, _, d3⟩ := itoN_spec n
  refine ⟨fun x hx => ?_, by simp [d3], Or.inr ?_⟩
  · rcases List.mem_append.1 hx with h1 | h1
    · exact d1 x h1
    · exact zs_nb k x h1
  · rw [bt_app_lt _ (List.length_pos_iff.2 d3)]; exact itoN_first h
theorem bad_plus (l : List UInt8) : isB (43 :: l) = false := by
  have e0 : q0 (43 :: l) = 0 := by unfold q0; rw [bt_cons]; rfl
  have e1 : q1 (43 :: l) = 0 := by unfold q1; rw [e0, runE_end]; intro h; rw [bt_cons] at h; exact absurd h.2 (by decide)
  have : bad1 (43 :: l) = true := by unfold bad1; rw [e0, e1]; rfl
  unfold isB; rw [this]; rfl
theorem bad_zero (m : Bool) {W Y : List UInt8} (hW : ∀ x ∈ W, nb x = true) (hne : W ≠ []) : isB (48 :: (sg m ++ (W ++ Y))) = false := by
  have e0 : q0 (48 :: (sg m ++ (W ++ Y))) = 0 := by unfold q0; rw [bt_cons]; rfl
  cases m
  · have hW0 := head_nb hW hne Y
    have e1 : 2 ≤ q1 (48 :: (sg false ++ (W ++ Y))) := by
      unfold q1; rw [e0, runE_on (by simp) (by rw [bt_cons]; rfl)]
      have hb : bt (48 :: (sg false ++ (W ++ Y))) 1 = bt (W ++ Y) 0 := by simp [bt, sg]
      rw [runE_on (by simp [sg]; have := List.length_pos_iff.2 hne; omega) (by rw [hb]; unfold nmr; simp; omega)]
      exact runE_ge _ _
    have : bad1 (48 :: (sg false ++ (W ++ Y))) = true := by
      unfold bad1; rw [e0, bt_cons]; exact decide_eq_true (Or.inr ⟨rfl, by omega⟩)
    unfold isB; rw [this]; rfl
  · have hb : bt (48 :: (sg true ++ (W ++ Y))) 1 = 45 := by simp [bt, sg]
    have e1 : q1 (48 :: (sg true ++ (W ++ Y))) = 1 := by
      unfold q1; rw [e0, runE_on (by simp) (by rw [bt_cons]; rfl), runE_end]
      intro h; rw [hb] at h; exact absurd h.2 (by decide)
    have hd : dot (48 :: (sg true ++ (W ++ Y))) = false := by unfold dot; rw [e1, hb]; rfl
    have e3 : q3 (48 :: (sg true ++ (W ++ Y))) = 1 := by unfold q3; rw [hd, e1]; rfl
    have hx : exq (48 :: (sg true ++ (W ++ Y))) = false := by unfold exq; rw [e3, hb]; rfl
    have e5 : q5 (48 :: (sg true ++ (W ++ Y))) = 1 := by unfold q5; rw [hx, e3]; rfl
    have : ¬ 1 = (48 :: (sg true ++ (W ++ Y))).length := by simp [sg]
    unfold isB
    rw [e5, decide_eq_false this, Bool.and_false]
/-- A way to write what w tells. -/
structure Way (l w : List UInt8) : Prop where
  read : rd l = (w, 0)
  dot : rd (l ++ [46]) = ([], 3)
  blank : rd (l ++ [32]) = ([], 3)
  zero : rd (48 :: l) = ([], 3)
  plus : rd (43 :: l) = ([], 3)
  len : l.length ≤ 300
theorem way_of {W P F S G : List UInt8} {c : UInt8} {n p N e : Int} {k : Nat} {w : List UInt8} (hW : Whole W) (hP : Frac P F) (hE : Expo c S G) (hk : F.length = k) (hv : vN (W ++ F) = N.natAbs) (hs : decide (N < 0) = decide (n < 0))
    (hp : (if S = [45] then -(vN G : Int) else vN G) = p) (h1 : -2000 ≤ p) (h2 : p ≤ 2000) (hk2 : k ≤ 1000) (hl : (sg (decide (n < 0)) ++ (W ++ (P ++ (c :: (S ++ G))))).length ≤ 300) (hVe : V N (p - k) = V n e)
    {l0 : List UInt8} (h0 : Told l0 n e) (hw : w = (rd l0).1) : Way (sg (decide (n < 0)) ++ (W ++ (P ++ (c :: (S ++ G))))) w := by
  have hvG : vN G ≤ 1000000000 := by split at hp <;> omega
  have hWF : (W ++ F).length ≤ 1000 := by
    have : F.length ≤ P.length := by rcases hP with ⟨rfl, rfl⟩ | ⟨rfl, _, _⟩ <;> simp
    simp at hl ⊢; omega
  obtain ⟨a, b, d⟩ := expo_rd (l := sg (decide (n < 0)) ++ (W ++ (P ++ (c :: (S ++ G))))) (R := []) (decide (n < 0)) (by simp) hW hP hE rfl hvG
  obtain ⟨a1, _, _⟩ := expo_rd (l := (sg (decide (n < 0)) ++ (W ++ (P ++ (c :: (S ++ G))))) ++ [46]) (R := [46]) (decide (n < 0)) (by simp) hW hP hE rfl hvG
  obtain ⟨a2, _, _⟩ := expo_rd (l := (sg (decide (n < 0)) ++ (W ++ (P ++ (c :: (S ++ G))))) ++ [32]) (R := [32]) (decide (n < 0)) (by simp) hW hP hE rfl hvG
  rw [hp] at b
  have T : Told (sg (decide (n < 0)) ++ (W ++ (P ++ (c :: (S ++ G))))) N (p - k) := told (by rw [hs]; exact d) hk hv (by rw [a]; rfl) b h1 h2 hk2 (by rw [d.digits]; omega)
  have hE1 := (told_eq T h0).2 hVe
  exact ⟨Prod.ext (by rw [hw, ← hE1]) T.code, rd_syntax (by rw [a1]; rfl), rd_syntax (by rw [a2]; rfl), rd_syntax (bad_zero _ hW.nums hW.some), rd_syntax (bad_plus _), hl⟩
def wy0 (n e : Int) (k : Nat) : List UInt8 := itoL n ++ [46] ++ zs k ++ [48, 101] ++ itoL e
def wy1 (n e : Int) (k : Nat) : List UInt8 := itoL n ++ [69] ++ (if e < 0 then [45] else [43]) ++ zs k ++ itoN e.natAbs
def wy2 (n e : Int) (k : Nat) : List UInt8 := itoL n ++ zs k ++ [101] ++ itoL (e - k)
def wy3 (n e : Int) (k : Nat) : List UInt8 := itoL n ++ zs k ++ [46, 48, 101] ++ itoL (e - k)
def wyW (n e : Int) : List UInt8 := itoL n ++ [101] ++ itoL e
theorem sgl (m : Bool) : (sg m).length ≤ 1 := by unfold sg; split <;> simp
theorem sg_mul (n : Int) (a : Nat) : decide (n * 10 ^ a < 0) = decide (n < 0) := by
  have h := ten_pos a
  rw [Bool.eq_iff_iff]; simp only [decide_eq_true_eq]
  constructor
  · intro h1
    by_cases h2 : n < 0
    · exact h2
    · have := Int.mul_nonneg (show 0 ≤ n by omega) (Int.le_of_lt h); omega
  · intro h1; exact Int.mul_neg_of_neg_of_pos h1 h
theorem abs_mul (n : Int) (a : Nat) : (n * 10 ^ a).natAbs = n.natAbs * 10 ^ a := by rw [Int.natAbs_mul, Int.natAbs_pow]; rfl
theorem wyW_told {n e : Int} (hn : n.natAbs < 10 ^ 20) (h1 : -1000 ≤ e) (h2 : e ≤ 1000) : Told (wyW n e) n e := by
  have h := itoN_short2 hn
  obtain ⟨a, b, d⟩ := expo_rd (l := wyW n e) (P := []) (F := []) (R := []) (decide (n < 0)) (by unfold wyW; rw [itoL_sg n, itoL_sg e]; simp) (whole_itoN n.natAbs) (Or.inl ⟨rfl, rfl⟩) (itoL_expo e) rfl (by rw [vN_ito]; omega)
  rw [sg_pow] at b
  have := told d (k := 0) rfl (by rw [List.append_nil, vN_ito]) (by rw [a]; rfl) b (by omega) (by omega) (by omega) (by rw [d.digits]; simp; omega)
  simpa using this
theorem ways {n e : Int} {k : Nat} (hn : n.natAbs < 10 ^ 20) (hk : k ≤ 40) (h1 : -1000 ≤ e) (h2 : e ≤ 1000) :
    Way (wy0 n e k) (rd (wyW n e)).1 ∧ Way (wy1 n e k) (rd (wyW n e)).1 ∧ (n ≠ 0 → Way (wy2 n e k) (rd (wyW n e)).1 ∧ Way (wy3 n e k) (rd (wyW n e)).1) := by
  have T := wyW_told hn h1 h2
  have ln := itoN_short2 hn
  have le : (itoN e.natAbs).length ≤ 20 := itoN_short2 (by omega)
  have lk : (itoN (e - k).natAbs).length ≤ 20 := itoN_short2 (by omega)
  have s1 := sgl (decide (n < 0))
  have s2 := sgl (decide (e < 0))
  have s3 := sgl (decide (e - (k : Int) < 0))
  have zl := zs_len k
  have e0 : wy0 n e k = sg (decide (n < 0)) ++ (itoN n.natAbs ++ ((46 :: (zs k ++ [48])) ++ (101 :: (sg (decide (e < 0)) ++ itoN e.natAbs)))) := by
    unfold wy0; rw [itoL_sg n, itoL_sg e]; simp
  have e1 : wy1 n e k = sg (decide (n < 0)) ++ (itoN n.natAbs ++ ([] ++ (69 :: ((if e < 0 then [45] else [43]) ++ (zs k ++ itoN e.natAbs))))) := by
    unfold wy1; rw [itoL_sg n]; simp
  refine ⟨?_, ?_, fun hn0 => ⟨?_, ?_⟩⟩
  · rw [e0]
    refine way_of (F := zs k ++ [48]) (N := n * 10 ^ (k + 1)) (k := k + 1) (p := e) (whole_itoN _) (Or.inr ⟨rfl, by simp, ?_⟩) (itoL_expo e) (by simp [zl]) ?_ (sg_mul _ _) (sg_pow e) (by omega) (by omega) (by omega) ?_ (V_shift n e (k + 1) (by omega)) T rfl
    · intro x hx
      rcases List.mem_append.1 hx with h | h
      · exact zs_nb k x h
      · rw [List.mem_singleton.1 h]; rfl
    · rw [vN_app, vN_app, vN_zs, vN_ito, abs_mul]; simp [vN, zl]
    · simp [zl]; omega
  · rw [e1]
    obtain ⟨d1, _, d3⟩ := itoN_spec e.natAbs
    refine way_of (F := []) (N := n) (k := 0) (p := e) (whole_itoN _) (Or.inl ⟨rfl, rfl⟩) ⟨Or.inr rfl, ?_, ?_, by simp [d3]⟩ rfl (by rw [List.append_nil, vN_ito]) rfl ?_ (by omega) (by omega) (by omega) ?_ (by simp) T rfl
    · split
      · exact Or.inr (Or.inr rfl)
      · exact Or.inr (Or.inl rfl)
    · intro x hx
      rcases List.mem_append.1 hx with h | h
      · exact zs_nb k x h
      · exact d1 x h
    · have hv : vN (zs k ++ itoN e.natAbs) = e.natAbs := by rw [vN_app, vN_zs, vN_ito]; simp
      rw [hv]
      by_cases h : e < 0
      · rw [if_pos h, if_pos rfl]; omega
      · rw [if_neg h, if_neg (by decide)]; omega
    · have : (if e < 0 then [(45 : UInt8)] else [43]).length = 1 := by split <;> rfl
      simp [zl, this]; omega
  · have e2 : wy2 n e k = sg (decide (n < 0)) ++ ((itoN n.natAbs ++ zs k) ++ ([] ++ (101 :: (sg (decide (e - (k : Int) < 0)) ++ itoN (e - k).natAbs)))) := by
      unfold wy2; rw [itoL_sg n, itoL_sg (e - k)]; simp
    rw [e2]
    refine way_of (F := []) (N := n * 10 ^ k) (k := 0) (p := e - k) (whole_zs (by omega) k) (Or.inl ⟨rfl, rfl⟩) (itoL_expo (e - k)) rfl ?_ (sg_mul _ _) (sg_pow (e - k)) (by omega) (by omega) (by omega) ?_ ?_ T rfl
    · rw [List.append_nil, vN_app, vN_zs, vN_ito, abs_mul, zl]; simp
    · simp [zl]; omega
    · rw [show e - (k : Int) - (0 : Nat) = e - k by simp]; exact V_shift n e k (by omega)
  · have e3 : wy3 n e k = sg (decide (n < 0)) ++ ((itoN n.natAbs ++ zs k) ++ ([46, 48] ++ (101 :: (sg (decide (e - (k : Int) < 0)) ++ itoN (e - k).natAbs)))) := by
      unfold wy3; rw [itoL_sg n, itoL_sg (e - k)]; simp
    rw [e3]
    refine way_of (F := [48]) (N := n * 10 ^ (k + 1)) (k := 1) (p := e - k) (whole_zs (by omega) k) (Or.inr ⟨rfl, by simp, by intro x hx; rw [List.mem_singleton.1 hx]; rfl⟩) (itoL_expo (e - k)) rfl ?_ (sg_mul _ _) (sg_pow (e - k)) (by omega) (by omega) (by omega) ?_ ?_ T rfl
    · rw [vN_app, vN_app, vN_zs, vN_ito, abs_mul, zl, Nat.pow_succ]; simp [vN, Nat.mul_assoc]
    · simp [zl]; omega
    · rw [show e - (k : Int) - (1 : Nat) = e - ((k + 1 : Nat) : Int) by omega]; exact V_shift n e (k + 1) (by omega)
/-- What the normal form's parts are. -/
theorem want_spec {n e : Int} (hn : n.natAbs < 10 ^ 20) (h1 : -1000 ≤ e) (h2 : e ≤ 1000) :
    (n = 0 ∧ (rd (wyW n e)).1 = [48]) ∨ (n ≠ 0 ∧ ptM (rd (wyW n e)).1 = decide (n < 0) ∧ Fine (ptD (rd (wyW n e)).1) ∧ e ≤ ptX (rd (wyW n e)).1) := by
  have T := wyW_told hn h1 h2
  obtain ⟨a, b, d⟩ := expo_rd (l := wyW n e) (P := []) (F := []) (R := []) (decide (n < 0)) (by unfold wyW; rw [itoL_sg n, itoL_sg e]; simp) (whole_itoN n.natAbs) (Or.inl ⟨rfl, rfl⟩) (itoL_expo e) rfl (by rw [vN_ito]; omega)
  rw [sg_pow] at b
  have hv : vN (rdD (wyW n e)) = n.natAbs := by rw [d.digits, List.append_nil, vN_ito]
  have hX := frX_range (wyW n e)
  rcases fr_rd T.code with ⟨hK, e1, _, _, _⟩ | ⟨hK, hF, _, _, e3, e4⟩
  · left
    have h0 : vN (rdD (wyW n e)) = 0 := by rw [vN_trimR, hK]; simp [vN]
    exact ⟨by omega, e1⟩
  · right
    rw [e3] at hX
    have R := rd_mk (decide (bt (wyW n e) 0 = 45)) (rdN (wyW n e)) hF hX.1 hX.2
    rw [← e4] at R
    have hle := trimR_len (rdD (wyW n e))
    have hpos : 0 < vN (rdT (wyW n e)) := vN_pos hF.some hF.nums hF.last
    have hT : vN (rdT (wyW n e)) = vN (trimR (rdD (wyW n e))) := vN_trimL _
    have hvv := vN_trimR (rdD (wyW n e))
    have hpp : 0 < vN (trimR (rdD (wyW n e))) * 10 ^ ((rdD (wyW n e)).length - (trimR (rdD (wyW n e))).length) := Nat.mul_pos (by omega) (Nat.pow_pos (by omega))
    refine ⟨by omega, ?_, by rw [R.2.2.2.2.1]; exact hF, ?_⟩
    · rw [R.2.2.2.1, Bool.eq_iff_iff]; simp only [decide_eq_true_eq]; rw [d.neg]; simp
    · rw [R.2.2.2.2.2]
      unfold rdN; rw [b, d.f]; simp; omega
end Go.Proofs.YtbbcjnbpghjklaaDoor
