/- What the laws of radixes and edges read, as lists: each reads as it should. -/
import Derived.Test.YtonfaphllpjmpaaDoorInL
namespace Go.Proofs.YtonfaphllpjmpaaDoor
namespace In

theorem mkL_nil_app {b : Nat} (f : Nat → Bool) (i : Nat) (p : Bool) (n : Nat) {l : List UInt8} (h : l.all (isD b) = true) : vl b p n (mkL f i l) = vl b p n l := by
  have := vl_mkL f l i p n [] h
  simpa using this
theorem pre_plain {c : UInt8} {r : List UInt8} (h1 : c ≠ 48) (h2 : c ≠ 43) (h3 : c ≠ 45) : pre (c :: r) = (10, false, c :: r) := by
  unfold pre
  split
  · rename_i h; injection h with h _; exact absurd h h1
  · rename_i h; injection h with h _; exact absurd h h1
  · rename_i h; injection h with h _; exact absurd h h1
  · rename_i h; injection h with h _; exact absurd h h2
  · rename_i h; injection h with h _; exact absurd h h3
  · rfl
theorem mkL_one (f : Nat → Bool) (i : Nat) (c : UInt8) : mkL f i [c] = [c] := rfl
theorem mkL_cons (f : Nat → Bool) (i : Nat) (c : UInt8) (l : List UInt8) : ∃ r, mkL f i (c :: l) = c :: r ∧ (l = [] → r = []) := by
  cases l with
  | nil => exact ⟨[], rfl, fun _ => rfl⟩
  | cons d r => exact ⟨_, rfl, fun h => by cases h⟩
/-- Marked digits of base 10. -/
theorem body_mk (f : Nat → Bool) (m : Bool) (n : Nat) : body 10 m (mkL f 0 (dN 10 n)) = fin m (some n) := by
  have hv : vl 10 false 0 (mkL f 0 (dN 10 n)) = some n := by rw [mkL_nil_app f 0 false 0 (isD_dN (by omega) (by omega) n), vl_dN' (by omega) (by omega)]
  rw [body, if_neg, hv]
  rintro (h | ⟨_, h1, h2⟩)
  · exact mkL_ne f 0 (dN_ne 10 n) h
  · by_cases h0 : n = 0
    · subst h0; rw [dN_zero (by omega), mkL_one] at h1; simp at h1
    · obtain ⟨d, r, e, h3, h4⟩ := dN_head (b := 10) (by omega) (by omega) h0
      obtain ⟨r', e', _⟩ := mkL_cons f 0 (ch d) r
      rw [e, e'] at h2
      simp at h2
      exact ch_48 (by omega) h3 h2
theorem pre_mk (f : Nat → Bool) (n : Nat) : pre (mkL f 0 (dN 10 n)) = (10, false, mkL f 0 (dN 10 n)) := by
  by_cases h0 : n = 0
  · subst h0; rw [dN_zero (by omega)]; rfl
  · obtain ⟨d, r, e, h1, h2⟩ := dN_head (b := 10) (by omega) (by omega) h0
    obtain ⟨r', e', _⟩ := mkL_cons f 0 (ch d) r
    rw [e, e']
    exact pre_plain (ch_48 (by omega) h1) (ch_signs (by omega)).1 (ch_signs (by omega)).2
/-- A number's digits of base 10, and its sign. -/
def sg (v : Int) : List UInt8 := if v < 0 then [45] else []
theorem nfI_sg (v : Int) : nfI v = sg v ++ dN 10 v.natAbs := by
  unfold nfI sg
  split
  · rw [show (-v).toNat = v.natAbs by omega]; rfl
  · rw [show v.toNat = v.natAbs by omega]; rfl
theorem fin_v {v : Int} (h : fits v) : fin (decide (v < 0)) (some v.natAbs) = .ok (nfI v) := by
  have h1 := h.1
  have h2 := h.2
  unfold fin
  by_cases hv : v < 0
  · rw [decide_eq_true hv, if_pos rfl]
    show (if v.natAbs > 9223372036854775808 then R.big else R.ok (nf true v.natAbs)) = _
    rw [if_neg (by omega), nf_nfI, if_pos rfl]
    rw [show -((v.natAbs : Nat) : Int) = v by omega]
  · rw [decide_eq_false hv]
    show (if v.natAbs > (if false = true then 9223372036854775808 else 9223372036854775807) then R.big else R.ok (nf false v.natAbs)) = _
    rw [if_neg (by simp; omega), nf_nfI]
    simp only [Bool.false_eq_true, if_false]
    rw [show ((v.natAbs : Nat) : Int) = v by omega]
theorem fin_pos {v : Int} (h : fits v) (h0 : ¬ v < 0) : fin false (some v.natAbs) = .ok (nfI v) := by
  have := fin_v h
  rwa [decide_eq_false h0] at this
theorem rd_marked (f : Nat → Bool) {v : Int} (h : fits v) : rd (sg v ++ mkL f 0 (dN 10 v.natAbs)) = .ok (nfI v) := by
  have hf := fin_v h
  unfold sg
  by_cases hv : v < 0
  · rw [decide_eq_true hv] at hf
    rw [if_pos hv, List.singleton_append, rd, pre_minus]
    show body 10 true _ = _
    rw [body_mk, hf]
  · rw [decide_eq_false hv] at hf
    rw [if_neg hv, List.nil_append, rd, pre_mk]
    show body 10 false _ = _
    rw [body_mk, hf]
theorem rd_pv {v : Int} (h : fits v) (h0 : ¬ v < 0) : rd (43 :: nfI v) = .ok (nfI v) := by
  rw [rd, pre_plus, nfI_sg, sg, if_neg h0, List.nil_append]
  show body 10 false _ = _
  rw [body_dN, fin_pos h h0, nfI_sg, sg, if_neg h0, List.nil_append]
theorem body_mkb (f : Nat → Bool) {b : Nat} (hb : 2 ≤ b) (hb2 : b ≤ 16) (h10 : b ≠ 10) {v : Int} (h : fits v) (h0 : ¬ v < 0) : body b false (mkL f 0 (dN b v.natAbs)) = .ok (nfI v) := by
  rw [body_of (n := v.natAbs) h10 (mkL_ne f 0 (dN_ne b _)) (by rw [mkL_nil_app f 0 false 0 (isD_dN hb hb2 _), vl_dN' hb hb2]), fin_pos h h0]
theorem rd_mx (f : Nat → Bool) {v : Int} (h : fits v) (h0 : ¬ v < 0) : rd (48 :: 120 :: mkL f 0 (dN 16 v.natAbs)) = .ok (nfI v) := by
  rw [rd_x]; exact body_mkb f (by omega) (by omega) (by omega) h h0
theorem rd_mo (f : Nat → Bool) {v : Int} (h : fits v) (h0 : ¬ v < 0) : rd (48 :: 111 :: mkL f 0 (dN 8 v.natAbs)) = .ok (nfI v) := by
  rw [rd_o]; exact body_mkb f (by omega) (by omega) (by omega) h h0
theorem rd_mb (f : Nat → Bool) {v : Int} (h : fits v) (h0 : ¬ v < 0) : rd (48 :: 98 :: mkL f 0 (dN 2 v.natAbs)) = .ok (nfI v) := by
  rw [rd_b]; exact body_mkb f (by omega) (by omega) (by omega) h h0
theorem rd_ux {v : Int} (h : fits v) (h0 : ¬ v < 0) : rd (48 :: 120 :: 48 :: 95 :: 48 :: (dN 16 v.natAbs).map up) = .ok (nfI v) := by
  rw [rd_x, body_of (n := v.natAbs) (by omega) (by simp) ?_, fin_pos h h0]
  have d48 : isD 16 48 = true := by decide
  rw [vl_dig d48, vl_mark (by simp), vl_dig d48]
  have hz : (0 * 16 + dg 48) * 16 + dg 48 = 0 := by decide
  rw [hz]
  have := vl_up (b := 16) (by omega) (by omega) v.natAbs true []
  rwa [List.append_nil, vl_nil] at this
/-- What is too great. -/
theorem big_mul' {n b k : Nat} (hb : 0 < b) : n ≤ n * b ^ k := Nat.le_mul_of_pos_right _ (Nat.pow_pos hb)
theorem body_zb {b n k : Nat} (hb : 2 ≤ b) (hb2 : b ≤ 16) (h10 : b ≠ 10) (h : 9223372036854775808 ≤ n) : body b false (dN b n ++ List.replicate k 48) = .big := by
  have := big_mul' (n := n) (b := b) (k := k) (by omega)
  rw [body_of (n := n * b ^ k) h10 (by simp [dN_ne]) (vl_dN_zeros hb hb2 n k false), fin_big (by simp [lim]; omega)]
theorem rd_zx {n k : Nat} (h : 9223372036854775808 ≤ n) : rd (48 :: 120 :: (dN 16 n ++ List.replicate k 48)) = .big := by
  rw [rd_x]; exact body_zb (by omega) (by omega) (by omega) h
theorem rd_zo {n k : Nat} (h : 9223372036854775808 ≤ n) : rd (48 :: 111 :: (dN 8 n ++ List.replicate k 48)) = .big := by
  rw [rd_o]; exact body_zb (by omega) (by omega) (by omega) h
theorem rd_zb {n k : Nat} (h : 9223372036854775808 ≤ n) : rd (48 :: 98 :: (dN 2 n ++ List.replicate k 48)) = .big := by
  rw [rd_b]; exact body_zb (by omega) (by omega) (by omega) h
theorem rd_0x {n : Nat} (h : 9223372036854775808 ≤ n) : rd (48 :: 120 :: (List.replicate 21 48 ++ dN 16 n)) = .big := by
  have hd : ∀ c r, dN 16 n = c :: r → isD 16 c = true := fun c r e => by
    have := isD_dN (b := 16) (by omega) (by omega) n
    rw [e] at this
    simp at this
    exact this.1
  rw [rd_x, body_of (n := n) (by omega) (by simp) ?_, fin_big (by simp [lim]; omega)]
  rw [vl_zeros_p (by omega) _ hd, vl_dN' (by omega) (by omega)]
theorem rd_zd {n k : Nat} (h : 9223372036854775808 ≤ n) : rd (dN 10 n ++ List.replicate k 48) = .big := by
  have := big_mul' (n := n) (b := 10) (k := k) (by omega)
  rw [rd, pre_dN_app n _ (by omega)]
  show body 10 false _ = _
  rw [body10_zeros (by omega), fin_big (by simp [lim]; omega)]
theorem rd_zp {n k : Nat} (h : 9223372036854775808 ≤ n) : rd (43 :: (dN 10 n ++ List.replicate k 48)) = .big := by
  have := big_mul' (n := n) (b := 10) (k := k) (by omega)
  rw [rd, pre_plus]
  show body 10 false _ = _
  rw [body10_zeros (by omega), fin_big (by simp [lim]; omega)]
theorem rd_zm {n k : Nat} (h : 9223372036854775808 < n) : rd (45 :: (dN 10 n ++ List.replicate k 48)) = .big := by
  have := big_mul' (n := n) (b := 10) (k := k) (by omega)
  rw [rd, pre_minus]
  show body 10 true _ = _
  rw [body10_zeros (by omega), fin_big (by simp [lim]; omega)]
end In
end Go.Proofs.YtonfaphllpjmpaaDoor
