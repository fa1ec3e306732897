/- Lines and columns: how they rise from byte to byte. -/
import Derived.Test.YtllnnogdpagioaaDoorPlace
import Derived.Test.YtllnnogdpagioaaDoorJoinM
import Derived.Test.YtllnnogdpagioaaDoorRefRunes
namespace Go.Proofs.YtllnnogdpagioaaDoor
open Go.RowKit

/-- Is p come to, from i on, going through one behind the other? -/
def hit (l : List UInt8) (p i : Nat) : Bool := if i < p then hit l p (i + max 1 (lng (l.drop i))) else decide (i = p)
termination_by p - i
theorem hit_on {l : List UInt8} {p i : Nat} (h : i < p) : hit l p i = hit l p (i + max 1 (lng (l.drop i))) := by rw [hit, if_pos h]
theorem hit_end {l : List UInt8} {p i : Nat} (h : ¬ i < p) : hit l p i = decide (i = p) := by rw [hit, if_neg h]
theorem colF_next (l : List UInt8) (p i : Nat) : colF l (p + 1) i = colF l p i + if hit l p i = true then 1 else 0 := by
  by_cases h : i < p
  · rw [colF_on (p := p + 1) (by omega), colF_on h, hit_on h, colF_next l p (i + max 1 (lng (l.drop i)))]
    omega
  · rw [colF_end h, hit_end h]
    by_cases e : i = p
    · subst e
      rw [colF_on (by omega), colF_end (by omega)]; simp
    · rw [colF_end (by omega)]; simp [e]
termination_by p - i
/-- From i on all are runes. -/
def Ok (l : List UInt8) (i : Nat) : Prop := scn (l.drop i) = (l.drop i).length
theorem Ok.lng_pos {l : List UInt8} {i : Nat} (h : Ok l i) (hi : i < l.length) : lng (l.drop i) ≠ 0 := fun e => by
  unfold Ok at h
  rw [scn_stop e] at h
  simp at h; omega
theorem Ok.next {l : List UInt8} {i : Nat} (h : Ok l i) (hi : i < l.length) : Ok l (i + lng (l.drop i)) := by
  have := scn_drop (h.lng_pos hi) h
  unfold Ok
  rwa [List.drop_drop] at this
/-- The bytes of a rune behind its first one. -/
theorem inner_cont {l : List UInt8} {j : Nat} (h1 : 1 ≤ j) (h2 : j < lng l) : wth (bt l j) 128 191 = true := by
  have hll := lng_le l
  have hz : lng l ≠ 0 := by omega
  have hm : (l.take (lng l)).length = lng l := by simp; omega
  have hv : lng (l.take (lng l)) = (l.take (lng l)).length := by rw [lng_take (Nat.le_refl _) hz, hm]
  have := (lng_shape hv (by omega)).2 j h1 (by omega)
  rwa [bt_take l h2] at this
theorem first_not {l : List UInt8} (hz : lng l ≠ 0) : wth (bt l 0) 128 191 = false := bhd_wth (fun e => hz (lng_none e))
theorem hit_iff {l : List UInt8} {p i : Nat} (h : Ok l i) (hip : i ≤ p) (hp : p < l.length) : hit l p i = !wth (bt l p) 128 191 := by
  have hz := h.lng_pos (by omega)
  by_cases hlt : i < p
  · rw [hit_on hlt, show max 1 (lng (l.drop i)) = lng (l.drop i) by omega]
    by_cases hle : i + lng (l.drop i) ≤ p
    · exact hit_iff (h.next (by omega)) hle hp
    · have hc := inner_cont (l := l.drop i) (j := p - i) (by omega) (by omega)
      rw [bt_drop, show i + (p - i) = p by omega] at hc
      rw [hit_end (by omega), hc]
      simp; omega
  · obtain rfl : i = p := by omega
    have hc := first_not hz
    rw [bt_drop, Nat.add_zero] at hc
    rw [hit_end (by omega), hc]; simp
termination_by p - i
theorem Ok.at_hit {l : List UInt8} {p i : Nat} (h : Ok l i) (hip : i ≤ p) (hp : p < l.length) (hh : hit l p i = true) : Ok l p := by
  have hz := h.lng_pos (by omega)
  by_cases hlt : i < p
  · rw [hit_on hlt, show max 1 (lng (l.drop i)) = lng (l.drop i) by omega] at hh
    by_cases hle : i + lng (l.drop i) ≤ p
    · exact (h.next (by omega)).at_hit hle hp hh
    · rw [hit_end (by omega)] at hh
      simp at hh; omega
  · obtain rfl : i = p := by omega
    exact h
termination_by p - i
theorem Ok.behind {l : List UInt8} {j : Nat} (h : Ok l 0) (hj : j < l.length) (h10 : bt l j = 10) : Ok l (j + 1) := by
  have h1 : hit l j 0 = true := by rw [hit_iff h (Nat.zero_le _) hj, h10]; rfl
  have h2 := h.at_hit (Nat.zero_le _) hj h1
  have h3 := h2.next hj
  have e : lng (l.drop j) = 1 := lng_0 (by simp; omega) (by rw [bt_drop, Nat.add_zero, h10]; rfl)
  rwa [e] at h3
/-- Where a line begins. -/
def lst (l : List UInt8) (k : Nat) : Nat := (1 + lastTo l k).toNat
theorem lst_le (l : List UInt8) (k : Nat) : lst l k ≤ k := by have := lastTo_bd l k; unfold lst; omega
theorem Ok.line {l : List UInt8} (h : Ok l 0) {k : Nat} (hk : k ≤ l.length) : Ok l (lst l k) := by
  induction k with
  | zero => exact h
  | succ k ih =>
    unfold lst lastTo
    split
    · rename_i h10
      have := h.behind (by omega) h10
      rwa [show (1 + (k : Int)).toNat = k + 1 by omega]
    · exact ih (by omega)
/-- How many of the first k bytes are neither a line's end nor within 80 and BF. -/
def rnTo (l : List UInt8) : Nat → Nat
  | 0 => 0
  | k + 1 => rnTo l k + if bt l k = 10 ∨ wth (bt l k) 128 191 = true then 0 else 1
theorem rnTo_le (l : List UInt8) (k : Nat) : rnTo l k ≤ k := by
  induction k with
  | zero => simp [rnTo]
  | succ k ih => unfold rnTo; split <;> omega
theorem cnt_split (l : List UInt8) (k : Nat) : cntTo l k = rnTo l k + nlTo l k := by
  induction k with
  | zero => rfl
  | succ k ih =>
    simp only [cntTo, rnTo, nlTo, ih]
    by_cases h : bt l k = 10
    · simp [h, wth]; omega
    · by_cases h2 : wth (bt l k) 128 191 = true <;> simp [h, h2] <;> omega

theorem col_10 {l : List UInt8} {k : Nat} (h : bt l k = 10) : nlTo l (k + 1) = nlTo l k + 1 ∧ colAt l (k + 1) = 0 := by
  refine ⟨by simp [nlTo, h], ?_⟩
  unfold colAt lastTo
  rw [if_pos h]
  exact colF_end (by omega)
theorem col_else {l : List UInt8} {k : Nat} (h : bt l k ≠ 10) : nlTo l (k + 1) = nlTo l k ∧ colAt l (k + 1) = colAt l k + if hit l k (lst l k) = true then 1 else 0 := by
  refine ⟨by simp [nlTo, h], ?_⟩
  have e : colAt l (k + 1) = colF l (k + 1) (lst l k) := by unfold colAt lastTo lst; rw [if_neg h]
  rw [e, colF_next]; rfl
theorem hit_line {l : List UInt8} {k : Nat} (h : scn l = l.length) (hk : k < l.length) : hit l k (lst l k) = !wth (bt l k) 128 191 :=
  hit_iff (Ok.line (show Ok l 0 from h) (by omega)) (lst_le l k) hk
theorem runes_lines {l : List UInt8} (h : scn l = l.length) : ((rns l).length : Int) = rnTo l l.length + (1 + nlTo l l.length) - 1 := by
  have := cnt_rns l
  rw [h, cnt_split] at this
  omega
theorem and192 (x : Int) (h0 : 0 ≤ x) (h1 : x ≤ 255) : bits .and .u8 x 192 = x / 64 * 64 := by
  obtain ⟨n, rfl⟩ := Int.eq_ofNat_of_zero_le h0
  have h : ∀ m : Nat, m < 256 → m &&& 192 = m / 64 * 64 := by decide +kernel
  have e := u8_and_nat n 192 (by omega) (by omega)
  rw [h n (by omega)] at e
  have e2 : ((192 : Nat) : Int) = 192 := rfl
  rw [e2] at e
  rw [e]; omega
end Go.Proofs.YtllnnogdpagioaaDoor
