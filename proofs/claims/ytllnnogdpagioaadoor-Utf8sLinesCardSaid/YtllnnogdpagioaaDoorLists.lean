/- Runes of bytes, as lists: where the first wrong byte is, the numbers up to it, how many there are. -/
import Derived.Test.YtllnnogdpagioaaDoorScan
import Derived.Test.YtllnnogdpagioaaDoorCount
import Derived.Test.YtllnnogdpagioaaDoorNumber
namespace Go.Proofs.YtllnnogdpagioaaDoor
open Go.RowKit

/-- The first four bytes decide. -/
theorem lng_same {l m : List UInt8} (hb : ∀ k, k < lng l → bt m k = bt l k) (hl : lng l ≤ m.length) (hz : lng l ≠ 0) : lng m = lng l := by
  have hll := lng_le l
  have h0 := hb 0 (by omega)
  rcases bhd_cases (bt l 0) with h | h | h | h | h
  · exact absurd (lng_none h) hz
  · have e := lng_0 (l := l) (by omega) h
    rw [e, lng_0 (by omega) (by rw [h0]; exact h)]
  · by_cases hs : l.length ≤ 1
    · exact absurd (lng_short hs h) hz
    · have e := lng_1 (l := l) (by omega) h
      by_cases hc : wth (bt l 1) (lo1 (bt l 0)) (hi1 (bt l 0)) = true
      · rw [if_pos hc] at e
        rw [e] at hb hl ⊢
        rw [lng_1 (by omega) (by rw [h0]; exact h), h0, hb 1 (by omega), if_pos hc]
      · rw [if_neg hc] at e; exact absurd e hz
  · by_cases hs : l.length ≤ 2
    · exact absurd (lng_short hs h) hz
    · have e := lng_2 (l := l) (by omega) h
      by_cases hc : wth (bt l 1) (lo1 (bt l 0)) (hi1 (bt l 0)) = true ∧ wth (bt l 2) 128 191 = true
      · rw [if_pos hc] at e
        rw [e] at hb hl ⊢
        rw [lng_2 (by omega) (by rw [h0]; exact h), h0, hb 1 (by omega), hb 2 (by omega), if_pos hc]
      · rw [if_neg hc] at e; exact absurd e hz
  · by_cases hs : l.length ≤ 3
    · exact absurd (lng_short hs h) hz
    · have e := lng_3 (l := l) (by omega) h
      by_cases hc : wth (bt l 1) (lo1 (bt l 0)) (hi1 (bt l 0)) = true ∧ wth (bt l 2) 128 191 = true ∧ wth (bt l 3) 128 191 = true
      · rw [if_pos hc] at e
        rw [e] at hb hl ⊢
        rw [lng_3 (by omega) (by rw [h0]; exact h), h0, hb 1 (by omega), hb 2 (by omega), hb 3 (by omega), if_pos hc]
      · rw [if_neg hc] at e; exact absurd e hz
theorem bt_append {l r : List UInt8} {k : Nat} (h : k < l.length) : bt (l ++ r) k = bt l k := by simp [bt, List.getElem?_append, h]
theorem lng_append {l r : List UInt8} (hz : lng l ≠ 0) : lng (l ++ r) = lng l := by
  have := lng_le l
  exact lng_same (fun k hk => bt_append (by omega)) (by simp; omega) hz
theorem lng_take {l : List UInt8} {m : Nat} (hm : lng l ≤ m) (hz : lng l ≠ 0) : lng (l.take m) = lng l := by
  have := lng_le l
  exact lng_same (fun k hk => bt_take l (by omega)) (by simp; omega) hz

/-- The numbers of the runes, up to the first wrong byte. -/
def rns (l : List UInt8) : List Int := if lng l = 0 then [] else nmb (l.take (lng l)) :: rns (l.drop (lng l))
termination_by l.length
decreasing_by have := lng_le l; simp; omega
theorem rns_stop {l : List UInt8} (h : lng l = 0) : rns l = [] := by rw [rns, if_pos h]
theorem rns_step {l : List UInt8} (h : lng l ≠ 0) : rns l = nmb (l.take (lng l)) :: rns (l.drop (lng l)) := by rw [rns, if_neg h]

theorem scn_take (l : List UInt8) : scn (l.take (scn l)) = scn l ∧ rns (l.take (scn l)) = rns l := by
  by_cases hz : lng l = 0
  · rw [scn_stop hz, rns_stop hz]
    exact ⟨scn_stop rfl, rns_stop rfl⟩
  · have h1 := lng_le l
    have ih := scn_take (l.drop (lng l))
    have e1 : lng (l.take (scn l)) = lng l := lng_take (by rw [scn_step hz]; omega) hz
    have e2 : (l.take (scn l)).drop (lng l) = (l.drop (lng l)).take (scn (l.drop (lng l))) := by
      rw [List.drop_take, scn_step hz]; congr 1; omega
    have e3 : (l.take (scn l)).take (lng l) = l.take (lng l) := by rw [List.take_take, scn_step hz]; congr 1; omega
    constructor
    · rw [scn_step (by rw [e1]; exact hz), e1, e2, ih.1, ← scn_step hz]
    · rw [rns_step (by rw [e1]; exact hz), e1, e2, e3, ih.2, ← rns_step hz]
termination_by l.length
decreasing_by have := lng_le l; simp; omega
theorem rns_le (l : List UInt8) : (rns l).length ≤ scn l := by
  by_cases hz : lng l = 0
  · rw [rns_stop hz]; simp
  · have ih := rns_le (l.drop (lng l))
    rw [rns_step hz, scn_step hz]; simp; omega
termination_by l.length
decreasing_by have := lng_le l; simp; omega

theorem cntTo_add (l : List UInt8) (i j : Nat) : cntTo l (i + j) = cntTo l i + cntTo (l.drop i) j := by
  induction j with
  | zero => simp [cntTo]
  | succ j ih => rw [← Nat.add_assoc]; simp only [cntTo]; rw [ih, bt_drop]; omega
theorem bhd_wth {c : Int} (h : bhd c ≠ -1) : wth c 128 191 = false := by
  unfold bhd at h
  simp only [wth] at *
  repeat' split at h
  all_goals (simp at *; try omega)
theorem lohi (c x : Int) (h : wth x (lo1 c) (hi1 c) = true) : wth x 128 191 = true := by
  have := wth_true h
  simp only [wth, Bool.and_eq_true, decide_eq_true_eq]
  unfold lo1 hi1 at this
  repeat' split at this
  all_goals omega
theorem cnt_lng {l : List UInt8} (hz : lng l ≠ 0) : cntTo l (lng l) = 1 := by
  have hll := lng_le l
  rcases bhd_cases (bt l 0) with h | h | h | h | h
  · exact absurd (lng_none h) hz
  · have e := lng_0 (l := l) (by omega) h
    rw [e]; simp [cntTo, bhd_wth (c := bt l 0) (by omega)]
  · by_cases hs : l.length ≤ 1
    · exact absurd (lng_short hs h) hz
    · have e := lng_1 (l := l) (by omega) h
      by_cases hc : wth (bt l 1) (lo1 (bt l 0)) (hi1 (bt l 0)) = true
      · rw [if_pos hc] at e
        rw [e]; simp [cntTo, bhd_wth (c := bt l 0) (by omega), lohi _ _ hc]
      · rw [if_neg hc] at e; exact absurd e hz
  · by_cases hs : l.length ≤ 2
    · exact absurd (lng_short hs h) hz
    · have e := lng_2 (l := l) (by omega) h
      by_cases hc : wth (bt l 1) (lo1 (bt l 0)) (hi1 (bt l 0)) = true ∧ wth (bt l 2) 128 191 = true
      · rw [if_pos hc] at e
        rw [e]; simp [cntTo, bhd_wth (c := bt l 0) (by omega), lohi _ _ hc.1, hc.2]
      · rw [if_neg hc] at e; exact absurd e hz
  · by_cases hs : l.length ≤ 3
    · exact absurd (lng_short hs h) hz
    · have e := lng_3 (l := l) (by omega) h
      by_cases hc : wth (bt l 1) (lo1 (bt l 0)) (hi1 (bt l 0)) = true ∧ wth (bt l 2) 128 191 = true ∧ wth (bt l 3) 128 191 = true
      · rw [if_pos hc] at e
        rw [e]; simp [cntTo, bhd_wth (c := bt l 0) (by omega), lohi _ _ hc.1, hc.2.1, hc.2.2]
      · rw [if_neg hc] at e; exact absurd e hz
/-- Of bytes that are runes: how many there are. -/
theorem cnt_rns (l : List UInt8) : cntTo l (scn l) = (rns l).length := by
  by_cases hz : lng l = 0
  · rw [scn_stop hz, rns_stop hz]; rfl
  · have ih := cnt_rns (l.drop (lng l))
    rw [scn_step hz, rns_step hz, cntTo_add, cnt_lng hz, ih]; simp; omega
termination_by l.length
decreasing_by have := lng_le l; simp; omega
theorem scn_drop {l : List UInt8} (hz : lng l ≠ 0) (h : scn l = l.length) : scn (l.drop (lng l)) = (l.drop (lng l)).length := by
  rw [scn_step hz] at h; simp; omega
end Go.Proofs.YtllnnogdpagioaaDoor
