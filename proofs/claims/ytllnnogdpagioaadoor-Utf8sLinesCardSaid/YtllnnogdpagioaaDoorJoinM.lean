/- Of lists of bytes, one behind the other: where the first wrong byte is. -/
import Derived.Test.YtllnnogdpagioaaDoorLists
namespace Go.Proofs.YtllnnogdpagioaaDoor
open Go.RowKit

/-- With four bytes at hand, what stands behind makes no difference. -/
theorem lng_append0 {l r : List UInt8} (h4 : 4 ≤ l.length) (hz : lng l = 0) : lng (l ++ r) = 0 := by
  rcases Nat.eq_zero_or_pos (lng (l ++ r)) with h | h
  · exact h
  · have h4' := lng_le4 (l ++ r)
    have := lng_same (l := l ++ r) (m := l) (fun k hk => (bt_append (by omega)).symm) (by omega) (by omega)
    omega
theorem scn_append {a : List UInt8} (b : List UInt8) (h : scn a = a.length) : scn (a ++ b) = a.length + scn b := by
  by_cases hz : lng a = 0
  · rw [scn_stop hz] at h
    obtain rfl : a = [] := List.eq_nil_of_length_eq_zero h.symm
    simp
  · have hl := lng_le a
    have ih := scn_append (a := a.drop (lng a)) b (scn_drop hz h)
    have e : lng (a ++ b) = lng a := lng_append hz
    rw [scn_step (by omega), e, List.drop_append_of_le_length hl, ih]
    simp; omega
termination_by a.length
decreasing_by simp; omega
theorem scn_wrong {a : List UInt8} (b : List UInt8) (h : scn a + 3 < a.length) : scn (a ++ b) = scn a := by
  by_cases hz : lng a = 0
  · rw [scn_stop hz] at h ⊢
    exact scn_stop (lng_append0 (by omega) hz)
  · have hl := lng_le a
    have h' := h
    rw [scn_step hz] at h'
    have ih := scn_wrong (a := a.drop (lng a)) b (by simp; omega)
    have e : lng (a ++ b) = lng a := lng_append hz
    rw [scn_step (by omega), e, List.drop_append_of_le_length hl, ih, ← scn_step hz]
termination_by a.length
decreasing_by simp; omega
theorem chk_single (l : List UInt8) {k : Nat} (hk : k < l.length) : chkAt ((l.drop k).take 1) = 0 ∧ chkOk ((l.drop k).take 1) = decide (bt l k < 128) := by
  obtain ⟨m, hm⟩ : ∃ m, (l.drop k).take 1 = m := ⟨_, rfl⟩
  have hl : m.length = 1 := by rw [← hm]; simp; omega
  have hb : bt m 0 = bt l k := by rw [← hm, bt_take _ (by omega), bt_drop]; rfl
  rw [hm]
  have hlo := bt_lo l k
  by_cases h : bt l k < 128
  · have e0 : bhd (bt m 0) = 0 := by rw [hb]; simp [bhd, wth]; omega
    have e1 : lng m = 1 := lng_0 (by omega) e0
    have e2 : scn m = 1 := by
      rw [scn_step (by omega), e1]
      have : m.drop 1 = [] := List.drop_eq_nil_iff.2 (by omega)
      rw [this, scn_stop lng_nil]
    exact ⟨by simp [chkAt, e2, hl], by simp [chkOk, e2, hl, h]⟩
  · have e1 : lng m = 0 := by
      rcases bhd_cases (bt m 0) with g | g | g | g | g
      · exact lng_none g
      · exfalso; rw [hb] at g; unfold bhd at g; simp only [wth] at g
        repeat' split at g
        all_goals first | omega | (simp at *; omega)
      · exact lng_short (k := 1) (by omega) g
      · exact lng_short (k := 2) (by omega) g
      · exact lng_short (k := 3) (by omega) g
    have e2 : scn m = 0 := scn_stop e1
    exact ⟨by simp [chkAt, e2, hl], by simp [chkOk, e2, hl, h]⟩
theorem chk_take (l : List UInt8) : chkOk (l.take (scn l)) = true := by
  have := scn_le l
  simp [chkOk, (scn_take l).1]; omega
end Go.Proofs.YtllnnogdpagioaaDoor
