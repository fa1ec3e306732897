/- Where the first wrong byte is; the program's Check. -/
import Derived.Test.YtllnnogdpagioaaDoorLong
import Derived.LoopTactic
import Derived.Outline
namespace Go.Proofs.YtllnnogdpagioaaDoor
open Go.RowKit

theorem lng_le (l : List UInt8) : lng l ≤ l.length := by unfold lng; repeat' split
                                                         all_goals omega
theorem lng_le4 (l : List UInt8) : lng l ≤ 4 := by unfold lng; repeat' split
                                                   all_goals omega
theorem lng_nil : lng [] = 0 := rfl

/-- The first wrong byte's place; behind the last byte, if there is none. -/
def scn (l : List UInt8) : Nat := if lng l = 0 then 0 else lng l + scn (l.drop (lng l))
termination_by l.length
decreasing_by have := lng_le l; simp; omega
theorem scn_stop {l : List UInt8} (h : lng l = 0) : scn l = 0 := by rw [scn, if_pos h]
theorem scn_step {l : List UInt8} (h : lng l ≠ 0) : scn l = lng l + scn (l.drop (lng l)) := by rw [scn, if_neg h]
theorem scn_le (l : List UInt8) : scn l ≤ l.length := by
  rw [scn]; split
  · omega
  · have h1 := lng_le l
    have h2 := scn_le (l.drop (lng l))
    simp at h2; omega
termination_by l.length
decreasing_by have := lng_le l; simp; omega
def chkAt (l : List UInt8) : Int := if scn l = l.length then 0 else scn l
def chkOk (l : List UInt8) : Bool := decide (scn l = l.length)

theorem at_end {l : List UInt8} {k : Nat} (hk : k ≤ l.length) (hs : scn l = k + scn (l.drop k)) (h : ¬ k < l.length) : chkAt l = 0 ∧ chkOk l = true := by
  have : l.drop k = [] := by rw [List.drop_eq_nil_iff]; omega
  rw [this, scn_stop lng_nil] at hs
  have e : scn l = l.length := by omega
  exact ⟨by simp [chkAt, e], by simp [chkOk, e]⟩
theorem at_wrong {l : List UInt8} {k : Nat} (hs : scn l = k + scn (l.drop k)) (h : k < l.length) (hz : lng (l.drop k) = 0) : chkAt l = k ∧ chkOk l = false := by
  rw [scn_stop hz] at hs
  have e : scn l ≠ l.length := by omega
  exact ⟨by simp only [chkAt, if_neg e]; omega, by simp [chkOk, e]⟩
theorem at_on {l : List UInt8} {k n : Nat} (hk : k < l.length) (hs : scn l = k + scn (l.drop k)) (hn : n = lng (l.drop k)) (hz : n ≠ 0) : k + n ≤ l.length ∧ scn l = (k + n) + scn (l.drop (k + n)) := by
  subst hn
  have h1 := lng_le (l.drop k)
  rw [scn_step hz, List.drop_drop] at hs
  simp at h1
  exact ⟨by omega, by omega⟩

theorem long_is {l : List UInt8} {B : Nat} {A : Option Addr} (m : Int) (n c : Nat) {w : World} (hn : n = l.length) (hA : Byt w B A l) (hl : 0 < l.length) (hm : l.length ≤ maxLen) (e : m = lng l) :
    Calls Tryd.prog 26 #[.slice A n c] w fun e w' => e = .returned (.int .i64 m) ∧ w = w' := e ▸ long_any n c hn hA hl hm

set_option maxHeartbeats 1000000 in
theorem check_any {l : List UInt8} {B : Nat} {A : Option Addr} (n c : Nat) {w : World} (hn : n = l.length) (hnc : n ≤ c) (hA : Byt w B A l) (hm : c ≤ maxLen) :
    Calls Tryd.prog 11 #[.slice A n c] w fun e w' => e = .returned (.tuple #[.int .i64 (chkAt l), .bool (chkOk l)]) ∧ w = w' := by
  have hm' := hm
  unfold maxLen at hm
  have Hn := Lib.hid hn
  clear hn
  go_enter Tryd.func11, Tryd.ntmps11
  go_wp2
  go_loop [2] (fun i => ∃ k : Nat, k ≤ n ∧ i = .int .i64 k ∧ scn l = k + scn (l.drop k)) (fun i => n - (intOf i).toNat)
  case atStart => exact ⟨0, Nat.zero_le _, rfl, by simp⟩
  case round =>
    obtain ⟨k, hk, rfl, hs⟩ := hrel
    have HS := Lib.hid hs
    clear hs
    by_cases hlt : k < n
    · have hd : 0 < (l.drop k).length := by have := Hn.out; simp; omega
      have hcut := hA.cut' (k := k) (by have := Hn.out; omega)
      obtain ⟨m, Hm⟩ : ∃ m, Hid (m = lng (l.drop k)) := ⟨_, rfl⟩
      have hmm : m ≤ n - k := by have := lng_le (l.drop k); have := Hm.out; have := Hn.out; simp at *; omega
      by_cases hz : m = 0
      · subst hz
        have HA := Lib.hid (at_wrong (k := k) HS.out (by have := Hn.out; omega) Hm.out.symm)
        go_wp2_with (go_at_call 26; refine (long_is 0 _ _ (by have := Hn.out; simp; omega) hcut hd (by simp; unfold maxLen; have := Hn.out; omega) (by have := Hm.out; omega)).mono ?_; rintro e w' ⟨rfl, rfl⟩)
        go_ret2
        exact ⟨ret_ib HA.out.1.symm HA.out.2.symm, rfl⟩
      · have HA := Lib.hid (at_on (by have := Hn.out; omega) HS.out Hm.out hz)
        have hz' : ((m : Int) == 0) = false := by simp; omega
        go_wp2_with (go_at_call 26; refine (long_is (m : Int) _ _ (by have := Hn.out; simp; omega) hcut hd (by simp; unfold maxLen; have := Hn.out; omega) (by have := Hm.out; omega)).mono ?_; rintro e w' ⟨rfl, rfl⟩)
        go_round
        case rel => exact ⟨k + m, by omega, by go_num, HA.out.2⟩
        case measure => simp [intOf]; omega
    · have HA := Lib.hid (at_end (k := k) (by have := Hn.out; omega) HS.out (by have := Hn.out; omega))
      go_wp2
      go_ret2
      exact ⟨ret_ib HA.out.1.symm HA.out.2.symm, rfl⟩
end Go.Proofs.YtllnnogdpagioaaDoor
