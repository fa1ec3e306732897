/- How many runes there are in bytes that are runes: the program's way. -/
import Derived.Test.YtllnnogdpagioaaDoorSmall
import Derived.Test.YtllnnogdpagioaaDoorMem
import Derived.LoopTactic
import Derived.Outline
namespace Go.Proofs.YtllnnogdpagioaaDoor
open Go.RowKit

/-- Of the first k bytes, how many are not within 80 and BF. -/
def cntTo (l : List UInt8) : Nat → Nat
  | 0 => 0
  | k + 1 => cntTo l k + if wth (bt l k) 128 191 = true then 0 else 1
theorem cntTo_le (l : List UInt8) (k : Nat) : cntTo l k ≤ k := by
  induction k with
  | zero => simp [cntTo]
  | succ k ih => unfold cntTo; split <;> omega

set_option maxHeartbeats 400000 in
theorem count_any {l : List UInt8} {B : Nat} {A : Option Addr} (n c : Nat) {w : World} (hn : n = l.length) (hA : Byt w B A l) (hm : n ≤ maxLen) :
    Calls Tryd.prog 28 #[.slice A n c] w fun e w' => e = .returned (.int .i64 (cntTo l n)) ∧ w = w' := by
  unfold maxLen at hm
  have Hn := Lib.hid hn
  clear hn
  go_enter Tryd.func28, Tryd.ntmps28
  go_wp2
  go_loop [3, 8] (fun t i => ∃ k : Nat, k ≤ n ∧ i = .int .i64 k ∧ t = .int .i64 (cntTo l k)) (fun _ i => n - (intOf i).toNat)
  case atStart => exact ⟨0, Nat.zero_le _, rfl, rfl⟩
  case round =>
    obtain ⟨k, hk, rfl, rfl⟩ := hrel
    have h1 := cntTo_le l k
    by_cases hlt : k < n
    · obtain ⟨b, off, rfl, _, hc⟩ := hA.at_ (k := k) (by have := Hn.out; omega)
      have hck := hc k (by have := Hn.out; omega)
      clear hc
      by_cases hw : wth (bt l k) 128 191 = true
      · have HS := Lib.hid (show cntTo l (k + 1) = cntTo l k by simp [cntTo, hw])
        go_wp2_with (go_at_call 37; refine (within_any _ _ _ _).mono ?_; rintro e w' ⟨rfl, rfl⟩)
        go_round
        case rel => exact ⟨k + 1, by omega, by go_num, by rw [HS.out]⟩
        case measure => simp [intOf]; omega
      · have HS := Lib.hid (show cntTo l (k + 1) = cntTo l k + 1 by simp [cntTo, hw])
        go_wp2_with (go_at_call 37; refine (within_any _ _ _ _).mono ?_; rintro e w' ⟨rfl, rfl⟩)
        go_round
        case rel => exact ⟨k + 1, by omega, by go_num, by rw [HS.out]; go_num⟩
        case measure => simp [intOf]; omega
    · obtain rfl : k = n := by omega
      go_wp2
      go_ret
      exact ⟨rfl, rfl⟩
end Go.Proofs.YtllnnogdpagioaaDoor
