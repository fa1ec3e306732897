/- The document's answers on the first wrong byte, and on a byte's line and column, walked. -/
import Derived.Test.YtllnnogdpagioaaDoorRefLong
import Derived.Test.YtllnnogdpagioaaDoorPlace
namespace Go.Proofs.YtllnnogdpagioaaDoor
open Go.RowKit

theorem rlong_is {l : List UInt8} {B : Nat} {A : Option Addr} (m : Int) (n c : Nat) {w : World} (hn : n = l.length) (hA : Byt w B A l) (hm : n ≤ maxLen) (e : m = lng l) :
    Calls Tryd.prog 27 #[.slice A n c] w fun e w' => e = .returned (.int .i64 m) ∧ w = w' := e ▸ rlong_any n c hn hA hm

set_option maxHeartbeats 1000000 in
theorem rcheck_any {l : List UInt8} {B : Nat} {A : Option Addr} (n c : Nat) {w : World} (hn : n = l.length) (hnc : n ≤ c) (hA : Byt w B A l) (hm : c ≤ maxLen) :
    Calls Tryd.prog 12 #[.slice A n c] w fun e w' => e = .returned (.tuple #[.int .i64 (chkAt l), .bool (chkOk l)]) ∧ w = w' := by
  have hm' := hm
  unfold maxLen at hm
  have Hn := Lib.hid hn
  clear hn
  go_enter Tryd.func12, Tryd.ntmps12
  go_wp2
  go_loop [4] (fun i => ∃ k : Nat, k ≤ n ∧ i = .int .i64 k ∧ scn l = k + scn (l.drop k)) (fun i => n - (intOf i).toNat)
  case atStart => exact ⟨0, Nat.zero_le _, rfl, by simp⟩
  case round =>
    obtain ⟨k, hk, rfl, hs⟩ := hrel
    have HS := Lib.hid hs
    clear hs
    by_cases hlt : k < n
    · have hcut := hA.cut' (k := k) (by have := Hn.out; omega)
      obtain ⟨m, Hm⟩ : ∃ m, Hid (m = lng (l.drop k)) := ⟨_, rfl⟩
      have hmm : m ≤ n - k := by have := lng_le (l.drop k); have := Hm.out; have := Hn.out; simp at *; omega
      by_cases hz : m = 0
      · subst hz
        have HA := Lib.hid (at_wrong (k := k) HS.out (by have := Hn.out; omega) Hm.out.symm)
        go_wp2_with (go_at_call 27; refine (rlong_is 0 _ _ (by have := Hn.out; simp; omega) hcut (by unfold maxLen; omega) (by have := Hm.out; omega)).mono ?_; rintro e w' ⟨rfl, rfl⟩)
        go_ret2
        exact ⟨ret_ib HA.out.1.symm HA.out.2.symm, rfl⟩
      · have HA := Lib.hid (at_on (by have := Hn.out; omega) HS.out Hm.out hz)
        have hz' : ((m : Int) == 0) = false := by simp; omega
        go_wp2_with (go_at_call 27; refine (rlong_is (m : Int) _ _ (by have := Hn.out; simp; omega) hcut (by unfold maxLen; omega) (by have := Hm.out; omega)).mono ?_; rintro e w' ⟨rfl, rfl⟩)
        go_round
        case rel => exact ⟨k + m, by omega, by go_num, HA.out.2⟩
        case measure => simp [intOf]; omega
    · have HA := Lib.hid (at_end (k := k) (by have := Hn.out; omega) HS.out (by have := Hn.out; omega))
      go_wp2
      go_ret2
      exact ⟨ret_ib HA.out.1.symm HA.out.2.symm, rfl⟩

theorem rplace_low {A : Option Addr} (n c : Nat) {w : World} (p : Int) (hp : p < 0) :
    Calls Tryd.prog 19 #[.slice A n c, .int .i64 p] w fun e w' => e = .returned (.tuple #[.int .i64 0, .int .i64 0]) ∧ w = w' := by
  go_enter Tryd.func19, Tryd.ntmps19
  go_wp2
  go_ret2
  exact ⟨rfl, rfl⟩
theorem rplace_high {A : Option Addr} (n c : Nat) {w : World} (p : Int) (hp : (n : Int) < p) (hm : n ≤ maxLen) :
    Calls Tryd.prog 19 #[.slice A n c, .int .i64 p] w fun e w' => e = .returned (.tuple #[.int .i64 0, .int .i64 0]) ∧ w = w' := by
  unfold maxLen at hm
  have h0 : ¬ p < 0 := by omega
  go_enter Tryd.func19, Tryd.ntmps19
  go_wp2
  go_ret2
  exact ⟨rfl, rfl⟩

set_option maxHeartbeats 2000000 in
theorem rplace_in {l : List UInt8} {B : Nat} {A : Option Addr} (n c p : Nat) {w : World} (hn : n = l.length) (hnc : n ≤ c) (hA : Byt w B A l) (hm : c ≤ maxLen) (hs : n ≤ 65536) (hp : p ≤ n) :
    Calls Tryd.prog 19 #[.slice A n c, .int .i64 p] w fun e w' => e = .returned (.tuple #[.int .i64 (1 + (nlTo l p : Int)), .int .i64 (1 + (colAt l p : Int))]) ∧ w = w' := by
  have hm' := hm
  unfold maxLen at hm
  have h0 : ¬ (p : Int) < 0 := by omega
  have h1 : ¬ (n : Int) < p := by omega
  have Hn := Lib.hid hn
  clear hn
  go_enter Tryd.func19, Tryd.ntmps19
  go_wp2
  go_loop [6, 7, 8] (fun s f i => ∃ k : Nat, k ≤ p ∧ i = .int .i64 k ∧ s = .int .i64 (1 + (nlTo l k : Int)) ∧ f = .int .i64 (1 + lastTo l k)) (fun _ _ i => p - (intOf i).toNat)
  case atStart => exact ⟨0, Nat.zero_le _, rfl, rfl, rfl⟩
  case round =>
    obtain ⟨k, hk, rfl, rfl, rfl⟩ := hrel
    have hnl := nlTo_le l k
    obtain ⟨hl0, hl1⟩ := lastTo_bd l k
    by_cases hlt : k < p
    · obtain ⟨b, off, rfl, _, hc⟩ := hA.at_ (k := k) (by have := Hn.out; omega)
      have hck := hc k (by have := Hn.out; omega)
      clear hc
      have hkn : k < n := by omega
      by_cases h10 : bt l k = 10
      · have E1 := Lib.hid (show nlTo l (k + 1) = nlTo l k + 1 by simp [nlTo, h10])
        have E2 := Lib.hid (show lastTo l (k + 1) = k by simp [lastTo, h10])
        go_wp2
        go_round
        case rel => exact ⟨k + 1, by omega, by go_num, by rw [E1.out]; go_num, by rw [E2.out]; go_num⟩
        case measure => simp [intOf]; omega
      · have E1 := Lib.hid (show nlTo l (k + 1) = nlTo l k by simp [nlTo, h10])
        have E2 := Lib.hid (show lastTo l (k + 1) = lastTo l k by simp [lastTo, h10])
        go_wp2
        go_round
        case rel => exact ⟨k + 1, by omega, by go_num, by rw [E1.out], by rw [E2.out]⟩
        case measure => simp [intOf]; omega
    · obtain rfl : p = k := by omega
      obtain ⟨x, HX⟩ : ∃ x : Nat, Hid (x = nlTo l p) := ⟨_, rfl⟩
      obtain ⟨f, hf⟩ : ∃ f : Nat, 1 + lastTo l p = f := ⟨(1 + lastTo l p).toNat, by omega⟩
      have HF := Lib.hid (show colAt l p = colF l p f by rw [colAt, hf]; rfl)
      have hfp : f ≤ p := by omega
      rw [← HX.out, hf]
      have HFY := Lib.hid hf
      clear hf hl0 hl1 hnl
      go_wp2
      go_loop [9, 10] (fun s i => ∃ k m : Nat, k ≤ n ∧ i = .int .i64 k ∧ s = .int .i64 (1 + (m : Int)) ∧ m ≤ k ∧ m + colF l p k = colF l p f) (fun _ i => n - (intOf i).toNat)
      case atStart => exact ⟨f, 0, by omega, by go_num, rfl, by omega, by omega⟩
      case round =>
        obtain ⟨k, m, hk, rfl, rfl, hmk, hcol⟩ := hrel
        have HC := Lib.hid hcol
        clear hcol
        by_cases hlt : k < p
        · have hcut := hA.cut' (k := k) (by have := Hn.out; omega)
          obtain ⟨q, HQ⟩ : ∃ q, Hid (q = lng (l.drop k)) := ⟨_, rfl⟩
          have hq : q ≤ n - k := by have := lng_le (l.drop k); have := HQ.out; have := Hn.out; simp at *; omega
          have HS := Lib.hid (show (m + 1) + colF l p (k + max 1 q) = colF l p f by have := colF_on (l := l) hlt; rw [← HQ.out] at this; have := HC.out; omega)
          have hkn : k < n := by omega
          by_cases hz : q = 0
          · subst hz
            go_wp2_with (go_at_call 27; refine (rlong_is 0 _ _ (by have := Hn.out; simp; omega) hcut (by unfold maxLen; omega) (by have := HQ.out; omega)).mono ?_; rintro e w' ⟨rfl, rfl⟩)
            go_round
            case rel => exact ⟨k + 1, m + 1, by omega, by go_num, by go_num, by omega, HS.out⟩
            case measure => simp [intOf]; omega
          · have hz' : ((q : Int) == 0) = false := by simp; omega
            go_wp2_with (go_at_call 27; refine (rlong_is (q : Int) _ _ (by have := Hn.out; simp; omega) hcut (by unfold maxLen; omega) (by have := HQ.out; omega)).mono ?_; rintro e w' ⟨rfl, rfl⟩)
            go_round
            case rel => exact ⟨k + q, m + 1, by omega, by go_num, by go_num, by omega, by have := HS.out; rwa [show max 1 q = q by omega] at this⟩
            case measure => simp [intOf]; omega
        · have HE := Lib.hid (show m = colF l p f by have := HC.out; rw [colF_end hlt] at this; omega)
          go_wp2
          go_ret2
          exact ⟨ret_ii (by rw [HX.out]) (by rw [HF.out, ← HE.out]), rfl⟩
end Go.Proofs.YtllnnogdpagioaaDoor
