/- The law Utf8sPlace, walked: it answers true, and nothing that was there is turned. -/
import Derived.Test.YtllnnogdpagioaaDoorRefPlace
import Derived.Test.YtllnnogdpagioaaDoorTwin
namespace Go.Proofs.YtllnnogdpagioaaDoor
open Go.RowKit

theorem lawplace_long {l : List UInt8} {A : Option Addr} {n c : Nat} {w : World} (ha : ArgB w A n c l) (p : Int) (hT : Tab w) (h : 2000 < n) :
    Calls Tryd.prog 4 #[.slice A n c, .int .i64 p] w fun e w' => e = .returned (.bool true) ∧ Below w.heap.size w w' := by
  obtain ⟨_, h1, h2, _⟩ := ha
  unfold maxLen at h2
  have HT := Lib.hid hT
  clear hT
  have h' : (2000 : Int) < n := by omega
  go_enter Tryd.func4, Tryd.ntmps4
  go_wp2_with (go_at_call 9; refine (lives_tab HT.out).mono ?_; rintro e w' ⟨rfl, hb⟩)
  go_ret
  exact ⟨rfl, hb⟩
set_option maxHeartbeats 1000000 in
theorem lawplace_in {l : List UInt8} {A : Option Addr} {n c : Nat} {w : World} (ha : ArgB w A n c l) (p : Nat) (hT : Tab w) (h : n ≤ 2000) (hp : p ≤ n) :
    Calls Tryd.prog 4 #[.slice A n c, .int .i64 p] w fun e w' => e = .returned (.bool true) ∧ Below w.heap.size w w' := by
  have HT := Lib.hid hT
  have Ha := Lib.hid ha
  obtain ⟨hn, hnc, hcm, hA, _⟩ := ha
  have hcm' := hcm
  unfold maxLen at hcm'
  have Hn := Lib.hid hn
  have h' : ¬ (2000 : Int) < n := by omega
  clear hT hn
  go_enter Tryd.func4, Tryd.ntmps4
  go_wp2_with fail
  refine (twin_any Ha.out (by omega)).mono ?_
  rintro e w1 ⟨rfl, hB1, hb1, hs1⟩
  have hB1l := hB1.front
  go_wp2_with fail
  refine (place_in n (n + 3) p Hn.out (by omega) hB1l (Nat.le_refl _) (by unfold maxLen; omega) (by omega) hp).mono ?_
  rintro e w2 ⟨rfl, hb2⟩
  have hb : Below w.heap.size w w2 := hb1.trans (hb2.mono (Nat.le_of_lt hs1))
  have hB2 := hB1.below hb2
  have hA2 := hA.below hb
  have HT2 := Lib.hid (HT.out.below hb HT.out.2.2)
  clear hB1 hB1l hb1 hs1 hb2
  go_wp2_with fail
  refine (rplace_in n c p Hn.out hnc hA2 hcm (by omega) hp).mono ?_
  rintro e w' ⟨rfl, rfl⟩
  go_wp2_with fail
  refine (left_any _ _ Hn.out hB2 hA2 (by omega)).mono ?_
  rintro e w' ⟨rfl, rfl⟩
  go_wp2_with fail
  refine (lives_tab HT2.out).mono ?_
  rintro e w3 ⟨rfl, hb3⟩
  go_wp2_with fail
  go_ret
  exact ⟨rfl, hb.trans (hb3.mono hb.size)⟩
set_option maxHeartbeats 1000000 in
theorem lawplace_low {l : List UInt8} {A : Option Addr} {n c : Nat} {w : World} (ha : ArgB w A n c l) (p : Int) (hT : Tab w) (h : n ≤ 2000) (hp : p < 0) :
    Calls Tryd.prog 4 #[.slice A n c, .int .i64 p] w fun e w' => e = .returned (.bool true) ∧ Below w.heap.size w w' := by
  have HT := Lib.hid hT
  have Ha := Lib.hid ha
  obtain ⟨hn, hnc, hcm, hA, _⟩ := ha
  have hcm' := hcm
  unfold maxLen at hcm'
  have Hn := Lib.hid hn
  have h' : ¬ (2000 : Int) < n := by omega
  clear hT hn
  go_enter Tryd.func4, Tryd.ntmps4
  go_wp2_with fail
  refine (twin_any Ha.out (by omega)).mono ?_
  rintro e w1 ⟨rfl, hB1, hb1, hs1⟩
  have hB1l := hB1.front
  go_wp2_with fail
  refine (place_low n (n + 3) p hp Hn.out).mono ?_
  rintro e w2 ⟨rfl, rfl⟩
  have hb : Below w.heap.size w w1 := hb1
  have hB2 := hB1
  have hA2 := hA.below hb
  have HT2 := Lib.hid (HT.out.below hb HT.out.2.2)
  clear hB1 hB1l hs1
  go_wp2_with fail
  refine (rplace_low n c p hp).mono ?_
  rintro e w' ⟨rfl, rfl⟩
  go_wp2_with fail
  refine (left_any _ _ Hn.out hB2 hA2 (by omega)).mono ?_
  rintro e w' ⟨rfl, rfl⟩
  go_wp2_with fail
  refine (lives_tab HT2.out).mono ?_
  rintro e w3 ⟨rfl, hb3⟩
  go_wp2_with fail
  go_ret
  exact ⟨rfl, hb.trans (hb3.mono hb.size)⟩
set_option maxHeartbeats 1000000 in
theorem lawplace_high {l : List UInt8} {A : Option Addr} {n c : Nat} {w : World} (ha : ArgB w A n c l) (p : Int) (hT : Tab w) (h : n ≤ 2000) (hp : (n : Int) < p) :
    Calls Tryd.prog 4 #[.slice A n c, .int .i64 p] w fun e w' => e = .returned (.bool true) ∧ Below w.heap.size w w' := by
  have HT := Lib.hid hT
  have Ha := Lib.hid ha
  obtain ⟨hn, hnc, hcm, hA, _⟩ := ha
  have hcm' := hcm
  unfold maxLen at hcm'
  have Hn := Lib.hid hn
  have h' : ¬ (2000 : Int) < n := by omega
  clear hT hn
  go_enter Tryd.func4, Tryd.ntmps4
  go_wp2_with fail
  refine (twin_any Ha.out (by omega)).mono ?_
  rintro e w1 ⟨rfl, hB1, hb1, hs1⟩
  have hB1l := hB1.front
  go_wp2_with fail
  refine (place_high n (n + 3) p hp Hn.out (by unfold maxLen; omega)).mono ?_
  rintro e w2 ⟨rfl, rfl⟩
  have hb : Below w.heap.size w w1 := hb1
  have hB2 := hB1
  have hA2 := hA.below hb
  have HT2 := Lib.hid (HT.out.below hb HT.out.2.2)
  clear hB1 hB1l hs1
  go_wp2_with fail
  refine (rplace_high n c p hp (by unfold maxLen; omega)).mono ?_
  rintro e w' ⟨rfl, rfl⟩
  go_wp2_with fail
  refine (left_any _ _ Hn.out hB2 hA2 (by omega)).mono ?_
  rintro e w' ⟨rfl, rfl⟩
  go_wp2_with fail
  refine (lives_tab HT2.out).mono ?_
  rintro e w3 ⟨rfl, hb3⟩
  go_wp2_with fail
  go_ret
  exact ⟨rfl, hb.trans (hb3.mono hb.size)⟩
/-- The law Utf8sPlace. -/
theorem lawplace_any {l : List UInt8} {A : Option Addr} {n c : Nat} {w : World} (ha : ArgB w A n c l) (p : Int) (hT : Tab w) :
    Calls Tryd.prog 4 #[.slice A n c, .int .i64 p] w fun e w' => e = .returned (.bool true) ∧ Below w.heap.size w w' := by
  by_cases h : 2000 < n
  · exact lawplace_long ha p hT h
  by_cases h1 : p < 0
  · exact lawplace_low ha p hT (by omega) h1
  by_cases h2 : (n : Int) < p
  · exact lawplace_high ha p hT (by omega) h2
  · obtain ⟨k, rfl⟩ := Int.eq_ofNat_of_zero_le (show 0 ≤ p by omega)
    exact lawplace_in ha k hT (by omega) (by omega)
end Go.Proofs.YtllnnogdpagioaaDoor
