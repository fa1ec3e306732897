/- The number of a rune's bytes: the program's way. -/
import Derived.Test.YtllnnogdpagioaaDoorSmall
import Derived.Test.YtllnnogdpagioaaDoorMem
import Derived.Test.YtllnnogdpagioaaDoorBits
import Derived.LoopTactic
import Derived.Outline
import Derived.Deep.QuietTactic
import Derived.BigQuiet
namespace Go.Proofs.YtllnnogdpagioaaDoor
open Go.RowKit

/-- What the first byte gives, of n bytes. -/
def fst1 (l : List UInt8) (n : Nat) : Int := if n = 1 then bt l 0 % 128 else if n = 2 then bt l 0 % 32 else if n = 3 then bt l 0 % 16 else bt l 0 % 8
def numTo (l : List UInt8) (n : Nat) : Nat → Int
  | 0 => fst1 l n
  | k + 1 => numTo l n k * 64 + bt l (k + 1) % 64
/-- The number of a rune's bytes, all of them. -/
def nmb (l : List UInt8) : Int := numTo l l.length (l.length - 1)
theorem fst1_bd (l : List UInt8) (n : Nat) : 0 ≤ fst1 l n ∧ fst1 l n < 128 := by
  unfold fst1; repeat' split
  all_goals omega
theorem numTo_bd (l : List UInt8) (n k : Nat) : 0 ≤ numTo l n k ∧ (k < 4 → numTo l n k < 33554432) := by
  have h0 := fst1_bd l n
  match k with
  | 0 => simp only [numTo]; omega
  | 1 => simp only [numTo]; omega
  | 2 => simp only [numTo]; omega
  | 3 => simp only [numTo]; omega
  | k + 4 => 
    have := (numTo_bd l n (k + 3)).1
    simp only [numTo] at *
    have h1 := bt_lo l (k + 3 + 1)
    constructor
    · omega
    · omega
set_option maxHeartbeats 1000000 in
theorem number_2 {w : World} (l : List UInt8) (hl : l.length = 2) (b off c : Nat) (hc : ∀ k, k < l.length → w.cell? ⟨b, off + k, none⟩ = some (.int .u8 (bt l k))) (hcap : 2 ≤ c) (hcm : c ≤ maxLen) (hm : w.cell? ⟨0, 1, none⟩ = some (.int .u8 31)) :
    Calls Tryd.prog 29 #[.slice (some ⟨b, off, none⟩) 2 c] w fun e w' => e = .returned (.int .i64 (nmb l)) ∧ ∃ n, w' = w.drewN n := by
  have HL := Lib.hid hl
  have HC := Lib.hid hc
  have c0 : w.cell? ⟨b, off, none⟩ = some (.int .u8 (bt l 0)) := hc 0 (by omega)
  have a0 : bits .and .u8 (bt l 0) 31 = bt l 0 % 32 := and31 _ (bt_lo l 0) (bt_hi l 0)
  have ENmb := Lib.hid (show nmb l = numTo l 2 1 by rw [nmb, hl])
  have EFst := Lib.hid (show numTo l 2 0 = bt l 0 % 32 from rfl)
  have b0 := bt_lo l 0
  have b1 := bt_hi l 0
  unfold maxLen at hcm
  clear hl hc
  go_enter Tryd.func29, Tryd.ntmps29
  go_wp2
  go_quiet (fail)
  go_wp2
  go_loop [3, 19] (fun t i => ∃ k : Nat, k ≤ 1 ∧ i = .int .i64 k ∧ t = .int .i64 (numTo l 2 k)) (fun _ i => 1 - (intOf i).toNat)
  case atStart => exact ⟨0, Nat.zero_le _, rfl, by rw [EFst.out]⟩
  case round =>
    obtain ⟨k, hk, rfl, rfl⟩ := hrel
    obtain ⟨h2, h3⟩ := numTo_bd l 2 k
    have h3 := h3 (by omega)
    by_cases hlt : k < 1
    · have hck : (w.drewN nq).cell? ⟨b, off + 1 + k, none⟩ = some (.int .u8 (bt l (k + 1))) := by have := HC.out (k + 1) (by have := HL.out; omega); rwa [show off + (k + 1) = off + 1 + k by omega] at this
      have d0 := bt_lo l (k + 1)
      have d1 := bt_hi l (k + 1)
      have a1 : bits .and .u8 (bt l (k + 1)) 63 = bt l (k + 1) % 64 := and63 _ d0 d1
      have a2 : bits .or .i64 (numTo l 2 k * 64) (bt l (k + 1) % 64) = numTo l 2 k * 64 + bt l (k + 1) % 64 := or64 _ _ h2 (by omega) (by omega) (by omega)
      have HS := Lib.hid (show numTo l 2 (k + 1) = numTo l 2 k * 64 + bt l (k + 1) % 64 from rfl)
      go_wp2
      go_round
      case rel => exact ⟨k + 1, by omega, by go_num, by rw [HS.out]⟩
      case measure => simp [intOf]; omega
    · obtain rfl : k = 1 := by omega
      go_wp2
      go_ret
      exact ⟨ret_int ENmb.out.symm, _, rfl⟩
set_option maxHeartbeats 1000000 in
theorem number_3 {w : World} (l : List UInt8) (hl : l.length = 3) (b off c : Nat) (hc : ∀ k, k < l.length → w.cell? ⟨b, off + k, none⟩ = some (.int .u8 (bt l k))) (hcap : 3 ≤ c) (hcm : c ≤ maxLen) (hm : w.cell? ⟨0, 2, none⟩ = some (.int .u8 15)) :
    Calls Tryd.prog 29 #[.slice (some ⟨b, off, none⟩) 3 c] w fun e w' => e = .returned (.int .i64 (nmb l)) ∧ ∃ n, w' = w.drewN n := by
  have HL := Lib.hid hl
  have HC := Lib.hid hc
  have c0 : w.cell? ⟨b, off, none⟩ = some (.int .u8 (bt l 0)) := hc 0 (by omega)
  have a0 : bits .and .u8 (bt l 0) 15 = bt l 0 % 16 := and15 _ (bt_lo l 0) (bt_hi l 0)
  have ENmb := Lib.hid (show nmb l = numTo l 3 2 by rw [nmb, hl])
  have EFst := Lib.hid (show numTo l 3 0 = bt l 0 % 16 from rfl)
  have b0 := bt_lo l 0
  have b1 := bt_hi l 0
  unfold maxLen at hcm
  clear hl hc
  go_enter Tryd.func29, Tryd.ntmps29
  go_wp2
  go_quiet (fail)
  go_wp2
  go_loop [3, 19] (fun t i => ∃ k : Nat, k ≤ 2 ∧ i = .int .i64 k ∧ t = .int .i64 (numTo l 3 k)) (fun _ i => 2 - (intOf i).toNat)
  case atStart => exact ⟨0, Nat.zero_le _, rfl, by rw [EFst.out]⟩
  case round =>
    obtain ⟨k, hk, rfl, rfl⟩ := hrel
    obtain ⟨h2, h3⟩ := numTo_bd l 3 k
    have h3 := h3 (by omega)
    by_cases hlt : k < 2
    · have hck : (w.drewN nq).cell? ⟨b, off + 1 + k, none⟩ = some (.int .u8 (bt l (k + 1))) := by have := HC.out (k + 1) (by have := HL.out; omega); rwa [show off + (k + 1) = off + 1 + k by omega] at this
      have d0 := bt_lo l (k + 1)
      have d1 := bt_hi l (k + 1)
      have a1 : bits .and .u8 (bt l (k + 1)) 63 = bt l (k + 1) % 64 := and63 _ d0 d1
      have a2 : bits .or .i64 (numTo l 3 k * 64) (bt l (k + 1) % 64) = numTo l 3 k * 64 + bt l (k + 1) % 64 := or64 _ _ h2 (by omega) (by omega) (by omega)
      have HS := Lib.hid (show numTo l 3 (k + 1) = numTo l 3 k * 64 + bt l (k + 1) % 64 from rfl)
      go_wp2
      go_round
      case rel => exact ⟨k + 1, by omega, by go_num, by rw [HS.out]⟩
      case measure => simp [intOf]; omega
    · obtain rfl : k = 2 := by omega
      go_wp2
      go_ret
      exact ⟨ret_int ENmb.out.symm, _, rfl⟩
set_option maxHeartbeats 1000000 in
theorem number_4 {w : World} (l : List UInt8) (hl : l.length = 4) (b off c : Nat) (hc : ∀ k, k < l.length → w.cell? ⟨b, off + k, none⟩ = some (.int .u8 (bt l k))) (hcap : 4 ≤ c) (hcm : c ≤ maxLen) (hm : w.cell? ⟨0, 3, none⟩ = some (.int .u8 7)) :
    Calls Tryd.prog 29 #[.slice (some ⟨b, off, none⟩) 4 c] w fun e w' => e = .returned (.int .i64 (nmb l)) ∧ ∃ n, w' = w.drewN n := by
  have HL := Lib.hid hl
  have HC := Lib.hid hc
  have c0 : w.cell? ⟨b, off, none⟩ = some (.int .u8 (bt l 0)) := hc 0 (by omega)
  have a0 : bits .and .u8 (bt l 0) 7 = bt l 0 % 8 := and7 _ (bt_lo l 0) (bt_hi l 0)
  have ENmb := Lib.hid (show nmb l = numTo l 4 3 by rw [nmb, hl])
  have EFst := Lib.hid (show numTo l 4 0 = bt l 0 % 8 from rfl)
  have b0 := bt_lo l 0
  have b1 := bt_hi l 0
  unfold maxLen at hcm
  clear hl hc
  go_enter Tryd.func29, Tryd.ntmps29
  go_wp2
  go_quiet (fail)
  go_wp2
  go_loop [3, 19] (fun t i => ∃ k : Nat, k ≤ 3 ∧ i = .int .i64 k ∧ t = .int .i64 (numTo l 4 k)) (fun _ i => 3 - (intOf i).toNat)
  case atStart => exact ⟨0, Nat.zero_le _, rfl, by rw [EFst.out]⟩
  case round =>
    obtain ⟨k, hk, rfl, rfl⟩ := hrel
    obtain ⟨h2, h3⟩ := numTo_bd l 4 k
    have h3 := h3 (by omega)
    by_cases hlt : k < 3
    · have hck : (w.drewN nq).cell? ⟨b, off + 1 + k, none⟩ = some (.int .u8 (bt l (k + 1))) := by have := HC.out (k + 1) (by have := HL.out; omega); rwa [show off + (k + 1) = off + 1 + k by omega] at this
      have d0 := bt_lo l (k + 1)
      have d1 := bt_hi l (k + 1)
      have a1 : bits .and .u8 (bt l (k + 1)) 63 = bt l (k + 1) % 64 := and63 _ d0 d1
      have a2 : bits .or .i64 (numTo l 4 k * 64) (bt l (k + 1) % 64) = numTo l 4 k * 64 + bt l (k + 1) % 64 := or64 _ _ h2 (by omega) (by omega) (by omega)
      have HS := Lib.hid (show numTo l 4 (k + 1) = numTo l 4 k * 64 + bt l (k + 1) % 64 from rfl)
      go_wp2
      go_round
      case rel => exact ⟨k + 1, by omega, by go_num, by rw [HS.out]⟩
      case measure => simp [intOf]; omega
    · obtain rfl : k = 3 := by omega
      go_wp2
      go_ret
      exact ⟨ret_int ENmb.out.symm, _, rfl⟩
set_option maxHeartbeats 1000000 in
theorem number_1 {w : World} (l : List UInt8) (hl : l.length = 1) (b off c : Nat) (hc : ∀ k, k < l.length → w.cell? ⟨b, off + k, none⟩ = some (.int .u8 (bt l k))) (hcap : 1 ≤ c) (hcm : c ≤ maxLen) (hm : w.cell? ⟨0, 0, none⟩ = some (.int .u8 127)) :
    Calls Tryd.prog 29 #[.slice (some ⟨b, off, none⟩) 1 c] w fun e w' => e = .returned (.int .i64 (nmb l)) ∧ ∃ n, w' = w.drewN n := by
  have HL := Lib.hid hl
  have HC := Lib.hid hc
  have c0 : w.cell? ⟨b, off, none⟩ = some (.int .u8 (bt l 0)) := hc 0 (by omega)
  have a0 : bits .and .u8 (bt l 0) 127 = bt l 0 % 128 := and127 _ (bt_lo l 0) (bt_hi l 0)
  have ENmb := Lib.hid (show nmb l = numTo l 1 0 by rw [nmb, hl])
  have EFst := Lib.hid (show numTo l 1 0 = bt l 0 % 128 from rfl)
  have b0 := bt_lo l 0
  have b1 := bt_hi l 0
  unfold maxLen at hcm
  clear hl hc
  by_cases hc1 : c = 1
  · subst hc1
    go_enter Tryd.func29, Tryd.ntmps29
    go_wp2
    go_quiet (fail)
    go_wp2
    go_loop [3, 19] (fun t i => i = .int .i64 0 ∧ t = .int .i64 (numTo l 1 0)) (fun _ i => 0)
    case atStart => exact ⟨rfl, by rw [EFst.out]⟩
    case round =>
      obtain ⟨rfl, rfl⟩ := hrel
      go_wp2
      go_ret
      exact ⟨ret_int ENmb.out.symm, _, rfl⟩
  · have hc2 : 1 < c := by omega
    go_enter Tryd.func29, Tryd.ntmps29
    go_wp2
    go_quiet (fail)
    go_wp2
    go_loop [3, 19] (fun t i => i = .int .i64 0 ∧ t = .int .i64 (numTo l 1 0)) (fun _ i => 0)
    case atStart => exact ⟨rfl, by rw [EFst.out]⟩
    case round =>
      obtain ⟨rfl, rfl⟩ := hrel
      go_wp2
      go_ret
      exact ⟨ret_int ENmb.out.symm, _, rfl⟩
/-- The masks, as the program lays them. -/
def Masks (w : World) : Prop := w.cell? ⟨0, 0, none⟩ = some (.int .u8 127) ∧ w.cell? ⟨0, 1, none⟩ = some (.int .u8 31) ∧ w.cell? ⟨0, 2, none⟩ = some (.int .u8 15) ∧ w.cell? ⟨0, 3, none⟩ = some (.int .u8 7)
/-- utf8s.number, of one to four bytes. -/
theorem number_any {l : List UInt8} {B : Nat} {A : Option Addr} (n c : Nat) {w : World} (hn : n = l.length) (h1 : 0 < n) (h4 : n ≤ 4) (hnc : n ≤ c) (hA : Byt w B A l) (hm : c ≤ maxLen) (hM : Masks w) :
    Calls Tryd.prog 29 #[.slice A n c] w fun e w' => e = .returned (.int .i64 (nmb l)) ∧ ∃ n, w' = w.drewN n := by
  obtain ⟨m0, m1, m2, m3⟩ := hM
  obtain ⟨b, off, rfl, _, hc⟩ := hA.at_ (k := 0) (by omega)
  match n, h1, h4 with
  | 1, _, _ => exact number_1 l hn.symm b off c hc hnc hm m0
  | 2, _, _ => exact number_2 l hn.symm b off c hc hnc hm m1
  | 3, _, _ => exact number_3 l hn.symm b off c hc hnc hm m2
  | 4, _, _ => exact number_4 l hn.symm b off c hc hnc hm m3
end Go.Proofs.YtllnnogdpagioaaDoor
