/- Bits of bytes and of small numbers, as sums. -/
import Derived.Laws.BitsAllLaws
import Derived.Laws.BitsLemmas
namespace Go.Proofs.YtoebhnhiljlljaaDoor
open Go

theorem and8 (a : Int) (i : Nat) (hi : i < 8) (h0 : 0 ≤ a) (h1 : a ≤ 255) : bits .and .u8 a ((2 ^ i - 1 : Nat) : Int) = a % ((2 ^ i : Nat) : Int) := by
  have hp : 2 ^ i ≤ 2 ^ 8 := Nat.pow_le_pow_right (by omega) (by omega)
  obtain ⟨n, rfl⟩ := Int.eq_ofNat_of_zero_le h0
  rw [u8_and_nat n _ (by omega) (by omega), Nat.and_two_pow_sub_one_eq_mod]
  omega
theorem and127 (a : Int) (h0 : 0 ≤ a) (h1 : a ≤ 255) : bits .and .u8 a 127 = a % 128 := and8 a 7 (by omega) h0 h1
theorem and63 (a : Int) (h0 : 0 ≤ a) (h1 : a ≤ 255) : bits .and .u8 a 63 = a % 64 := and8 a 6 (by omega) h0 h1
theorem and31 (a : Int) (h0 : 0 ≤ a) (h1 : a ≤ 255) : bits .and .u8 a 31 = a % 32 := and8 a 5 (by omega) h0 h1
theorem and15 (a : Int) (h0 : 0 ≤ a) (h1 : a ≤ 255) : bits .and .u8 a 15 = a % 16 := and8 a 4 (by omega) h0 h1
theorem and7 (a : Int) (h0 : 0 ≤ a) (h1 : a ≤ 255) : bits .and .u8 a 7 = a % 8 := and8 a 3 (by omega) h0 h1
theorem or8 (i x y : Nat) (hi : i < 8) (hx : x % 2 ^ i = 0) (hx' : x < 256) (hy : y < 2 ^ i) : bits .or .u8 (x : Int) (y : Int) = ((x + y : Nat) : Int) := by
  have hp : 2 ^ i ≤ 2 ^ 8 := Nat.pow_le_pow_right (by omega) (by omega)
  rw [u8_or_nat x y hx' (by omega), nat_join i x y hx hy]
theorem or128 (y : Int) (h0 : 0 ≤ y) (h1 : y < 64) : bits .or .u8 128 y = 128 + y := by
  obtain ⟨n, rfl⟩ := Int.eq_ofNat_of_zero_le h0
  have := or8 6 128 n (by omega) (by decide) (by omega) (by omega)
  rw [Int.natCast_add] at this; exact this
theorem or192 (y : Int) (h0 : 0 ≤ y) (h1 : y < 32) : bits .or .u8 192 y = 192 + y := by
  obtain ⟨n, rfl⟩ := Int.eq_ofNat_of_zero_le h0
  have := or8 5 192 n (by omega) (by decide) (by omega) (by omega)
  rw [Int.natCast_add] at this; exact this
theorem or224 (y : Int) (h0 : 0 ≤ y) (h1 : y < 16) : bits .or .u8 224 y = 224 + y := by
  obtain ⟨n, rfl⟩ := Int.eq_ofNat_of_zero_le h0
  have := or8 4 224 n (by omega) (by decide) (by omega) (by omega)
  rw [Int.natCast_add] at this; exact this
theorem or240 (y : Int) (h0 : 0 ≤ y) (h1 : y < 8) : bits .or .u8 240 y = 240 + y := by
  obtain ⟨n, rfl⟩ := Int.eq_ofNat_of_zero_le h0
  have := or8 3 240 n (by omega) (by decide) (by omega) (by omega)
  rw [Int.natCast_add] at this; exact this
theorem or0 (y : Int) (h0 : 0 ≤ y) (h1 : y < 128) : bits .or .u8 0 y = y := by
  obtain ⟨n, rfl⟩ := Int.eq_ofNat_of_zero_le h0
  have := or8 7 0 n (by omega) (by decide) (by omega) (by omega)
  rw [Nat.zero_add] at this; exact this
theorem ofInt64 (a : Nat) (ha : a < 9223372036854775808) : (BitVec.ofInt 64 (a : Int)).toNat = a := by
  rw [BitVec.ofInt_natCast, BitVec.toNat_ofNat]; exact Nat.mod_eq_of_lt (by omega)
theorem or64 (a b : Int) (h0 : 0 ≤ a) (h1 : a < 9007199254740992) (h2 : 0 ≤ b) (h3 : b < 64) : bits .or .i64 (a * 64) b = a * 64 + b := by
  obtain ⟨x, rfl⟩ := Int.eq_ofNat_of_zero_le h0
  obtain ⟨y, rfl⟩ := Int.eq_ofNat_of_zero_le h2
  have e : ((x : Int) * 64) = ((x * 64 : Nat) : Int) := by omega
  rw [e]
  show IntKind.i64.wrap ((BitVec.ofInt 64 ((x * 64 : Nat) : Int) ||| BitVec.ofInt 64 (y : Int)).toNat : Int) = _
  rw [BitVec.toNat_or, ofInt64 _ (by omega), ofInt64 _ (by omega), nat_join 6 (x * 64) y (by omega) (by omega), IntKind.wrap_i64]
  omega
end Go.Proofs.YtoebhnhiljlljaaDoor
