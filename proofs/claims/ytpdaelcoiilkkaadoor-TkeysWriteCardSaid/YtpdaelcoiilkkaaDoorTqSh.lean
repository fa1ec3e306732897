/- The document's plain bytes and short escapes (TOML). -/
import Derived.Test.YtpdaelcoiilkkaaDoorTqW
import Derived.Test.YtpdaelcoiilkkaaDoorSmall
import Derived.LoopTactic
import Derived.Outline
import Derived.BigQuiet
import Derived.Deep.QuietTactic
namespace Go.Proofs.YtpdaelcoiilkkaaDoor
open Go.RowKit

def plI (c : Int) : Bool := decide (c = 9 ∨ 32 ≤ c ∧ c ≤ 126 ∨ 128 ≤ c)
theorem tplain_any (c : Int) (w : World) : Calls Tryd.prog 45 #[.int .u8 c] w fun e w' => e = .returned (.bool (plI c)) ∧ w = w' := by
  by_cases h1 : c = 9
  · subst h1
    go_enter Tryd.func45, Tryd.ntmps45
    go_wp2_with fail
    go_ret
    exact ⟨rfl, rfl⟩
  · have d1 : (c == 9) = false := by simp [h1]
    by_cases h2 : 32 ≤ c
    · by_cases h3 : c ≤ 126
      · have E := Lib.hid (show plI c = true by simp [plI]; omega)
        go_enter Tryd.func45, Tryd.ntmps45
        go_wp2_with fail
        go_ret
        exact ⟨by rw [E.out]; rfl, rfl⟩
      · by_cases h4 : 128 ≤ c
        · have E := Lib.hid (show plI c = true by simp [plI]; omega)
          go_enter Tryd.func45, Tryd.ntmps45
          go_wp2_with fail
          go_ret
          exact ⟨by rw [E.out]; rfl, rfl⟩
        · have E := Lib.hid (show plI c = false by simp [plI]; omega)
          go_enter Tryd.func45, Tryd.ntmps45
          go_wp2_with fail
          go_ret
          exact ⟨by rw [E.out]; rfl, rfl⟩
    · have E := Lib.hid (show plI c = false by simp [plI]; omega)
      have h4 : ¬ 128 ≤ c := by omega
      go_enter Tryd.func45, Tryd.ntmps45
      go_wp2_with fail
      go_ret
      exact ⟨by rw [E.out]; rfl, rfl⟩
/-- A short escape's byte; -1: none. -/
def tsI (c : Int) : Int := if c = 98 then 8 else if c = 116 then 9 else if c = 110 then 10 else if c = 102 then 12 else if c = 114 then 13 else if c = 34 then 34 else if c = 92 then 92 else -1
def tltr (j : Nat) : Int := ([98, 116, 110, 102, 114, 34, 92] : List Int).getD j 0
set_option maxHeartbeats 2000000 in
theorem tshort_any (c : Int) (w : World) : Calls Tryd.prog 44 #[.int .u8 c] w fun e w' => e = .returned (.int .i64 (tsI c)) ∧ w = w' := by
  go_enter Tryd.func44, Tryd.ntmps44
  go_wp2_with fail
  go_loop [5] (fun i => ∃ k : Nat, k ≤ 7 ∧ i = .int .i64 k ∧ ∀ j, j < k → tltr j ≠ c) (fun i => 7 - (intOf i).toNat)
  case atStart => exact ⟨0, Nat.zero_le _, rfl, fun j hj => by omega⟩
  case round =>
    obtain ⟨k, hk, rfl, hno⟩ := hrel
    have HN := Lib.hid hno
    clear hno
    rcases (show k = 0 ∨ k = 1 ∨ k = 2 ∨ k = 3 ∨ k = 4 ∨ k = 5 ∨ k = 6 ∨ k = 7 by omega) with rfl | rfl | rfl | rfl | rfl | rfl | rfl | rfl
    · have hx : (((⟨#[98, 116, 110, 102, 114, 34, 92]⟩ : ByteArray)[0]'(by decide)).toNat : Int) = 98 := by decide
      have hy : (((⟨#[8, 9, 10, 12, 13, 34, 92]⟩ : ByteArray)[0]'(by decide)).toNat : Int) = 8 := by decide
      by_cases hc : c = 98
      · subst hc
        go_wp2_with fail
        go_ret
        exact ⟨rfl, rfl⟩
      · have hc' : ((98 : Int) == c) = false := by simp; omega
        go_wp2_with fail
        go_round
        case rel => exact ⟨1, by omega, by go_num, fun j hj => by
          rcases Nat.lt_or_ge j 0 with h1 | h1
          · exact HN.out j h1
          · obtain rfl : j = 0 := by omega
            exact fun e => hc e.symm⟩
        case measure => simp [intOf]
    · have hx : (((⟨#[98, 116, 110, 102, 114, 34, 92]⟩ : ByteArray)[1]'(by decide)).toNat : Int) = 116 := by decide
      have hy : (((⟨#[8, 9, 10, 12, 13, 34, 92]⟩ : ByteArray)[1]'(by decide)).toNat : Int) = 9 := by decide
      by_cases hc : c = 116
      · subst hc
        go_wp2_with fail
        go_ret
        exact ⟨rfl, rfl⟩
      · have hc' : ((116 : Int) == c) = false := by simp; omega
        go_wp2_with fail
        go_round
        case rel => exact ⟨2, by omega, by go_num, fun j hj => by
          rcases Nat.lt_or_ge j 1 with h1 | h1
          · exact HN.out j h1
          · obtain rfl : j = 1 := by omega
            exact fun e => hc e.symm⟩
        case measure => simp [intOf]
    · have hx : (((⟨#[98, 116, 110, 102, 114, 34, 92]⟩ : ByteArray)[2]'(by decide)).toNat : Int) = 110 := by decide
      have hy : (((⟨#[8, 9, 10, 12, 13, 34, 92]⟩ : ByteArray)[2]'(by decide)).toNat : Int) = 10 := by decide
      by_cases hc : c = 110
      · subst hc
        go_wp2_with fail
        go_ret
        exact ⟨rfl, rfl⟩
      · have hc' : ((110 : Int) == c) = false := by simp; omega
        go_wp2_with fail
        go_round
        case rel => exact ⟨3, by omega, by go_num, fun j hj => by
          rcases Nat.lt_or_ge j 2 with h1 | h1
          · exact HN.out j h1
          · obtain rfl : j = 2 := by omega
            exact fun e => hc e.symm⟩
        case measure => simp [intOf]
    · have hx : (((⟨#[98, 116, 110, 102, 114, 34, 92]⟩ : ByteArray)[3]'(by decide)).toNat : Int) = 102 := by decide
      have hy : (((⟨#[8, 9, 10, 12, 13, 34, 92]⟩ : ByteArray)[3]'(by decide)).toNat : Int) = 12 := by decide
      by_cases hc : c = 102
      · subst hc
        go_wp2_with fail
        go_ret
        exact ⟨rfl, rfl⟩
      · have hc' : ((102 : Int) == c) = false := by simp; omega
        go_wp2_with fail
        go_round
        case rel => exact ⟨4, by omega, by go_num, fun j hj => by
          rcases Nat.lt_or_ge j 3 with h1 | h1
          · exact HN.out j h1
          · obtain rfl : j = 3 := by omega
            exact fun e => hc e.symm⟩
        case measure => simp [intOf]
    · have hx : (((⟨#[98, 116, 110, 102, 114, 34, 92]⟩ : ByteArray)[4]'(by decide)).toNat : Int) = 114 := by decide
      have hy : (((⟨#[8, 9, 10, 12, 13, 34, 92]⟩ : ByteArray)[4]'(by decide)).toNat : Int) = 13 := by decide
      by_cases hc : c = 114
      · subst hc
        go_wp2_with fail
        go_ret
        exact ⟨rfl, rfl⟩
      · have hc' : ((114 : Int) == c) = false := by simp; omega
        go_wp2_with fail
        go_round
        case rel => exact ⟨5, by omega, by go_num, fun j hj => by
          rcases Nat.lt_or_ge j 4 with h1 | h1
          · exact HN.out j h1
          · obtain rfl : j = 4 := by omega
            exact fun e => hc e.symm⟩
        case measure => simp [intOf]
    · have hx : (((⟨#[98, 116, 110, 102, 114, 34, 92]⟩ : ByteArray)[5]'(by decide)).toNat : Int) = 34 := by decide
      have hy : (((⟨#[8, 9, 10, 12, 13, 34, 92]⟩ : ByteArray)[5]'(by decide)).toNat : Int) = 34 := by decide
      by_cases hc : c = 34
      · subst hc
        go_wp2_with fail
        go_ret
        exact ⟨rfl, rfl⟩
      · have hc' : ((34 : Int) == c) = false := by simp; omega
        go_wp2_with fail
        go_round
        case rel => exact ⟨6, by omega, by go_num, fun j hj => by
          rcases Nat.lt_or_ge j 5 with h1 | h1
          · exact HN.out j h1
          · obtain rfl : j = 5 := by omega
            exact fun e => hc e.symm⟩
        case measure => simp [intOf]
    · have hx : (((⟨#[98, 116, 110, 102, 114, 34, 92]⟩ : ByteArray)[6]'(by decide)).toNat : Int) = 92 := by decide
      have hy : (((⟨#[8, 9, 10, 12, 13, 34, 92]⟩ : ByteArray)[6]'(by decide)).toNat : Int) = 92 := by decide
      by_cases hc : c = 92
      · subst hc
        go_wp2_with fail
        go_ret
        exact ⟨rfl, rfl⟩
      · have hc' : ((92 : Int) == c) = false := by simp; omega
        go_wp2_with fail
        go_round
        case rel => exact ⟨7, by omega, by go_num, fun j hj => by
          rcases Nat.lt_or_ge j 6 with h1 | h1
          · exact HN.out j h1
          · obtain rfl : j = 6 := by omega
            exact fun e => hc e.symm⟩
        case measure => simp [intOf]
    · have hn := HN.out
      have E := Lib.hid (show tsI c = -1 by
        have h0 := hn 0 (by omega)
        have h1 := hn 1 (by omega)
        have h2 := hn 2 (by omega)
        have h3 := hn 3 (by omega)
        have h4 := hn 4 (by omega)
        have h5 := hn 5 (by omega)
        have h6 := hn 6 (by omega)
        simp only [tltr, List.getD_cons_zero, List.getD_cons_succ] at h0 h1 h2 h3 h4 h5 h6
        unfold tsI
        rw [if_neg (by omega), if_neg (by omega), if_neg (by omega), if_neg (by omega), if_neg (by omega), if_neg (by omega), if_neg (by omega)])
      clear hn
      go_wp2_with fail
      go_ret
      exact ⟨by rw [E.out]; rfl, rfl⟩
end Go.Proofs.YtpdaelcoiilkkaaDoor
