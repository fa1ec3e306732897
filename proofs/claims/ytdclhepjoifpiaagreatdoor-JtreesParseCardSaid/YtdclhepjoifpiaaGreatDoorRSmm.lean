/- The document's small functions of strings. -/
import Derived.Test.YtdclhepjoifpiaaGreatDoorAp
import Derived.LoopTactic
namespace Go.Proofs.YtdclhepjoifpiaaGreatDoor
open Go.RowKit

/-- A short escape's byte; -1: none. -/
def srI (c : Int) : Int := if c = 34 then 34 else if c = 92 then 92 else if c = 47 then 47 else if c = 98 then 8 else if c = 102 then 12 else if c = 110 then 10 else if c = 114 then 13 else if c = 116 then 9 else -1
theorem srI_short (c : UInt8) : srI (c.toNat : Int) = match Qu.short c with | some b => (b.toNat : Int) | none => -1 := by
  have := Qu.byte_all (p := fun c => srI (c.toNat : Int) == match Qu.short c with | some b => (b.toNat : Int) | none => -1) (by decide +kernel) c
  simpa using this
def ltr (j : Nat) : Int := ([34, 92, 47, 98, 102, 110, 114, 116] : List Int).getD j 0
set_option maxHeartbeats 2000000 in
theorem rshort_any (c : Int) (w : World) : Calls Tryz.prog 94 #[.int .u8 c] w fun e w' => e = .returned (.int .i64 (srI c)) ∧ w = w' := by
  go_enter Tryz.func94, Tryz.ntmps94
  go_wp2_with fail
  go_loop [5] (fun i => ∃ k : Nat, k ≤ 8 ∧ i = .int .i64 k ∧ ∀ j, j < k → ltr j ≠ c) (fun i => 8 - (intOf i).toNat)
  case atStart => exact ⟨0, Nat.zero_le _, rfl, fun j hj => by omega⟩
  case round =>
    obtain ⟨k, hk, rfl, hno⟩ := hrel
    have HN := Lib.hid hno
    clear hno
    rcases (show k = 0 ∨ k = 1 ∨ k = 2 ∨ k = 3 ∨ k = 4 ∨ k = 5 ∨ k = 6 ∨ k = 7 ∨ k = 8 by omega) with rfl | rfl | rfl | rfl | rfl | rfl | rfl | rfl | rfl
    · have hx : (((⟨#[34, 92, 47, 98, 102, 110, 114, 116]⟩ : ByteArray)[0]'(by decide)).toNat : Int) = 34 := by decide
      have hy : (((⟨#[34, 92, 47, 8, 12, 10, 13, 9]⟩ : ByteArray)[0]'(by decide)).toNat : Int) = 34 := by decide
      by_cases hc : c = 34
      · subst hc
        go_wp2_with fail
        go_ret
        exact ⟨rfl, rfl⟩
      · have hc' : ((34 : Int) == c) = false := by simp; omega
        go_wp2_with fail
        go_round
        case rel => exact ⟨1, by omega, by go_num, fun j hj => by
          rcases Nat.lt_or_ge j 0 with h1 | h1
          · exact HN.out j h1
          · obtain rfl : j = 0 := by omega
            exact fun e => hc e.symm⟩
        case measure => simp [intOf]
    · have hx : (((⟨#[34, 92, 47, 98, 102, 110, 114, 116]⟩ : ByteArray)[1]'(by decide)).toNat : Int) = 92 := by decide
      have hy : (((⟨#[34, 92, 47, 8, 12, 10, 13, 9]⟩ : ByteArray)[1]'(by decide)).toNat : Int) = 92 := by decide
      by_cases hc : c = 92
      · subst hc
        go_wp2_with fail
        go_ret
        exact ⟨rfl, rfl⟩
      · have hc' : ((92 : Int) == c) = false := by simp; omega
        go_wp2_with fail
        go_round
        case rel => exact ⟨2, by omega, by go_num, fun j hj => by
          rcases Nat.lt_or_ge j 1 with h1 | h1
          · exact HN.out j h1
          · obtain rfl : j = 1 := by omega
            exact fun e => hc e.symm⟩
        case measure => simp [intOf]
    · have hx : (((⟨#[34, 92, 47, 98, 102, 110, 114, 116]⟩ : ByteArray)[2]'(by decide)).toNat : Int) = 47 := by decide
      have hy : (((⟨#[34, 92, 47, 8, 12, 10, 13, 9]⟩ : ByteArray)[2]'(by decide)).toNat : Int) = 47 := by decide
      by_cases hc : c = 47
      · subst hc
        go_wp2_with fail
        go_ret
        exact ⟨rfl, rfl⟩
      · have hc' : ((47 : Int) == c) = false := by simp; omega
        go_wp2_with fail
        go_round
        case rel => exact ⟨3, by omega, by go_num, fun j hj => by
          rcases Nat.lt_or_ge j 2 with h1 | h1
          · exact HN.out j h1
          · obtain rfl : j = 2 := by omega
            exact fun e => hc e.symm⟩
        case measure => simp [intOf]
    · have hx : (((⟨#[34, 92, 47, 98, 102, 110, 114, 116]⟩ : ByteArray)[3]'(by decide)).toNat : Int) = 98 := by decide
      have hy : (((⟨#[34, 92, 47, 8, 12, 10, 13, 9]⟩ : ByteArray)[3]'(by decide)).toNat : Int) = 8 := by decide
      by_cases hc : c = 98
      · subst hc
        go_wp2_with fail
        go_ret
        exact ⟨rfl, rfl⟩
      · have hc' : ((98 : Int) == c) = false := by simp; omega
        go_wp2_with fail
        go_round
        case rel => exact ⟨4, by omega, by go_num, fun j hj => by
          rcases Nat.lt_or_ge j 3 with h1 | h1
          · exact HN.out j h1
          · obtain rfl : j = 3 := by omega
            exact fun e => hc e.symm⟩
        case measure => simp [intOf]
    · have hx : (((⟨#[34, 92, 47, 98, 102, 110, 114, 116]⟩ : ByteArray)[4]'(by decide)).toNat : Int) = 102 := by decide
      have hy : (((⟨#[34, 92, 47, 8, 12, 10, 13, 9]⟩ : ByteArray)[4]'(by decide)).toNat : Int) = 12 := by decide
      by_cases hc : c = 102
      · subst hc
        go_wp2_with fail
        go_ret
        exact ⟨rfl, rfl⟩
      · have hc' : ((102 : Int) == c) = false := by simp; omega
        go_wp2_with fail
        go_round
        case rel => exact ⟨5, by omega, by go_num, fun j hj => by
          rcases Nat.lt_or_ge j 4 with h1 | h1
          · exact HN.out j h1
          · obtain rfl : j = 4 := by omega
            exact fun e => hc e.symm⟩
        case measure => simp [intOf]
    · have hx : (((⟨#[34, 92, 47, 98, 102, 110, 114, 116]⟩ : ByteArray)[5]'(by decide)).toNat : Int) = 110 := by decide
      have hy : (((⟨#[34, 92, 47, 8, 12, 10, 13, 9]⟩ : ByteArray)[5]'(by decide)).toNat : Int) = 10 := by decide
      by_cases hc : c = 110
      · subst hc
        go_wp2_with fail
        go_ret
        exact ⟨rfl, rfl⟩
      · have hc' : ((110 : Int) == c) = false := by simp; omega
        go_wp2_with fail
        go_round
        case rel => exact ⟨6, by omega, by go_num, fun j hj => by
          rcases Nat.lt_or_ge j 5 with h1 | h1
          · exact HN.out j h1
          · obtain rfl : j = 5 := by omega
            exact fun e => hc e.symm⟩
        case measure => simp [intOf]
    · have hx : (((⟨#[34, 92, 47, 98, 102, 110, 114, 116]⟩ : ByteArray)[6]'(by decide)).toNat : Int) = 114 := by decide
      have hy : (((⟨#[34, 92, 47, 8, 12, 10, 13, 9]⟩ : ByteArray)[6]'(by decide)).toNat : Int) = 13 := by decide
      by_cases hc : c = 114
      · subst hc
        go_wp2_with fail
        go_ret
        exact ⟨rfl, rfl⟩
      · have hc' : ((114 : Int) == c) = false := by simp; omega
        go_wp2_with fail
        go_round
        case rel => exact ⟨7, by omega, by go_num, fun j hj => by
          rcases Nat.lt_or_ge j 6 with h1 | h1
          · exact HN.out j h1
          · obtain rfl : j = 6 := by omega
            exact fun e => hc e.symm⟩
        case measure => simp [intOf]
    · have hx : (((⟨#[34, 92, 47, 98, 102, 110, 114, 116]⟩ : ByteArray)[7]'(by decide)).toNat : Int) = 116 := by decide
      have hy : (((⟨#[34, 92, 47, 8, 12, 10, 13, 9]⟩ : ByteArray)[7]'(by decide)).toNat : Int) = 9 := by decide
      by_cases hc : c = 116
      · subst hc
        go_wp2_with fail
        go_ret
        exact ⟨rfl, rfl⟩
      · have hc' : ((116 : Int) == c) = false := by simp; omega
        go_wp2_with fail
        go_round
        case rel => exact ⟨8, by omega, by go_num, fun j hj => by
          rcases Nat.lt_or_ge j 7 with h1 | h1
          · exact HN.out j h1
          · obtain rfl : j = 7 := by omega
            exact fun e => hc e.symm⟩
        case measure => simp [intOf]
    · have hn := HN.out
      have E := Lib.hid (show srI c = -1 by
        have h0 := hn 0 (by omega)
        have h1 := hn 1 (by omega)
        have h2 := hn 2 (by omega)
        have h3 := hn 3 (by omega)
        have h4 := hn 4 (by omega)
        have h5 := hn 5 (by omega)
        have h6 := hn 6 (by omega)
        have h7 := hn 7 (by omega)
        simp only [ltr, List.getD_cons_zero, List.getD_cons_succ] at h0 h1 h2 h3 h4 h5 h6 h7
        unfold srI
        rw [if_neg (by omega), if_neg (by omega), if_neg (by omega), if_neg (by omega), if_neg (by omega), if_neg (by omega), if_neg (by omega), if_neg (by omega)])
      clear hn
      go_wp2_with fail
      go_ret
      exact ⟨by rw [E.out]; rfl, rfl⟩
theorem rshort_is {c x : Int} (hx : x = srI c) (w : World) : Calls Tryz.prog 94 #[.int .u8 c] w fun e w' => e = .returned (.int .i64 x) ∧ w = w' := hx ▸ rshort_any c w
theorem rdigit_is {c x : Int} (hx : x = dgI c) (h0 : 0 ≤ c) (h1 : c ≤ 255) (w : World) : Calls Tryz.prog 95 #[.int .u8 c] w fun e w' => e = .returned (.int .i64 x) ∧ w = w' := hx ▸ rdigit_any c h0 h1 w
theorem rhigh_any (a k n : Int) (b : Bool) (w : World) : Calls Tryz.prog 78 #[.agg #[.int .i64 a, .int .i64 k, .bool b, .int .i64 n]] w fun e w' => e = .returned (.bool (!b && hiI n)) ∧ w' = w.alloc (.cells #[.int .i64 a, .int .i64 k, .bool b, .int .i64 n] 132) := by
  cases b
  · by_cases h1 : 55296 ≤ n
    · go_enter Tryz.func78, Tryz.ntmps78
      go_wp2_with fail
      go_ret
      exact ⟨ret_bool (by simp [hiI, h1]; omega), rfl⟩
    · go_enter Tryz.func78, Tryz.ntmps78
      go_wp2_with fail
      go_ret
      exact ⟨ret_bool (by simp [hiI]; omega), rfl⟩
  · go_enter Tryz.func78, Tryz.ntmps78
    go_wp2_with fail
    go_ret
    exact ⟨rfl, rfl⟩
theorem rlow_any (a k n : Int) (b : Bool) (w : World) : Calls Tryz.prog 79 #[.agg #[.int .i64 a, .int .i64 k, .bool b, .int .i64 n]] w fun e w' => e = .returned (.bool (!b && loI n)) ∧ w' = w.alloc (.cells #[.int .i64 a, .int .i64 k, .bool b, .int .i64 n] 132) := by
  cases b
  · by_cases h1 : 56320 ≤ n
    · go_enter Tryz.func79, Tryz.ntmps79
      go_wp2_with fail
      go_ret
      exact ⟨ret_bool (by simp [loI, h1]; omega), rfl⟩
    · go_enter Tryz.func79, Tryz.ntmps79
      go_wp2_with fail
      go_ret
      exact ⟨ret_bool (by simp [loI]; omega), rfl⟩
  · go_enter Tryz.func79, Tryz.ntmps79
    go_wp2_with fail
    go_ret
    exact ⟨rfl, rfl⟩
end Go.Proofs.YtdclhepjoifpiaaGreatDoor
