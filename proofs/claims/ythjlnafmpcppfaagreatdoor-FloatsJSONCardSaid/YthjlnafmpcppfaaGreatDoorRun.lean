/- The document's answers on numerals, and on runs of them, walked. -/
import Derived.Test.YthjlnafmpcppfaaGreatDoorProg
import Derived.Test.YthjlnafmpcppfaaGreatDoorDecM
import Derived.LoopTactic
import Derived.Outline
namespace Go.Proofs.YthjlnafmpcppfaaGreatDoor
open Go.RowKit

theorem numeral_any (c : Int) (w : World) : Calls Tryz.prog 91 #[.int .u8 c] w fun e w' => e = .returned (.bool (nmr c)) ∧ w = w' := by
  by_cases h1 : 48 ≤ c
  · by_cases h2 : c ≤ 57
    · go_enter Tryz.func91, Tryz.ntmps91
      go_wp2
      go_ret
      exact ⟨ret_bool (by simp [nmr, h1, h2]), rfl⟩
    · go_enter Tryz.func91, Tryz.ntmps91
      go_wp2
      go_ret
      exact ⟨ret_bool (by simp [nmr, h2]), rfl⟩
  · go_enter Tryz.func91, Tryz.ntmps91
    go_wp2
    go_ret
    exact ⟨ret_bool (by simp [nmr]; omega), rfl⟩
theorem numeral_is {c : Int} {p : Bool} (h : nmr c = p) (w : World) : Calls Tryz.prog 91 #[.int .u8 c] w fun e w' => e = .returned (.bool p) ∧ w = w' := h ▸ numeral_any c w

theorem run_any {l : List UInt8} {s : ByteArray} (i : Nat) (w : World) (hs : s = txt l) (hi : i ≤ l.length) (hm : l.length ≤ 1000000) :
    Calls Tryz.prog 67 #[.string s, .int .i64 i] w fun e w' => e = .returned (.int .i64 (runE l i)) ∧ w = w' := by
  have HZ := Lib.hid (show s.size = l.length by rw [hs, txt_size])
  have HS := Lib.hid hs
  have hsz : s.size ≤ 1000000 := by have := HZ.out; omega
  have his : i ≤ s.size := by have := HZ.out; omega
  clear hs hi hm
  go_enter Tryz.func67, Tryz.ntmps67
  go_wp2
  go_loop [1] (fun j => ∃ k : Nat, k ≤ s.size ∧ j = .int .i64 k ∧ runE l i = runE l k) (fun j => s.size - (intOf j).toNat)
  case atStart => exact ⟨i, his, rfl, rfl⟩
  case round =>
    obtain ⟨k, hk, rfl, hr⟩ := hrel
    have HR := Lib.hid hr
    clear hr
    by_cases hlt : k < s.size
    · have hx := txt_at HS.out (k := k)
      obtain ⟨x, hbx⟩ : ∃ x, bt l k = x := ⟨_, rfl⟩
      rw [hbx] at hx
      by_cases hn : nmr x = true
      · have HE := Lib.hid (runE_on (l := l) (i := k) (by have := HZ.out; omega) (by rw [hbx]; exact hn))
        clear hbx
        go_wp2_with (go_at_call 91; refine (numeral_is hn _).mono ?_; rintro e w' ⟨rfl, rfl⟩)
        go_round
        case rel => exact ⟨k + 1, by omega, by go_num, by rw [HR.out, HE.out]⟩
        case measure => simp [intOf]; omega
      · have hn : nmr x = false := by simpa using hn
        have HE := Lib.hid (runE_end (l := l) (i := k) (by rw [hbx, hn]; simp))
        clear hbx
        go_wp2_with (go_at_call 91; refine (numeral_is hn _).mono ?_; rintro e w' ⟨rfl, rfl⟩)
        go_ret
        exact ⟨ret_int (by rw [HR.out, HE.out]), rfl⟩
    · have HE := Lib.hid (runE_end (l := l) (i := k) (by have := HZ.out; omega))
      go_wp2
      go_ret
      exact ⟨ret_int (by rw [HR.out, HE.out]), rfl⟩
end Go.Proofs.YthjlnafmpcppfaaGreatDoor
