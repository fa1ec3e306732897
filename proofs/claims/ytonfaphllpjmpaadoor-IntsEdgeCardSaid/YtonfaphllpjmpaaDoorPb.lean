/- What landed: a digit, whether it is one of a base. -/
import Derived.Test.YtonfaphllpjmpaaDoorPa
import Derived.Test.YtonfaphllpjmpaaDoorInX
namespace Go.Proofs.YtonfaphllpjmpaaDoor
open Go.RowKit

/-- An integer's text in parts. -/
abbrev wrv (m : Bool) (b : Int) (s : ByteArray) : Value := .agg #[.bool m, .int .i64 b, .string s]
abbrev wrt (m : Bool) (b : Int) (s : ByteArray) : Obj := .cells #[.bool m, .int .i64 b, .string s] 68
theorem pdigit_is {c y : Int} (w : World) (hy : y = gJ c) (h0 : 0 ≤ c) (h1 : c ≤ 255) : Calls Tryd.prog 73 #[.int .u8 c] w fun e w' => e = .returned (.int .i64 y) ∧ w = w' := by
  have HY := Lib.hid hy
  clear hy
  by_cases a48 : 48 ≤ c ∧ c ≤ 57
  · obtain ⟨a2, a3⟩ := a48
    have G := Lib.hid (show gJ c = c - 48 by rw [gJ, if_pos (by omega)]; try omega)
    have hw := sub8 (c := c) (k := 48) a2 (by omega) h1
    go_enter Tryd.func73, Tryd.ntmps73
    go_wp2_with fail
    go_ret
    exact ⟨ret_int (by rw [HY.out, G.out]; try omega), rfl⟩
  by_cases a97 : 97 ≤ c ∧ c ≤ 102
  · obtain ⟨a2, a3⟩ := a97
    have G := Lib.hid (show gJ c = c - 97 + 10 by rw [gJ, if_neg (by omega), if_pos (by omega)]; try omega)
    have n1 : ¬ c ≤ 57 := by omega
    have n3 : 48 ≤ c := by omega
    have hw := sub8 (c := c) (k := 97) a2 (by omega) h1
    clear a48
    go_enter Tryd.func73, Tryd.ntmps73
    go_wp2_with fail
    go_ret
    exact ⟨ret_int (by rw [HY.out, G.out]; try omega), rfl⟩
  by_cases a65 : 65 ≤ c ∧ c ≤ 70
  · obtain ⟨a2, a3⟩ := a65
    have G := Lib.hid (show gJ c = c - 65 + 10 by rw [gJ, if_neg (by omega), if_neg (by omega), if_pos (by omega)]; try omega)
    have n1 : ¬ c ≤ 57 := by omega
    have n2 : ¬ 97 ≤ c := by omega
    have n3 : 48 ≤ c := by omega
    have hw := sub8 (c := c) (k := 65) a2 (by omega) h1
    clear a48 a97
    go_enter Tryd.func73, Tryd.ntmps73
    go_wp2_with fail
    go_ret
    exact ⟨ret_int (by rw [HY.out, G.out]; try omega), rfl⟩
  have E := Lib.hid (show y = -1 by rw [HY.out, gJ, if_neg a48, if_neg a97, if_neg a65])
  by_cases b1 : 48 ≤ c
  · have b2 : ¬ c ≤ 57 := fun h => a48 ⟨b1, h⟩
    by_cases b3 : 97 ≤ c
    · have b4 : ¬ c ≤ 102 := fun h => a97 ⟨b3, h⟩
      have b5 : ¬ c ≤ 70 := by omega
      have b6 : 65 ≤ c := by omega
      clear a48 a97 a65
      go_enter Tryd.func73, Tryd.ntmps73
      go_wp2_with fail
      go_ret
      exact ⟨ret_int (by rw [E.out]), rfl⟩
    · by_cases b5 : 65 ≤ c
      · have b6 : ¬ c ≤ 70 := fun h => a65 ⟨b5, h⟩
        clear a48 a97 a65
        go_enter Tryd.func73, Tryd.ntmps73
        go_wp2_with fail
        go_ret
        exact ⟨ret_int (by rw [E.out]), rfl⟩
      · clear a48 a97 a65
        go_enter Tryd.func73, Tryd.ntmps73
        go_wp2_with fail
        go_ret
        exact ⟨ret_int (by rw [E.out]), rfl⟩
  · have b3 : ¬ 97 ≤ c := by omega
    have b5 : ¬ 65 ≤ c := by omega
    clear a48 a97 a65
    go_enter Tryd.func73, Tryd.ntmps73
    go_wp2_with fail
    go_ret
    exact ⟨ret_int (by rw [E.out]), rfl⟩
theorem gJ_le (c : Int) : -1 ≤ gJ c ∧ gJ c ≤ 15 := by unfold gJ; split <;> (try split) <;> (try split) <;> omega
theorem gJ_dg (c : UInt8) {b : Nat} (h : b ≤ 16) : decide (0 ≤ gJ (c.toNat : Int) ∧ gJ (c.toNat : Int) < b) = decide (In.dg c < b) := by
  have e := dJ_dg c h
  unfold dJ at e
  have := gJ_le (c.toNat : Int)
  congr 1
  apply propext
  constructor
  · rintro ⟨h1, h2⟩
    rw [if_neg (by omega)] at e
    by_cases hd : In.dg c < b
    · exact hd
    · rw [if_neg hd] at e; omega
  · intro hd
    rw [if_pos hd] at e
    split at e
    · omega
    · omega
theorem phas_is {c b : Int} {m x : Bool} {s : ByteArray} (w : World) (hx : x = decide (0 ≤ gJ c ∧ gJ c < b)) (h0 : 0 ≤ c) (h1 : c ≤ 255) : Calls Tryd.prog 72 #[wrv m b s, .int .u8 c] w fun e w' => e = .returned (.bool x) ∧ w' = w.alloc (wrt m b s) := by
  obtain ⟨y, hy⟩ : ∃ y, y = gJ c := ⟨_, rfl⟩
  have HD := Lib.hid (fun w => pdigit_is w hy h0 h1)
  have HX := Lib.hid (show x = decide (0 ≤ y ∧ y < b) by rw [hx, hy])
  clear hx hy h0 h1
  go_enter Tryd.func72, Tryd.ntmps72
  go_wp2_with fail
  refine (HD.out _).mono ?_
  rintro e w1 ⟨rfl, rfl⟩
  by_cases p : 0 ≤ y
  · by_cases q : y < b
    · obtain rfl : x = true := by rw [HX.out]; simp [p, q]
      go_wp2_with fail
      go_ret
      exact ⟨rfl, rfl⟩
    · obtain rfl : x = false := by rw [HX.out]; simp [q]
      go_wp2_with fail
      go_ret
      exact ⟨ret_bool (by simp [q]), rfl⟩
  · obtain rfl : x = false := by rw [HX.out]; simp [p]
    go_wp2_with fail
    go_ret
    exact ⟨rfl, rfl⟩
end Go.Proofs.YtonfaphllpjmpaaDoor
