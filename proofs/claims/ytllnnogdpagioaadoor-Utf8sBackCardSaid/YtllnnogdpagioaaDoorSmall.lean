/- The small functions of utf8s: what each answers, for every argument of its type. -/
import Derived.Test.YtllnnogdpagioaaDoorProg
import Derived.WalkKit
import Derived.WalkSpells
import Derived.Lib.Hide
namespace Go.Proofs.YtllnnogdpagioaaDoor
open Go.RowKit

theorem ret_int {k : IntKind} {a b : Int} (h : a = b) : Ending.returned (.int k a) = .returned (.int k b) := by rw [h]
theorem ret_bool {a b : Bool} (h : a = b) : Ending.returned (.bool a) = .returned (.bool b) := by rw [h]

theorem ret_ib {k : IntKind} {a b : Int} {p q : Bool} (h : a = b) (h' : p = q) : Ending.returned (.tuple #[.int k a, .bool p]) = .returned (.tuple #[.int k b, .bool q]) := by rw [h, h']
theorem ret_ii {k j : IntKind} {a b p q : Int} (h : a = b) (h' : p = q) : Ending.returned (.tuple #[.int k a, .int j p]) = .returned (.tuple #[.int k b, .int j q]) := by rw [h, h']

/-- Is it within? -/
def wth (c l g : Int) : Bool := decide (l ≤ c) && decide (c ≤ g)
theorem wth_true {c l g : Int} (h : wth c l g = true) : l ≤ c ∧ c ≤ g := by simpa [wth] using h
theorem wth_false {c l g : Int} (h : wth c l g = false) : c < l ∨ g < c := by simp [wth] at h; omega
theorem within_any (c l g : Int) (w : World) : Calls Tryd.prog 37 #[.int .u8 c, .int .u8 l, .int .u8 g] w fun e w' => e = .returned (.bool (wth c l g)) ∧ w = w' := by
  by_cases h1 : l ≤ c
  · by_cases h2 : c ≤ g
    · go_enter Tryd.func37, Tryd.ntmps37
      go_wp2
      go_ret
      exact ⟨ret_bool (by simp [wth, h1, h2]), rfl⟩
    · go_enter Tryd.func37, Tryd.ntmps37
      go_wp2
      go_ret
      exact ⟨ret_bool (by simp [wth, h2]), rfl⟩
  · go_enter Tryd.func37, Tryd.ntmps37
    go_wp2
    go_ret
    exact ⟨ret_bool (by simp [wth]; omega), rfl⟩

/-- How many bytes stand behind a first one; -1: it is none. -/
def bhd (c : Int) : Int := if wth c 0 127 then 0 else if wth c 194 223 then 1 else if wth c 224 239 then 2 else if wth c 240 244 then 3 else -1
theorem behind_any (c : Int) (w : World) : Calls Tryd.prog 36 #[.int .u8 c] w fun e w' => e = .returned (.int .i64 (bhd c)) ∧ w = w' := by
  by_cases h1 : wth c 0 127 = true
  · go_enter Tryd.func36, Tryd.ntmps36
    go_wp2_with (go_at_call 37; refine (within_any _ _ _ _).mono ?_; rintro e w' ⟨rfl, rfl⟩)
    go_ret
    exact ⟨ret_int (by simp [bhd, h1]), rfl⟩
  by_cases h2 : wth c 194 223 = true
  · go_enter Tryd.func36, Tryd.ntmps36
    go_wp2_with (go_at_call 37; refine (within_any _ _ _ _).mono ?_; rintro e w' ⟨rfl, rfl⟩)
    go_ret
    exact ⟨ret_int (by simp [bhd, h1, h2]), rfl⟩
  by_cases h3 : wth c 224 239 = true
  · go_enter Tryd.func36, Tryd.ntmps36
    go_wp2_with (go_at_call 37; refine (within_any _ _ _ _).mono ?_; rintro e w' ⟨rfl, rfl⟩)
    go_ret
    exact ⟨ret_int (by simp [bhd, h1, h2, h3]), rfl⟩
  by_cases h4 : wth c 240 244 = true
  · go_enter Tryd.func36, Tryd.ntmps36
    go_wp2_with (go_at_call 37; refine (within_any _ _ _ _).mono ?_; rintro e w' ⟨rfl, rfl⟩)
    go_ret
    exact ⟨ret_int (by simp [bhd, h1, h2, h3, h4]), rfl⟩
  · go_enter Tryd.func36, Tryd.ntmps36
    go_wp2_with (go_at_call 37; refine (within_any _ _ _ _).mono ?_; rintro e w' ⟨rfl, rfl⟩)
    go_ret
    exact ⟨ret_int (by simp [bhd, h1, h2, h3, h4]), rfl⟩

/-- The bounds of the byte behind a first one. -/
def lo1 (c : Int) : Int := if c = 224 then 160 else if c = 240 then 144 else 128
def hi1 (c : Int) : Int := if c = 237 then 159 else if c = 244 then 143 else 191
theorem second_any (c : Int) (w : World) : Calls Tryd.prog 38 #[.int .u8 c] w fun e w' => e = .returned (.tuple #[.int .u8 (lo1 c), .int .u8 (hi1 c)]) ∧ w = w' := by
  by_cases h1 : c = 224
  · subst h1
    go_enter Tryd.func38, Tryd.ntmps38
    go_wp2
    go_ret2
    exact ⟨rfl, rfl⟩
  by_cases h2 : c = 237
  · subst h2
    go_enter Tryd.func38, Tryd.ntmps38
    go_wp2
    go_ret2
    exact ⟨rfl, rfl⟩
  by_cases h3 : c = 240
  · subst h3
    go_enter Tryd.func38, Tryd.ntmps38
    go_wp2
    go_ret2
    exact ⟨rfl, rfl⟩
  by_cases h4 : c = 244
  · subst h4
    go_enter Tryd.func38, Tryd.ntmps38
    go_wp2
    go_ret2
    exact ⟨rfl, rfl⟩
  · have e1 : lo1 c = 128 := by simp [lo1, h1, h3]
    have e2 : hi1 c = 191 := by simp [hi1, h2, h4]
    rw [e1, e2]
    clear e1 e2
    go_enter Tryd.func38, Tryd.ntmps38
    go_wp2
    go_ret2
    exact ⟨rfl, rfl⟩

/-- How many bytes a rune has behind its first one. -/
def mor (r : Int) : Int := if r < 128 then 0 else if r < 2048 then 1 else if r < 65536 then 2 else 3
theorem more_any (r : Int) (w : World) : Calls Tryd.prog 33 #[.int .i64 r] w fun e w' => e = .returned (.int .i64 (mor r)) ∧ w = w' := by
  by_cases h1 : r < 128
  · go_enter Tryd.func33, Tryd.ntmps33
    go_wp2
    go_ret
    exact ⟨ret_int (by unfold mor; split <;> (try split) <;> (try split) <;> omega), rfl⟩
  by_cases h2 : r < 2048
  · go_enter Tryd.func33, Tryd.ntmps33
    go_wp2
    go_ret
    exact ⟨ret_int (by unfold mor; split <;> (try split) <;> (try split) <;> omega), rfl⟩
  by_cases h3 : r < 65536
  · go_enter Tryd.func33, Tryd.ntmps33
    go_wp2
    go_ret
    exact ⟨ret_int (by unfold mor; split <;> (try split) <;> (try split) <;> omega), rfl⟩
  · go_enter Tryd.func33, Tryd.ntmps33
    go_wp2
    go_ret
    exact ⟨ret_int (by unfold mor; split <;> (try split) <;> (try split) <;> omega), rfl⟩

/-- The number itself, or 65533 for what is no rune's number. -/
def knw (r : Int) : Int := if 0 ≤ r ∧ r ≤ 1114111 ∧ (r < 55296 ∨ 57343 < r) then r else 65533
theorem known_any (r : Int) (w : World) : Calls Tryd.prog 34 #[.int .i64 r] w fun e w' => e = .returned (.int .i64 (knw r)) ∧ w = w' := by
  by_cases h1 : r < 0
  · go_enter Tryd.func34, Tryd.ntmps34
    go_wp2
    go_ret
    exact ⟨ret_int (by rw [knw, if_neg (by omega)]), rfl⟩
  by_cases h2 : 1114111 < r
  · go_enter Tryd.func34, Tryd.ntmps34
    go_wp2
    go_ret
    exact ⟨ret_int (by rw [knw, if_neg (by omega)]), rfl⟩
  by_cases h3 : r < 55296
  · go_enter Tryd.func34, Tryd.ntmps34
    go_wp2
    go_ret
    exact ⟨ret_int (by rw [knw, if_pos (by omega)]), rfl⟩
  by_cases h4 : 57343 < r
  · go_enter Tryd.func34, Tryd.ntmps34
    go_wp2
    go_ret
    exact ⟨ret_int (by rw [knw, if_pos (by omega)]), rfl⟩
  · go_enter Tryd.func34, Tryd.ntmps34
    go_wp2
    go_ret
    exact ⟨ret_int (by rw [knw, if_neg (by omega)]), rfl⟩
end Go.Proofs.YtllnnogdpagioaaDoor
