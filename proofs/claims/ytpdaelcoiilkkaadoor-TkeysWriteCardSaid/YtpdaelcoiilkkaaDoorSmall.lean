/- The small functions of utf8s: what each answers, for every argument of its type. -/
import Derived.Test.YtpdaelcoiilkkaaDoorProg
import Derived.Test.YtpdaelcoiilkkaaDoorBase
import Derived.WalkKit
import Derived.WalkSpells
import Derived.Lib.Hide
namespace Go.Proofs.YtpdaelcoiilkkaaDoor
open Go.RowKit

/-- How many bytes a rune has behind its first one. -/
def mor (r : Int) : Int := if r < 128 then 0 else if r < 2048 then 1 else if r < 65536 then 2 else 3
theorem more_any (r : Int) (w : World) : Calls Tryd.prog 102 #[.int .i64 r] w fun e w' => e = .returned (.int .i64 (mor r)) ∧ w = w' := by
  by_cases h1 : r < 128
  · go_enter Tryd.func102, Tryd.ntmps102
    go_wp2
    go_ret
    exact ⟨ret_int (by unfold mor; split <;> (try split) <;> (try split) <;> omega), rfl⟩
  by_cases h2 : r < 2048
  · go_enter Tryd.func102, Tryd.ntmps102
    go_wp2
    go_ret
    exact ⟨ret_int (by unfold mor; split <;> (try split) <;> (try split) <;> omega), rfl⟩
  by_cases h3 : r < 65536
  · go_enter Tryd.func102, Tryd.ntmps102
    go_wp2
    go_ret
    exact ⟨ret_int (by unfold mor; split <;> (try split) <;> (try split) <;> omega), rfl⟩
  · go_enter Tryd.func102, Tryd.ntmps102
    go_wp2
    go_ret
    exact ⟨ret_int (by unfold mor; split <;> (try split) <;> (try split) <;> omega), rfl⟩

/-- The number itself, or 65533 for what is no rune's number. -/
def knw (r : Int) : Int := if 0 ≤ r ∧ r ≤ 1114111 ∧ (r < 55296 ∨ 57343 < r) then r else 65533
theorem known_any (r : Int) (w : World) : Calls Tryd.prog 103 #[.int .i64 r] w fun e w' => e = .returned (.int .i64 (knw r)) ∧ w = w' := by
  by_cases h1 : r < 0
  · go_enter Tryd.func103, Tryd.ntmps103
    go_wp2
    go_ret
    exact ⟨ret_int (by rw [knw, if_neg (by omega)]), rfl⟩
  by_cases h2 : 1114111 < r
  · go_enter Tryd.func103, Tryd.ntmps103
    go_wp2
    go_ret
    exact ⟨ret_int (by rw [knw, if_neg (by omega)]), rfl⟩
  by_cases h3 : r < 55296
  · go_enter Tryd.func103, Tryd.ntmps103
    go_wp2
    go_ret
    exact ⟨ret_int (by rw [knw, if_pos (by omega)]), rfl⟩
  by_cases h4 : 57343 < r
  · go_enter Tryd.func103, Tryd.ntmps103
    go_wp2
    go_ret
    exact ⟨ret_int (by rw [knw, if_pos (by omega)]), rfl⟩
  · go_enter Tryd.func103, Tryd.ntmps103
    go_wp2
    go_ret
    exact ⟨ret_int (by rw [knw, if_neg (by omega)]), rfl⟩
end Go.Proofs.YtpdaelcoiilkkaaDoor
