/- FormatInt and FormatUint at bases 16, 8, 2 (what the law asks of the library), walked: the digits. -/
import Derived.Test.YtonfaphllpjmpaaDoorInX
import Derived.Test.YtonfaphllpjmpaaDoorBits
import Derived.Laws.Bits64b
namespace Go.Proofs.YtonfaphllpjmpaaDoor
open Go.RowKit

theorem pow2_any (b : Int) (hb : b = 16 ∨ b = 8 ∨ b = 2) (w : World) : Calls Tryd.prog 65 #[.int .i64 b] w fun e w' => e = .returned (.bool true) ∧ w = w' := by
  have a1 : bits .and .i64 16 15 = 0 := by decide +kernel
  have a2 : bits .and .i64 8 7 = 0 := by decide +kernel
  have a3 : bits .and .i64 2 1 = 0 := by decide +kernel
  rcases hb with rfl | rfl | rfl
  all_goals
    go_enter Tryd.func65, Tryd.ntmps65
    go_wp2_with fail
    go_ret
    exact ⟨rfl, rfl⟩
/-- The table of noughts behind a number's last one, where these bases read it. -/
structure Deb (w : World) : Prop where
  c1 : w.cell? ⟨7, 1, none⟩ = some (.int .u8 1)
  c7 : w.cell? ⟨7, 7, none⟩ = some (.int .u8 3)
  c15 : w.cell? ⟨7, 15, none⟩ = some (.int .u8 4)
/-- The bases of which this speaks, and their noughts. -/
def Rx (b k : Nat) : Prop := b = 16 ∧ k = 4 ∨ b = 8 ∧ k = 3 ∨ b = 2 ∧ k = 1
theorem tz64_any (b k : Nat) (h : Rx b k) (bI : Int) (hbI : bI = b) (w : World) (D : Deb w) : Calls Tryd.prog 75 #[.int .u64 bI] w fun e w' => e = .returned (.int .i64 k) ∧ w = w' := by
  subst hbI
  obtain ⟨c1, c7, c15⟩ := D
  have a1 : IntKind.u64.wrap (bits .and .u64 16 (IntKind.u64.wrap (-16)) * 285870213051353865) / 288230376151711744 = 15 := by decide +kernel
  have a2 : IntKind.u64.wrap (bits .and .u64 8 (IntKind.u64.wrap (-8)) * 285870213051353865) / 288230376151711744 = 7 := by decide +kernel
  have a3 : IntKind.u64.wrap (bits .and .u64 2 (IntKind.u64.wrap (-2)) * 285870213051353865) / 288230376151711744 = 1 := by decide +kernel
  rcases h with ⟨rfl, rfl⟩ | ⟨rfl, rfl⟩ | ⟨rfl, rfl⟩
  all_goals
    go_enter Tryd.func75, Tryd.ntmps75
    go_wp2_with fail
    go_ret
    exact ⟨rfl, rfl⟩
theorem tz_any (b k : Nat) (h : Rx b k) (bI : Int) (hbI : bI = b) (w : World) (D : Deb w) : Calls Tryd.prog 66 #[.int .u64 bI] w fun e w' => e = .returned (.int .i64 k) ∧ w = w' := by
  have HC := Lib.hid (tz64_any b k h bI hbI w D)
  clear h hbI D
  go_enter Tryd.func66, Tryd.ntmps66
  go_wp2_with fail
  refine HC.out.mono ?_
  rintro e w1 ⟨rfl, rfl⟩
  go_wp2_with fail
  go_ret
  exact ⟨rfl, rfl⟩
end Go.Proofs.YtonfaphllpjmpaaDoor
