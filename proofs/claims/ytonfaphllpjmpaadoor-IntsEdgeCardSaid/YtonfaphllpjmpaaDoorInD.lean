/- The document's digits of a base; is a text's number above another one's. -/
import Derived.Test.YtonfaphllpjmpaaDoorInT
import Derived.Test.YtonfaphllpjmpaaDoorBase
import Derived.LoopTactic
import Derived.Outline
import Derived.BigQuiet
import Derived.Deep.QuietTactic
import Derived.Lib.Strings
namespace Go.Proofs.YtonfaphllpjmpaaDoor
open Go.RowKit

theorem sub8 {c k : Int} (h : k ≤ c) (h0 : 0 ≤ k) (h1 : c ≤ 255) : IntKind.u8.wrap (c - k) = c - k := by rw [IntKind.wrap_u8']; omega
/-- A digit's value; -1: none. -/
def gJ (c : Int) : Int := if 48 ≤ c ∧ c ≤ 57 then c - 48 else if 97 ≤ c ∧ c ≤ 102 then c - 87 else if 65 ≤ c ∧ c ≤ 70 then c - 55 else -1
/-- .. of a base. -/
def dJ (c b : Int) : Int := if b ≤ gJ c then -1 else gJ c
theorem dJ_dg (c : UInt8) {b : Nat} (h : b ≤ 16) : dJ (c.toNat : Int) b = if In.dg c < b then (In.dg c : Int) else -1 := by
  unfold dJ gJ In.dg
  by_cases a : 48 ≤ c.toNat ∧ c.toNat ≤ 57
  · rw [if_pos (show 48 ≤ (c.toNat : Int) ∧ (c.toNat : Int) ≤ 57 by omega), if_pos a]
    split <;> split <;> omega
  rw [if_neg (show ¬ (48 ≤ (c.toNat : Int) ∧ (c.toNat : Int) ≤ 57) by omega), if_neg a]
  by_cases a : 97 ≤ c.toNat ∧ c.toNat ≤ 102
  · rw [if_pos (show 97 ≤ (c.toNat : Int) ∧ (c.toNat : Int) ≤ 102 by omega), if_pos a]
    split <;> split <;> omega
  rw [if_neg (show ¬ (97 ≤ (c.toNat : Int) ∧ (c.toNat : Int) ≤ 102) by omega), if_neg a]
  by_cases a : 65 ≤ c.toNat ∧ c.toNat ≤ 70
  · rw [if_pos (show 65 ≤ (c.toNat : Int) ∧ (c.toNat : Int) ≤ 70 by omega), if_pos a]
    split <;> split <;> omega
  rw [if_neg (show ¬ (65 ≤ (c.toNat : Int) ∧ (c.toNat : Int) ≤ 70) by omega), if_neg a]
  split <;> split <;> omega
theorem idigit_is {c b y : Int} (w : World) (hy : y = dJ c b) (h0 : 0 ≤ c) (h1 : c ≤ 255) (hb : 2 ≤ b) (hb2 : b ≤ 16) : Calls Tryd.prog 24 #[.int .u8 c, .int .i64 b] w fun e w' => e = .returned (.int .i64 y) ∧ w = w' := by
  have HY := Lib.hid hy
  clear hy
  by_cases a48 : 48 ≤ c ∧ c ≤ 57
  · obtain ⟨a2, a3⟩ := a48
    have G := Lib.hid (show gJ c = c - 48 by rw [gJ, if_pos (by omega)]; try omega)
    have n1 : ¬ 97 ≤ c := by omega
    have n2 : ¬ 65 ≤ c := by omega
    have hw := sub8 (c := c) (k := 48) a2 (by omega) h1
    by_cases hq : b ≤ c - 48
    · have E := Lib.hid (show y = -1 by rw [HY.out, dJ, G.out, if_pos hq])
      go_enter Tryd.func24, Tryd.ntmps24
      go_wp2_with fail
      go_ret
      exact ⟨ret_int (by rw [E.out]; try omega), rfl⟩
    · have E := Lib.hid (show y = c - 48 by rw [HY.out, dJ, G.out, if_neg hq])
      go_enter Tryd.func24, Tryd.ntmps24
      go_wp2_with fail
      go_ret
      exact ⟨ret_int (by rw [E.out]; try omega), rfl⟩
  by_cases a97 : 97 ≤ c ∧ c ≤ 102
  · obtain ⟨a2, a3⟩ := a97
    have G := Lib.hid (show gJ c = c - 97 + 10 by rw [gJ, if_neg (by omega), if_pos (by omega)]; try omega)
    have n1 : ¬ c ≤ 57 := by omega
    have n2 : ¬ c ≤ 70 := by omega
    have n3 : 48 ≤ c := by omega
    have n4 : 65 ≤ c := by omega
    have hw := sub8 (c := c) (k := 97) a2 (by omega) h1
    clear a48
    by_cases hq : b ≤ c - 97 + 10
    · have E := Lib.hid (show y = -1 by rw [HY.out, dJ, G.out, if_pos hq])
      go_enter Tryd.func24, Tryd.ntmps24
      go_wp2_with fail
      go_ret
      exact ⟨ret_int (by rw [E.out]; try omega), rfl⟩
    · have E := Lib.hid (show y = c - 97 + 10 by rw [HY.out, dJ, G.out, if_neg hq])
      go_enter Tryd.func24, Tryd.ntmps24
      go_wp2_with fail
      go_ret
      exact ⟨ret_int (by rw [E.out]; try omega), rfl⟩
  by_cases a65 : 65 ≤ c ∧ c ≤ 70
  · obtain ⟨a2, a3⟩ := a65
    have G := Lib.hid (show gJ c = c - 65 + 10 by rw [gJ, if_neg (by omega), if_neg (by omega), if_pos (by omega)]; try omega)
    have n1 : ¬ c ≤ 57 := by omega
    have n2 : ¬ 97 ≤ c := by omega
    have n3 : 48 ≤ c := by omega
    have hw := sub8 (c := c) (k := 65) a2 (by omega) h1
    clear a48 a97
    by_cases hq : b ≤ c - 65 + 10
    · have E := Lib.hid (show y = -1 by rw [HY.out, dJ, G.out, if_pos hq])
      go_enter Tryd.func24, Tryd.ntmps24
      go_wp2_with fail
      go_ret
      exact ⟨ret_int (by rw [E.out]; try omega), rfl⟩
    · have E := Lib.hid (show y = c - 65 + 10 by rw [HY.out, dJ, G.out, if_neg hq])
      go_enter Tryd.func24, Tryd.ntmps24
      go_wp2_with fail
      go_ret
      exact ⟨ret_int (by rw [E.out]; try omega), rfl⟩
  have E := Lib.hid (show y = -1 by rw [HY.out, dJ, gJ, if_neg a48, if_neg a97, if_neg a65, if_neg (by omega)])
  have hq : ¬ b ≤ -1 := by omega
  by_cases b1 : 48 ≤ c
  · have b2 : ¬ c ≤ 57 := fun h => a48 ⟨b1, h⟩
    by_cases b3 : 97 ≤ c
    · have b4 : ¬ c ≤ 102 := fun h => a97 ⟨b3, h⟩
      have b5 : ¬ c ≤ 70 := by omega
      have b6 : 65 ≤ c := by omega
      clear a48 a97 a65
      go_enter Tryd.func24, Tryd.ntmps24
      go_wp2_with fail
      go_ret
      exact ⟨ret_int (by rw [E.out]; try omega), rfl⟩
    · by_cases b5 : 65 ≤ c
      · have b6 : ¬ c ≤ 70 := fun h => a65 ⟨b5, h⟩
        clear a48 a97 a65
        go_enter Tryd.func24, Tryd.ntmps24
        go_wp2_with fail
        go_ret
        exact ⟨ret_int (by rw [E.out]; try omega), rfl⟩
      · clear a48 a97 a65
        go_enter Tryd.func24, Tryd.ntmps24
        go_wp2_with fail
        go_ret
        exact ⟨ret_int (by rw [E.out]; try omega), rfl⟩
  · have b3 : ¬ 97 ≤ c := by omega
    have b5 : ¬ 65 ≤ c := by omega
    clear a48 a97 a65
    go_enter Tryd.func24, Tryd.ntmps24
    go_wp2_with fail
    go_ret
    exact ⟨ret_int (by rw [E.out]; try omega), rfl⟩
end Go.Proofs.YtonfaphllpjmpaaDoor
