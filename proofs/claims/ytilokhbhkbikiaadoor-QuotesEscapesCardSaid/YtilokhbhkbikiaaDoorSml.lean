/- The small functions of strings: digits, plain bytes, halves of pairs. -/
import Derived.Test.YtilokhbhkbikiaaDoorQuE
import Derived.Test.YtilokhbhkbikiaaDoorBase
import Derived.BigQuiet
import Derived.Deep.QuietTactic
namespace Go.Proofs.YtilokhbhkbikiaaDoor
open Go.RowKit

theorem same_symm {P : Program} {f : FuncId} {args : Array Value} {w : World} {v : Value} (h : Calls P f args w fun e w' => e = .returned v ∧ w = w') : Calls P f args w fun e w' => e = .returned v ∧ w' = w :=
  h.mono fun _ _ ⟨a, b⟩ => ⟨a, b.symm⟩
/-- A digit's value; -1: none. -/
def dgI (c : Int) : Int := if 48 ≤ c ∧ c ≤ 57 then c - 48 else if 97 ≤ c ∧ c ≤ 102 then c - 87 else if 65 ≤ c ∧ c ≤ 70 then c - 55 else -1
theorem dgI_dig (c : UInt8) : dgI (c.toNat : Int) = match Qu.dig c with | some d => (d : Int) | none => -1 := by
  unfold dgI Qu.dig
  by_cases a : 48 ≤ c.toNat ∧ c.toNat ≤ 57
  · rw [if_pos (by omega), if_pos a]; simp only; omega
  rw [if_neg (by omega), if_neg a]
  by_cases a : 97 ≤ c.toNat ∧ c.toNat ≤ 102
  · rw [if_pos (by omega), if_pos a]; simp only; omega
  rw [if_neg (by omega), if_neg a]
  by_cases a : 65 ≤ c.toNat ∧ c.toNat ≤ 70
  · rw [if_pos (by omega), if_pos a]; simp only; omega
  rw [if_neg (by omega), if_neg a]
theorem dgI_bd (c : Int) : -1 ≤ dgI c ∧ dgI c ≤ 15 := by unfold dgI; repeat' split
                                                         all_goals omega
theorem sub8 {c k : Int} (h : k ≤ c) (h0 : 0 ≤ k) (h1 : c ≤ 255) : IntKind.u8.wrap (c - k) = c - k := by rw [IntKind.wrap_u8']; omega
theorem digit_any (c : Int) (h0 : 0 ≤ c) (h1 : c ≤ 255) (w : World) : Calls Tryd.prog 37 #[.int .u8 c] w fun e w' => e = .returned (.int .i64 (dgI c)) ∧ w = w' := by
  by_cases a1 : 48 ≤ c
  · by_cases a2 : c ≤ 57
    · have E := Lib.hid (show dgI c = c - 48 by rw [dgI, if_pos (by omega)])
      have hw := sub8 (c := c) (k := 48) (by omega) (by omega) h1
      have hw2 := h1
      go_enter Tryd.func37, Tryd.ntmps37
      go_wp2_with fail
      go_ret
      exact ⟨ret_int (by rw [E.out]; try omega), rfl⟩
    · by_cases b1 : 97 ≤ c
      · by_cases b2 : c ≤ 102
        · have E := Lib.hid (show dgI c = c - 87 by rw [dgI, if_neg (by omega), if_pos (by omega)])
          have hw := sub8 (c := c) (k := 97) (by omega) (by omega) h1
          have hw2 := h1
          go_enter Tryd.func37, Tryd.ntmps37
          go_wp2_with fail
          go_ret
          exact ⟨ret_int (by rw [E.out]; try omega), rfl⟩
        · have E := Lib.hid (show dgI c = -1 by rw [dgI, if_neg (by omega), if_neg (by omega), if_neg (by omega)])
          go_enter Tryd.func37, Tryd.ntmps37
          go_wp2_with fail
          go_ret
          exact ⟨ret_int (by rw [E.out]; try omega), rfl⟩
      · by_cases d1 : 65 ≤ c
        · by_cases d2 : c ≤ 70
          · have E := Lib.hid (show dgI c = c - 55 by rw [dgI, if_neg (by omega), if_neg (by omega), if_pos (by omega)])
            have hw := sub8 (c := c) (k := 65) (by omega) (by omega) h1
            have hw2 := h1
            go_enter Tryd.func37, Tryd.ntmps37
            go_wp2_with fail
            go_ret
            exact ⟨ret_int (by rw [E.out]; try omega), rfl⟩
          · have E := Lib.hid (show dgI c = -1 by rw [dgI, if_neg (by omega), if_neg (by omega), if_neg (by omega)])
            go_enter Tryd.func37, Tryd.ntmps37
            go_wp2_with fail
            go_ret
            exact ⟨ret_int (by rw [E.out]; try omega), rfl⟩
        · have E := Lib.hid (show dgI c = -1 by rw [dgI, if_neg (by omega), if_neg (by omega), if_neg (by omega)])
          go_enter Tryd.func37, Tryd.ntmps37
          go_wp2_with fail
          go_ret
          exact ⟨ret_int (by rw [E.out]; try omega), rfl⟩
  · have E := Lib.hid (show dgI c = -1 by rw [dgI, if_neg (by omega), if_neg (by omega), if_neg (by omega)])
    go_enter Tryd.func37, Tryd.ntmps37
    go_wp2_with fail
    go_ret
    exact ⟨ret_int (by rw [E.out]; try omega), rfl⟩
theorem rdigit_any (c : Int) (h0 : 0 ≤ c) (h1 : c ≤ 255) (w : World) : Calls Tryd.prog 30 #[.int .u8 c] w fun e w' => e = .returned (.int .i64 (dgI c)) ∧ w = w' := by
  by_cases a1 : 48 ≤ c
  · by_cases a2 : c ≤ 57
    · have E := Lib.hid (show dgI c = c - 48 by rw [dgI, if_pos (by omega)])
      have hw := sub8 (c := c) (k := 48) (by omega) (by omega) h1
      have hw2 := h1
      go_enter Tryd.func30, Tryd.ntmps30
      go_wp2_with fail
      go_ret
      exact ⟨ret_int (by rw [E.out]; try omega), rfl⟩
    · by_cases b1 : 97 ≤ c
      · by_cases b2 : c ≤ 102
        · have E := Lib.hid (show dgI c = c - 87 by rw [dgI, if_neg (by omega), if_pos (by omega)])
          have hw := sub8 (c := c) (k := 97) (by omega) (by omega) h1
          have hw2 := h1
          go_enter Tryd.func30, Tryd.ntmps30
          go_wp2_with fail
          go_ret
          exact ⟨ret_int (by rw [E.out]; try omega), rfl⟩
        · have E := Lib.hid (show dgI c = -1 by rw [dgI, if_neg (by omega), if_neg (by omega), if_neg (by omega)])
          go_enter Tryd.func30, Tryd.ntmps30
          go_wp2_with fail
          go_ret
          exact ⟨ret_int (by rw [E.out]; try omega), rfl⟩
      · by_cases d1 : 65 ≤ c
        · by_cases d2 : c ≤ 70
          · have E := Lib.hid (show dgI c = c - 55 by rw [dgI, if_neg (by omega), if_neg (by omega), if_pos (by omega)])
            have hw := sub8 (c := c) (k := 65) (by omega) (by omega) h1
            have hw2 := h1
            go_enter Tryd.func30, Tryd.ntmps30
            go_wp2_with fail
            go_ret
            exact ⟨ret_int (by rw [E.out]; try omega), rfl⟩
          · have E := Lib.hid (show dgI c = -1 by rw [dgI, if_neg (by omega), if_neg (by omega), if_neg (by omega)])
            go_enter Tryd.func30, Tryd.ntmps30
            go_wp2_with fail
            go_ret
            exact ⟨ret_int (by rw [E.out]; try omega), rfl⟩
        · have E := Lib.hid (show dgI c = -1 by rw [dgI, if_neg (by omega), if_neg (by omega), if_neg (by omega)])
          go_enter Tryd.func30, Tryd.ntmps30
          go_wp2_with fail
          go_ret
          exact ⟨ret_int (by rw [E.out]; try omega), rfl⟩
  · have E := Lib.hid (show dgI c = -1 by rw [dgI, if_neg (by omega), if_neg (by omega), if_neg (by omega)])
    go_enter Tryd.func30, Tryd.ntmps30
    go_wp2_with fail
    go_ret
    exact ⟨ret_int (by rw [E.out]; try omega), rfl⟩
/-- May a byte stand for itself? -/
def plnI (c : Int) : Bool := decide (32 ≤ c ∧ c ≠ 34 ∧ c ≠ 92)
theorem plain_any (c : Int) (w : World) : Calls Tryd.prog 31 #[.int .u8 c] w fun e w' => e = .returned (.bool (plnI c)) ∧ w = w' := by
  by_cases a : 32 ≤ c
  · by_cases b : c = 34
    · subst b
      go_enter Tryd.func31, Tryd.ntmps31
      go_wp2_with fail
      go_ret
      exact ⟨ret_bool (by simp [plnI]), rfl⟩
    · by_cases d : c = 92
      · subst d
        go_enter Tryd.func31, Tryd.ntmps31
        go_wp2_with fail
        go_ret
        exact ⟨ret_bool (by simp [plnI]), rfl⟩
      · have g1 : (c != 34) = true := by simp [b]
        have g2 : (c != 92) = true := by simp [d]
        go_enter Tryd.func31, Tryd.ntmps31
        go_wp2_with fail
        go_ret
        exact ⟨ret_bool (by simp [plnI, a, b, d]), rfl⟩
  · go_enter Tryd.func31, Tryd.ntmps31
    go_wp2_with fail
    go_ret
    exact ⟨ret_bool (by simp [plnI]; omega), rfl⟩
/-- Is a number a high one, a low one? -/
def hiI (n : Int) : Bool := decide (55296 ≤ n ∧ n < 56320)
def loI (n : Int) : Bool := decide (56320 ≤ n ∧ n < 57344)
theorem high_any (n : Int) (w : World) : Calls Tryd.prog 34 #[.int .i64 n] w fun e w' => e = .returned (.bool (hiI n)) ∧ w = w' := by
  by_cases a : 55296 ≤ n
  · go_enter Tryd.func34, Tryd.ntmps34
    go_wp2_with fail
    go_ret
    exact ⟨ret_bool (by simp [hiI, a]), rfl⟩
  · go_enter Tryd.func34, Tryd.ntmps34
    go_wp2_with fail
    go_ret
    exact ⟨ret_bool (by simp [hiI]; omega), rfl⟩
theorem low_any (n : Int) (w : World) : Calls Tryd.prog 36 #[.int .i64 n] w fun e w' => e = .returned (.bool (loI n)) ∧ w = w' := by
  by_cases a : 56320 ≤ n
  · go_enter Tryd.func36, Tryd.ntmps36
    go_wp2_with fail
    go_ret
    exact ⟨ret_bool (by simp [loI, a]), rfl⟩
  · go_enter Tryd.func36, Tryd.ntmps36
    go_wp2_with fail
    go_ret
    exact ⟨ret_bool (by simp [loI]; omega), rfl⟩
theorem hiI_high (n : Nat) : hiI n = Qu.high n := by
  unfold hiI Qu.high; rw [decide_eq_decide]; omega
theorem loI_low (n : Nat) : loI n = Qu.low n := by
  unfold loI Qu.low; rw [decide_eq_decide]; omega
end Go.Proofs.YtilokhbhkbikiaaDoor
