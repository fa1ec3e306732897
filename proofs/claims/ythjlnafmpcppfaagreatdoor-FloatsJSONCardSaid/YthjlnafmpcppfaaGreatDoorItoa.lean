/- The document's answer on a number's numerals, walked: it calls itself. -/
import Derived.Test.YthjlnafmpcppfaaGreatDoorRun
import Derived.Laws.BytesArg
import Derived.Below
import Derived.Laws.NewBlocks
namespace Go.Proofs.YthjlnafmpcppfaaGreatDoor
open Go.RowKit

/-- A number's numerals. -/
def itoN (n : Nat) : List UInt8 := if n < 10 then [UInt8.ofNat (48 + n)] else itoN (n / 10) ++ [UInt8.ofNat (48 + n % 10)]
def itoL (n : Int) : List UInt8 := if n < 0 then 45 :: itoN (-n).toNat else itoN n.toNat
theorem itoN_lt {n : Nat} (h : n < 10) : itoN n = [UInt8.ofNat (48 + n)] := by rw [itoN, if_pos h]
theorem itoN_ge {n : Nat} (h : ¬ n < 10) : itoN n = itoN (n / 10) ++ itoN (n % 10) := by rw [itoN, if_neg h, itoN_lt (n := n % 10) (by omega)]

theorem itoN_len (n : Nat) : (itoN n).length ≤ n + 1 := by
  induction n using Nat.strongRecOn with
  | ind n ih =>
    by_cases h : n < 10
    · rw [itoN_lt h]; simp
    · rw [itoN, if_neg h]
      have := ih (n / 10) (by omega)
      simp; omega
theorem itoa_small (n : Nat) (hn : n < 10) (w : World) : Calls Tryz.prog 43 #[.int .i64 n] w fun e w' => e = .returned (.string (txt (itoN n))) ∧ Below w.heap.size w w' := by
  have h1 : ¬ (n : Int) < 0 := by omega
  have h2 : (n : Int) < 10 := by omega
  have e1 : IntKind.u8.wrap (48 + (n : Int)) = 48 + n := by rw [show IntKind.u8.wrap (48 + (n : Int)) = (48 + (n : Int)) % 256 by simp [IntKind.wrap, IntKind.bits, IntKind.signed]]; omega
  have hcv : (convert 92 9 (.slice (some ⟨w.heap.size, 0, none⟩) 1 1)).run Tryz.prog (w.alloc (.cells #[.int .u8 (48 + (n : Int))] 5)) = .ok (.string (txt (itoN n))) (w.alloc (.cells #[.int .u8 (48 + (n : Int))] 5)) := by
    have := run_convert_bytes_arg (P := Tryz.prog) (w.alloc (.cells #[.int .u8 (48 + (n : Int))] 5)) 92 5 Tryz.underlying92 Tryz.underlying5 w.heap.size 0 1 1 [48 + (n : Int)] rfl (fun i hi => by
      obtain rfl : i = 0 := by omega
      rw [World.cell?_alloc_at _ _ _ _ rfl]; rfl) 9 Tryz.underlying9
    rw [this, itoN_lt hn]
    have e : (48 + (n : Int)).toNat = 48 + n := by omega
    simp [strOfNums, txt, e]
  go_enter Tryz.func43, Tryz.ntmps43
  go_wp2
  go_ret
  exact ⟨rfl, (Below.refl _ _).alloc (Nat.le_refl _) _⟩
theorem itoa_nat (n : Nat) (hn : n ≤ 1000000000000000000) : ∀ (x : Int) (w : World), x = n → Calls Tryz.prog 43 #[.int .i64 x] w fun e w' => e = .returned (.string (txt (itoN n))) ∧ Below w.heap.size w w' := by
  induction n using Nat.strongRecOn with
  | ind n ih =>
    intro x w hx
    subst hx
    by_cases h : n < 10
    · exact itoa_small n h w
    · have h1 : ¬ (n : Int) < 0 := by omega
      have h2 : ¬ (n : Int) < 10 := by omega
      have h0 : (0 : Int) ≤ n := by omega
      have hb : (n : Int) ≤ 1000000000000000000 := by omega
      have E := txt_app (itoN (n / 10)) (itoN (n % 10))
      rw [← itoN_ge h] at E
      have I1 := ih (n / 10) (by omega) (by omega)
      have I2 := ih (n % 10) (by omega) (by omega)
      have s1 : (txt (itoN (n / 10))).size ≤ 1000000000000000001 := by have := itoN_len (n / 10); rw [txt_size]; omega
      have s2 : (txt (itoN (n % 10))).size ≤ 1000000000000000001 := by have := itoN_len (n % 10); rw [txt_size]; omega
      generalize txt (itoN (n / 10)) = A at *
      generalize txt (itoN (n % 10)) = B at *
      replace E := Lib.hid E
      replace I1 := Lib.hid I1
      replace I2 := Lib.hid I2
      clear ih
      go_enter Tryz.func43, Tryz.ntmps43
      go_wp2_with fail
      refine (I1.out _ _ (by omega)).mono ?_
      rintro e w1 ⟨rfl, hb1⟩
      go_wp2_with fail
      refine (I2.out _ _ (by omega)).mono ?_
      rintro e w2 ⟨rfl, hb2⟩
      go_wp2_with fail
      go_ret
      exact ⟨ret_str E.out, hb1.trans (hb2.mono hb1.size)⟩
theorem itoa_any (n : Int) (h1 : -1000000000000000000 ≤ n) (h2 : n ≤ 1000000000000000000) (w : World) : Calls Tryz.prog 43 #[.int .i64 n] w fun e w' => e = .returned (.string (txt (itoL n))) ∧ Below w.heap.size w w' := by
  by_cases h : n < 0
  · have E : txt [45] ++ txt (itoN (-n).toNat) = txt (itoL n) := by rw [txt_app, itoL, if_pos h]; rfl
    have I := itoa_nat (-n).toNat (by omega)
    have s1 : (txt (itoN (-n).toNat)).size ≤ 1000000000000000001 := by have := itoN_len (-n).toNat; rw [txt_size]; omega
    generalize txt (itoN (-n).toNat) = A at *
    replace E := Lib.hid E
    replace I := Lib.hid I
    go_enter Tryz.func43, Tryz.ntmps43
    go_wp2_with fail
    refine (I.out _ _ (by omega)).mono ?_
    rintro e w1 ⟨rfl, hb1⟩
    go_wp2_with fail
    go_ret
    exact ⟨ret_str E.out, hb1⟩
  · rw [itoL, if_neg h]
    exact itoa_nat n.toNat (by omega) n w (by omega)
end Go.Proofs.YthjlnafmpcppfaaGreatDoor
