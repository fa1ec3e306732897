/- The written exponent, walked. -/
import Derived.Test.YthjlnafmpcppfaaGreatDoorRun
import Derived.Below
namespace Go.Proofs.YthjlnafmpcppfaaGreatDoor
open Go.RowKit

/-- The numerals from i to e, onto n; none: beyond bounds on the way. -/
def powA (l : List UInt8) (e i : Nat) (n : Int) : Option Int :=
  if i < e then (if 10 * n + (bt l i - 48) > 1000000000 then none else powA l e (i + 1) (10 * n + (bt l i - 48))) else some n
termination_by e - i
/-- The written exponent, and whether it is within bounds. -/
def powR (l : List UInt8) (i e : Nat) : Int × Bool := match powA l e i 0 with
  | none => (0, false)
  | some n => (if i < e ∧ bt l (i - 1) = 45 then -n else n, true)
theorem powA_end {l : List UInt8} {e i : Nat} {n : Int} (h : ¬ i < e) : powA l e i n = some n := by rw [powA, if_neg h]
theorem powA_big {l : List UInt8} {e i : Nat} {n : Int} (h : i < e) (h2 : 10 * n + (bt l i - 48) > 1000000000) : powA l e i n = none := by rw [powA, if_pos h, if_pos h2]
theorem powA_on {l : List UInt8} {e i : Nat} {n : Int} (h : i < e) (h2 : ¬ 10 * n + (bt l i - 48) > 1000000000) : powA l e i n = powA l e (i + 1) (10 * n + (bt l i - 48)) := by rw [powA, if_pos h, if_neg h2]
theorem ret_ib' {a b : Int} {p q : Bool} (h : (a, p) = (b, q)) : Ending.returned (.tuple #[.int .i64 a, .bool p]) = .returned (.tuple #[.int .i64 b, .bool q]) := by cases h; rfl

set_option maxHeartbeats 1000000 in
theorem power_any {l : List UInt8} {s : ByteArray} (a b c d : Int) (i e : Nat) (w : World) (hs : s = txt l) (hi : i ≤ e) (he : e ≤ l.length) (hm : l.length ≤ 1000000)
    (hn : ∀ k, i ≤ k → k < e → nmr (bt l k) = true) (h1 : i < e → 1 ≤ i) :
    Calls Tryz.prog 42 #[.string s, .agg #[.int .i64 a, .int .i64 b, .int .i64 c, .int .i64 d, .int .i64 i, .int .i64 e]] w fun en w' => en = .returned (.tuple #[.int .i64 (powR l i e).1, .bool (powR l i e).2]) ∧ w' = w.alloc (.cells #[.int .i64 a, .int .i64 b, .int .i64 c, .int .i64 d, .int .i64 i, .int .i64 e] 57) := by
  have HZ := Lib.hid (show s.size = l.length by rw [hs, txt_size])
  have HS := Lib.hid hs
  have HN := Lib.hid hn
  have hsz : s.size ≤ 1000000 := by have := HZ.out; omega
  have hes : e ≤ s.size := by have := HZ.out; omega
  clear hs hm hn he
  go_enter Tryz.func42, Tryz.ntmps42
  go_wp2_with fail
  go_loop [6, 7] (fun m j => ∃ (n : Int) (k : Nat), i ≤ k ∧ k ≤ e ∧ 0 ≤ n ∧ n ≤ 1000000000 ∧ m = .int .i64 n ∧ j = .int .i64 k ∧ powA l e i 0 = powA l e k n) (fun _ j => e - (intOf j).toNat)
  case atStart => exact ⟨0, i, Nat.le_refl _, hi, by omega, by omega, rfl, rfl, rfl⟩
  case round =>
    obtain ⟨n, k, hk1, hk2, hn1, hn2, rfl, rfl, hr⟩ := hrel
    have HR := Lib.hid hr
    clear hr
    by_cases hlt : k < e
    · have hx := txt_at HS.out (k := k)
      have hnm := HN.out k hk1 hlt
      have h48 : 48 ≤ bt l k ∧ bt l k ≤ 57 := by simpa [nmr] using hnm
      clear hnm
      by_cases hbig : 10 * n + (bt l k - 48) > 1000000000
      · have E := Lib.hid (show powR l i e = (0, false) by unfold powR; rw [HR.out, powA_big hlt hbig])
        go_wp2_with fail
        refine bodyPost_ret (v := .tuple #[.int .i64 0, .bool false]) (by simp [results, Tryz.results42, go_sem]) rfl ?_
        exact ⟨ret_ib' (by rw [E.out]), rfl⟩
      · have E := Lib.hid (powA_on hlt hbig)
        go_wp2_with fail
        go_round
        case rel => exact ⟨10 * n + (bt l k - 48), k + 1, by omega, by omega, by omega, by omega, by go_num, by go_num, by rw [HR.out, E.out]⟩
        case measure => simp [intOf]; omega
    · have E := Lib.hid (show powR l i e = (if i < e ∧ bt l (i - 1) = 45 then -n else n, true) by unfold powR; rw [HR.out, powA_end hlt])
      by_cases hie : i < e
      · have h1' := h1 hie
        obtain ⟨i', rfl⟩ : ∃ i', i = i' + 1 := ⟨i - 1, by omega⟩
        have hx := txt_at HS.out (k := i')
        by_cases g : bt l i' = 45
        · have E2 := Lib.hid (show powR l (i' + 1) e = (-n, true) by rw [E.out, if_pos ⟨hie, by simpa using g⟩])
          go_wp2_with fail
          refine bodyPost_ret (v := .tuple #[.int .i64 (-n), .bool true]) (by simp [results, Tryz.results42, go_sem]) rfl ?_
          exact ⟨ret_ib' (by rw [E2.out]), rfl⟩
        · have E2 := Lib.hid (show powR l (i' + 1) e = (n, true) by rw [E.out, if_neg (fun h => g (by simpa using h.2))])
          go_wp2_with fail
          refine bodyPost_ret (v := .tuple #[.int .i64 n, .bool true]) (by simp [results, Tryz.results42, go_sem]) rfl ?_
          exact ⟨ret_ib' (by rw [E2.out]), rfl⟩
      · have E2 := Lib.hid (show powR l i e = (n, true) by rw [E.out, if_neg (fun h => hie h.1)])
        go_wp2_with fail
        refine bodyPost_ret (v := .tuple #[.int .i64 n, .bool true]) (by simp [results, Tryz.results42, go_sem]) rfl ?_
        exact ⟨ret_ib' (by rw [E2.out]), rfl⟩
end Go.Proofs.YthjlnafmpcppfaaGreatDoor
