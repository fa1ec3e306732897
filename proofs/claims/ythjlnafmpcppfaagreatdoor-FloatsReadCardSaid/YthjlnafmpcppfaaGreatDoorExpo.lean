/- The program's own written exponent, walked. -/
import Derived.Test.YthjlnafmpcppfaaGreatDoorSplit
namespace Go.Proofs.YthjlnafmpcppfaaGreatDoor
open Go.RowKit

/-- The written exponent of numerals, and a minus ahead of them. -/
def exR (P : List UInt8) (d : Bool) : Int × Bool := match powA P P.length 0 0 with
  | none => (0, false)
  | some n => (if d = true then -n else n, true)
theorem powA_mid (l : List UInt8) (i e : Nat) (he : e ≤ l.length) : ∀ (k : Nat) (n : Int), i + k ≤ e → powA ((l.take e).drop i) (e - i) k n = powA l e (i + k) n := by
  intro k n hk
  by_cases h : i + k < e
  · have hb : bt ((l.take e).drop i) k = bt l (i + k) := by rw [bt_drop, bt_take l h]
    by_cases g : 10 * n + (bt l (i + k) - 48) > 1000000000
    · rw [powA_big h g, powA_big (by omega) (by rw [hb]; exact g)]
    · rw [powA_on h g, powA_on (by omega) (by rw [hb]; exact g), hb]
      exact powA_mid l i e he (k + 1) _ (by omega)
  · rw [powA_end h, powA_end (by omega)]
termination_by k => e - (i + k)
theorem exR_is {l : List UInt8} : exR ((l.take (q5 l)).drop (q4 l)) (decide (q4 l < q5 l ∧ bt l (q4 l - 1) = 45)) = powR l (q4 l) (q5 l) := by
  obtain ⟨_, _, _, _, o5, o6, _, _⟩ := q_order (l := l)
  have hl : ((l.take (q5 l)).drop (q4 l)).length = q5 l - q4 l := by simp; omega
  unfold exR powR
  rw [hl, powA_mid l (q4 l) (q5 l) o6 0 0 (by omega), Nat.add_zero]
  cases powA l (q5 l) (q4 l) 0 with
  | none => rfl
  | some n => simp only [decide_eq_true_eq]
abbrev wv (a : Bool) (b c : ByteArray) (d : Bool) (f : ByteArray) : Value := .agg #[.bool a, .string b, .string c, .bool d, .string f]
theorem ret_ib2 {a b : Int} {p q : Bool} (h : (a, p) = (b, q)) : Ending.returned (.tuple #[.int .i64 a, .bool p]) = .returned (.tuple #[.int .i64 b, .bool q]) := by cases h; rfl
set_option maxHeartbeats 1000000 in
theorem expo_any {P : List UInt8} {a d : Bool} {b c f : ByteArray} (w : World) (hf : f = txt P) (hP : ∀ k, k < P.length → nmr (bt P k) = true) (hm : P.length ≤ 1000000) :
    Calls Tryz.prog 49 #[wv a b c d f] w fun e w' => e = .returned (.tuple #[.int .i64 (exR P d).1, .bool (exR P d).2]) ∧ w' = w.alloc (wrt a b c d f) := by
  have HZ := Lib.hid (show f.size = P.length by rw [hf, txt_size])
  have HS := Lib.hid hf
  have HN := Lib.hid hP
  have hsz : f.size ≤ 1000000 := by have := HZ.out; omega
  clear hf hP hm
  go_enter Tryz.func49, Tryz.ntmps49
  go_wp2_with fail
  go_loop [2, 8] (fun m j => ∃ (n : Int) (k : Nat), k ≤ f.size ∧ 0 ≤ n ∧ n ≤ 1000000000 ∧ m = .int .i64 n ∧ j = .int .i64 k ∧ powA P P.length 0 0 = powA P P.length k n) (fun _ j => f.size - (intOf j).toNat)
  case atStart => exact ⟨0, 0, Nat.zero_le _, by omega, by omega, rfl, rfl, rfl⟩
  case round =>
    obtain ⟨n, k, hk, hn1, hn2, rfl, rfl, hr⟩ := hrel
    have HR := Lib.hid hr
    clear hr
    by_cases hlt : k < f.size
    · have hx := txt_at HS.out (k := k)
      have hnm := HN.out k (by have := HZ.out; omega)
      have h48 : 48 ≤ bt P k ∧ bt P k ≤ 57 := by simpa [nmr] using hnm
      clear hnm
      by_cases hbig : 10 * n + (bt P k - 48) > 1000000000
      · have E := Lib.hid (show exR P d = (0, false) by unfold exR; rw [HR.out, powA_big (by have := HZ.out; omega) hbig])
        go_wp2_with fail
        refine bodyPost_ret (v := .tuple #[.int .i64 0, .bool false]) (by simp [results, Tryz.results49, go_sem]) rfl ?_
        exact ⟨ret_ib2 (by rw [E.out]), rfl⟩
      · have E := Lib.hid (powA_on (l := P) (e := P.length) (by have := HZ.out; omega) hbig)
        go_wp2_with fail
        go_round
        case rel => exact ⟨10 * n + (bt P k - 48), k + 1, by omega, by omega, by omega, by go_num, by go_num, by rw [HR.out, E.out]⟩
        case measure => simp [intOf]; omega
    · have E := Lib.hid (show exR P d = (if d = true then -n else n, true) by unfold exR; rw [HR.out, powA_end (by have := HZ.out; omega)])
      cases d
      · go_wp2_with fail
        refine bodyPost_ret (v := .tuple #[.int .i64 n, .bool true]) (by simp [results, Tryz.results49, go_sem]) rfl ?_
        exact ⟨ret_ib2 (by rw [E.out]; rfl), rfl⟩
      · go_wp2_with fail
        refine bodyPost_ret (v := .tuple #[.int .i64 (-n), .bool true]) (by simp [results, Tryz.results49, go_sem]) rfl ?_
        exact ⟨ret_ib2 (by rw [E.out]; rfl), rfl⟩
end Go.Proofs.YthjlnafmpcppfaaGreatDoor
