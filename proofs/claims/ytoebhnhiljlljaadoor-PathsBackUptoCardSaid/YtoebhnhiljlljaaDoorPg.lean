/- What landed of paths: how ints and kinds stand; the first answer that is not nought. -/
import Derived.Test.YtoebhnhiljlljaaDoorPf
import Derived.Lib.Bytealg
import Derived.Lib.Strings
namespace Go.Proofs.YtoebhnhiljlljaaDoor
open Go.RowKit
namespace Pa
set_option maxRecDepth 100000

/-- How two orders' answers stand as numbers. -/
def oN : Ordering → Int
  | .lt => -1
  | .eq => 0
  | .gt => 1
theorem nan_any (k : Nat) (w : World) : Calls Tryd.prog 63 #[.int .u8 k] w fun e w' => e = .returned (.bool false) ∧ w = w' := by
  go_enter Tryd.func63, Tryd.ntmps63
  go_wp2_with fail
  go_ret
  exact ⟨ret_bool (by simp), rfl⟩
theorem kinds_any (i j : Nat) (w : World) : Calls Tryd.prog 49 #[.int .u8 i, .int .u8 j] w fun e w' => e = .returned (.int .i64 (oN (ncmp i j))) ∧ w = w' := by
  have C1 := Lib.hid (nan_any i)
  have C2 := Lib.hid (nan_any j)
  rcases Nat.lt_trichotomy i j with h | h | h
  · have hE := Lib.hid (show oN (ncmp i j) = -1 by rw [ncmp, if_pos h]; rfl)
    go_enter Tryd.func49, Tryd.ntmps49
    go_wp2_with fail
    refine (C1.out _).mono ?_
    rintro e w1 ⟨rfl, rfl⟩
    go_wp2_with fail
    refine (C2.out _).mono ?_
    rintro e w2 ⟨rfl, rfl⟩
    go_wp2_with fail
    go_ret
    exact ⟨ret_int hE.out.symm, rfl⟩
  · subst h
    have hE := Lib.hid (show oN (ncmp i i) = 0 by rw [ncmp_self]; rfl)
    go_enter Tryd.func49, Tryd.ntmps49
    go_wp2_with fail
    refine (C1.out _).mono ?_
    rintro e w1 ⟨rfl, rfl⟩
    go_wp2_with fail
    refine (C2.out _).mono ?_
    rintro e w2 ⟨rfl, rfl⟩
    go_wp2_with fail
    go_ret
    exact ⟨ret_int hE.out.symm, rfl⟩
  · have hE := Lib.hid (show oN (ncmp i j) = 1 by rw [ncmp, if_neg (by omega), if_pos h]; rfl)
    have hn : ¬ (i : Int) < (j : Int) := by omega
    go_enter Tryd.func49, Tryd.ntmps49
    go_wp2_with fail
    refine (C1.out _).mono ?_
    rintro e w1 ⟨rfl, rfl⟩
    go_wp2_with fail
    refine (C2.out _).mono ?_
    rintro e w2 ⟨rfl, rfl⟩
    go_wp2_with fail
    go_ret
    exact ⟨ret_int hE.out.symm, rfl⟩
theorem nani_any (k : Int) (w : World) : Calls Tryd.prog 51 #[.int .i64 k] w fun e w' => e = .returned (.bool false) ∧ w = w' := by
  go_enter Tryd.func51, Tryd.ntmps51
  go_wp2_with fail
  go_ret
  exact ⟨ret_bool (by simp), rfl⟩
theorem ints_any (i j : Int) (w : World) : Calls Tryd.prog 35 #[.int .i64 i, .int .i64 j] w fun e w' => e = .returned (.int .i64 (oN (icmp i j))) ∧ w = w' := by
  have C1 := Lib.hid (nani_any i)
  have C2 := Lib.hid (nani_any j)
  rcases Int.lt_trichotomy i j with h | h | h
  · have hE := Lib.hid (show oN (icmp i j) = -1 by rw [icmp, if_pos h]; rfl)
    go_enter Tryd.func35, Tryd.ntmps35
    go_wp2_with fail
    refine (C1.out _).mono ?_
    rintro e w1 ⟨rfl, rfl⟩
    go_wp2_with fail
    refine (C2.out _).mono ?_
    rintro e w2 ⟨rfl, rfl⟩
    go_wp2_with fail
    go_ret
    exact ⟨ret_int hE.out.symm, rfl⟩
  · subst h
    have hE := Lib.hid (show oN (icmp i i) = 0 by rw [icmp_self]; rfl)
    go_enter Tryd.func35, Tryd.ntmps35
    go_wp2_with fail
    refine (C1.out _).mono ?_
    rintro e w1 ⟨rfl, rfl⟩
    go_wp2_with fail
    refine (C2.out _).mono ?_
    rintro e w2 ⟨rfl, rfl⟩
    go_wp2_with fail
    go_ret
    exact ⟨ret_int hE.out.symm, rfl⟩
  · have hE := Lib.hid (show oN (icmp i j) = 1 by rw [icmp, if_neg (by omega), if_pos h]; rfl)
    have hn : ¬ i < j := by omega
    go_enter Tryd.func35, Tryd.ntmps35
    go_wp2_with fail
    refine (C1.out _).mono ?_
    rintro e w1 ⟨rfl, rfl⟩
    go_wp2_with fail
    refine (C2.out _).mono ?_
    rintro e w2 ⟨rfl, rfl⟩
    go_wp2_with fail
    go_ret
    exact ⟨ret_int hE.out.symm, rfl⟩
theorem cmpBytes : ∀ a b : Bs, Lib.compareBytes a b = oN (bcmp a b)
  | [], [] => by rw [Lib.compareBytes, bcmp_self]; rfl
  | [], b :: s => by
    rw [Lib.compareBytes, show bcmp [] (b :: s) = .lt from by rw [bcmp_lt]; rfl]; rfl
  | a :: r, [] => by
    rw [Lib.compareBytes, show bcmp (a :: r) [] = .gt from by rw [bcmp_swap, show bcmp [] (a :: r) = .lt from by rw [bcmp_lt]; rfl]; rfl]; rfl
  | a :: r, b :: s => by
    rw [Lib.compareBytes]
    by_cases h : a < b
    · rw [if_pos h, bcmp_lt.2 (bl_cons.2 (.inl h))]; rfl
    · by_cases h2 : b < a
      · rw [if_neg h, if_pos h2, bcmp_swap, bcmp_lt.2 (bl_cons.2 (.inl h2))]; rfl
      · rw [if_neg h, if_neg h2, cmpBytes r s]
        have e : a = b := by
          apply UInt8.toNat_inj.1
          rw [UInt8.lt_iff_toNat_lt] at h h2
          omega
        subst e
        have e1 : ∀ x y : Bs, bl (a :: x) (a :: y) = bl x y := fun x y => by
          cases h3 : bl x y with
          | true => exact bl_cons.2 (.inr ⟨rfl, h3⟩)
          | false =>
            cases h4 : bl (a :: x) (a :: y) with
            | false => rfl
            | true =>
              rcases bl_cons.1 h4 with h5 | ⟨_, h5⟩
              · exact absurd h5 h
              · rw [h5] at h3; cases h3
        unfold bcmp
        rw [e1, e1]
theorem tx_data {a : ByteArray} {l : Bs} (h : a = txt l) : a.data.toList = l := by rw [h]; simp [txt]
theorem oN_lt {x : Ordering} : oN x < 0 ↔ x = .lt := by cases x <;> simp [oN]
theorem oN_ne {x : Ordering} : oN x = 0 ↔ x = .eq := by cases x <;> simp [oN]

/-- The first of four answers that is not nought. -/
def or4 (a b c d : Int) : Int := if a ≠ 0 then a else if b ≠ 0 then b else if c ≠ 0 then c else d
theorem or4_oN (a b c d : Ordering) : or4 (oN a) (oN b) (oN c) (oN d) = oN (a.then (b.then (c.then d))) := by
  cases a <;> cases b <;> cases c <;> rfl
set_option maxHeartbeats 4000000 in
theorem or4_any {a b c d : Int} {g k : Nat} (w : World) (h0 : w.cell? ⟨g, 0, none⟩ = some (.int .i64 a)) (h1 : w.cell? ⟨g, 1, none⟩ = some (.int .i64 b)) (h2 : w.cell? ⟨g, 2, none⟩ = some (.int .i64 c)) (h3 : w.cell? ⟨g, 3, none⟩ = some (.int .i64 d)) :
    Calls Tryd.prog 48 #[.slice (some ⟨g, 0, none⟩) 4 k] w fun e w' => e = .returned (.int .i64 (or4 a b c d)) ∧ w = w' := by
  obtain ⟨R, hR⟩ : ∃ R, R = or4 a b c d := ⟨_, rfl⟩
  rw [← hR]
  have HR := Lib.hid hR
  clear hR
  go_enter Tryd.func48, Tryd.ntmps48
  go_wp2_with fail
  go_loopw [5, 8] (fun _ i wx => w = wx ∧ ∃ k : Nat, k ≤ 4 ∧ i = .int .i64 k ∧ Hid ((1 ≤ k → a = 0) ∧ (2 ≤ k → b = 0) ∧ (3 ≤ k → c = 0) ∧ (4 ≤ k → d = 0))) (fun _ i _ => 4 - (intOf i).toNat)
  case atStart => exact ⟨rfl, 0, by omega, rfl, Lib.hid (by omega)⟩
  case round =>
    obtain ⟨rfl, k, hk, rfl, HK⟩ := hrel
    have h9 : k = 0 ∨ k = 1 ∨ k = 2 ∨ k = 3 ∨ k = 4 := by omega
    rcases h9 with rfl | rfl | rfl | rfl | rfl
    · by_cases hy : a = 0
      · have HE := Lib.hid (show (1 ≤ 1 → a = 0) ∧ (2 ≤ 1 → b = 0) ∧ (3 ≤ 1 → c = 0) ∧ (4 ≤ 1 → d = 0) by have := HK.out; omega)
        have hy2 : (a != 0) = false := by simp [hy]
        clear HK
        go_wp2_with fail
        go_roundw
        case rel => exact ⟨by first | rfl | trivial, 1, by omega, by first | rfl | trivial, HE⟩
        case measure => simp [intOf]
      · have HE := Lib.hid (show R = a by rw [HR.out]; have := HK.out; unfold or4; simp [hy])
        have hy2 : (a != 0) = true := bne_iff_ne.2 hy
        clear hy
        go_wp2_with fail
        go_ret
        exact ⟨ret_int HE.out.symm, rfl⟩
    · by_cases hy : b = 0
      · have HE := Lib.hid (show (1 ≤ 2 → a = 0) ∧ (2 ≤ 2 → b = 0) ∧ (3 ≤ 2 → c = 0) ∧ (4 ≤ 2 → d = 0) by have := HK.out; omega)
        have hy2 : (b != 0) = false := by simp [hy]
        clear HK
        go_wp2_with fail
        go_roundw
        case rel => exact ⟨by first | rfl | trivial, 2, by omega, by first | rfl | trivial, HE⟩
        case measure => simp [intOf]
      · have HE := Lib.hid (show R = b by rw [HR.out]; have := HK.out; unfold or4; simp [hy, this.1 (by omega)])
        have hy2 : (b != 0) = true := bne_iff_ne.2 hy
        clear hy
        go_wp2_with fail
        go_ret
        exact ⟨ret_int HE.out.symm, rfl⟩
    · by_cases hy : c = 0
      · have HE := Lib.hid (show (1 ≤ 3 → a = 0) ∧ (2 ≤ 3 → b = 0) ∧ (3 ≤ 3 → c = 0) ∧ (4 ≤ 3 → d = 0) by have := HK.out; omega)
        have hy2 : (c != 0) = false := by simp [hy]
        clear HK
        go_wp2_with fail
        go_roundw
        case rel => exact ⟨by first | rfl | trivial, 3, by omega, by first | rfl | trivial, HE⟩
        case measure => simp [intOf]
      · have HE := Lib.hid (show R = c by rw [HR.out]; have := HK.out; unfold or4; simp [hy, this.1 (by omega), this.2.1 (by omega)])
        have hy2 : (c != 0) = true := bne_iff_ne.2 hy
        clear hy
        go_wp2_with fail
        go_ret
        exact ⟨ret_int HE.out.symm, rfl⟩
    · by_cases hy : d = 0
      · have HE := Lib.hid (show (1 ≤ 4 → a = 0) ∧ (2 ≤ 4 → b = 0) ∧ (3 ≤ 4 → c = 0) ∧ (4 ≤ 4 → d = 0) by have := HK.out; omega)
        have hy2 : (d != 0) = false := by simp [hy]
        clear HK
        go_wp2_with fail
        go_roundw
        case rel => exact ⟨by first | rfl | trivial, 4, by omega, by first | rfl | trivial, HE⟩
        case measure => simp [intOf]
      · have HE := Lib.hid (show R = d by rw [HR.out]; have := HK.out; unfold or4; simp [this.1 (by omega), this.2.1 (by omega), this.2.2.1 (by omega)])
        have hy2 : (d != 0) = true := bne_iff_ne.2 hy
        clear hy
        go_wp2_with fail
        go_ret
        exact ⟨ret_int HE.out.symm, rfl⟩
    · have HE := Lib.hid (show R = 0 by rw [HR.out]; have := HK.out; unfold or4; simp [this.1, this.2.1, this.2.2.1, this.2.2.2])
      go_wp2_with fail
      go_ret
      exact ⟨ret_int HE.out.symm, rfl⟩
theorem four_new (w : World) (a b c d : Value) (t : TypeId) : (w.alloc (.cells #[a, b, c, d] t)).cell? ⟨w.heap.size, 0, none⟩ = some a ∧ (w.alloc (.cells #[a, b, c, d] t)).cell? ⟨w.heap.size, 1, none⟩ = some b ∧ (w.alloc (.cells #[a, b, c, d] t)).cell? ⟨w.heap.size, 2, none⟩ = some c ∧ (w.alloc (.cells #[a, b, c, d] t)).cell? ⟨w.heap.size, 3, none⟩ = some d := by
  have h : (w.alloc (.cells #[a, b, c, d] t)).heap[w.heap.size]? = some (.cells #[a, b, c, d] t) := by show (w.heap.push _)[w.heap.size]? = _; simp
  refine ⟨?_, ?_, ?_, ?_⟩ <;> · simp only [World.cell?, h]; rfl
end Pa
end Go.Proofs.YtoebhnhiljlljaaDoor
