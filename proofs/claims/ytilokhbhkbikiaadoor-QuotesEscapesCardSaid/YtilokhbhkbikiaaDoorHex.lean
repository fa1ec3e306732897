/- The law's own escape of a number; the numbers of runes, as they are put. -/
import Derived.Test.YtilokhbhkbikiaaDoorLawLives
namespace Go.Proofs.YtilokhbhkbikiaaDoor
open Go.RowKit

theorem and15' (n : Nat) (h : n < 65536) : bits .and .i64 (n : Int) 15 = ((n % 16 : Nat) : Int) := by
  show IntKind.i64.wrap ((BitVec.ofInt 64 (n : Int) &&& BitVec.ofInt 64 (15 : Int)).toNat : Int) = _
  rw [BitVec.toNat_and, ofInt64 _ (by omega), show (BitVec.ofInt 64 (15 : Int)).toNat = 2 ^ 4 - 1 from by decide, Nat.and_two_pow_sub_one_eq_mod]
  exact IntWalk.i64_in _ (by omega)
/-- The digits of base 16, as the law has them. -/
def figU (u : Bool) : ByteArray := if u = true then ⟨#[48, 49, 50, 51, 52, 53, 54, 55, 56, 57, 65, 66, 67, 68, 69, 70]⟩ else ⟨#[48, 49, 50, 51, 52, 53, 54, 55, 56, 57, 97, 98, 99, 100, 101, 102]⟩
theorem fig_hex (u : Bool) {d : Nat} (h : d < 16) : (figU u).extract d (d + 1) = txt [Qu.hdig u d] := by
  have : ∀ u : Bool, ∀ n : Fin 16, ((figU u).extract n.1 (n.1 + 1)).data.toList = [Qu.hdig u n.1] := by decide +kernel
  have e := this u ⟨d, h⟩
  apply ByteArray.ext
  apply Array.ext'
  simpa [txt] using e
set_option maxHeartbeats 2000000 in
theorem hex_any {n : Nat} (hn : n < 65536) (u : Bool) (w : World) : Calls Tryd.prog 14 #[.int .i64 n, .bool u] w fun e w' => e = .returned (.string (txt (Qu.hexs u n))) ∧ w = w' := by
  have HN := Lib.hid hn
  obtain ⟨d0, HD0⟩ : ∃ d : Nat, Hid (d = n / 4096 % 16) := ⟨_, rfl⟩
  have b0 : d0 < 16 := by rw [HD0.out]; omega
  have a0 : bits .and .i64 ((n : Int) / 4096) 15 = (d0 : Int) := by
    rw [HD0.out, ← and15' (n / 4096) (by omega)]; rfl
  obtain ⟨D0, HE0⟩ : ∃ D, Hid (D = txt [Qu.hdig u d0]) := ⟨_, rfl⟩
  have s0 : D0.size = 1 := by rw [HE0.out]; rfl
  have x0 : (figU u).extract d0 (d0 + 1) = D0 := by rw [HE0.out]; exact fig_hex u b0
  obtain ⟨d1, HD1⟩ : ∃ d : Nat, Hid (d = n / 256 % 16) := ⟨_, rfl⟩
  have b1 : d1 < 16 := by rw [HD1.out]; omega
  have a1 : bits .and .i64 ((n : Int) / 256) 15 = (d1 : Int) := by
    rw [HD1.out, ← and15' (n / 256) (by omega)]; rfl
  obtain ⟨D1, HE1⟩ : ∃ D, Hid (D = txt [Qu.hdig u d1]) := ⟨_, rfl⟩
  have s1 : D1.size = 1 := by rw [HE1.out]; rfl
  have x1 : (figU u).extract d1 (d1 + 1) = D1 := by rw [HE1.out]; exact fig_hex u b1
  obtain ⟨d2, HD2⟩ : ∃ d : Nat, Hid (d = n / 16 % 16) := ⟨_, rfl⟩
  have b2 : d2 < 16 := by rw [HD2.out]; omega
  have a2 : bits .and .i64 ((n : Int) / 16) 15 = (d2 : Int) := by
    rw [HD2.out, ← and15' (n / 16) (by omega)]; rfl
  obtain ⟨D2, HE2⟩ : ∃ D, Hid (D = txt [Qu.hdig u d2]) := ⟨_, rfl⟩
  have s2 : D2.size = 1 := by rw [HE2.out]; rfl
  have x2 : (figU u).extract d2 (d2 + 1) = D2 := by rw [HE2.out]; exact fig_hex u b2
  obtain ⟨d3, HD3⟩ : ∃ d : Nat, Hid (d = n % 16) := ⟨_, rfl⟩
  have b3 : d3 < 16 := by rw [HD3.out]; omega
  have a3 : bits .and .i64 ((n : Int)) 15 = (d3 : Int) := by
    rw [HD3.out, ← and15' (n) (by omega)]
  obtain ⟨D3, HE3⟩ : ∃ D, Hid (D = txt [Qu.hdig u d3]) := ⟨_, rfl⟩
  have s3 : D3.size = 1 := by rw [HE3.out]; rfl
  have x3 : (figU u).extract d3 (d3 + 1) = D3 := by rw [HE3.out]; exact fig_hex u b3
  have FIN := Lib.hid (show (⟨#[92, 117]⟩ : ByteArray) ++ D0 ++ D1 ++ D2 ++ D3 = txt (Qu.hexs u n) by
    rw [HE0.out, HE1.out, HE2.out, HE3.out, HD0.out, HD1.out, HD2.out, HD3.out]; rfl)
  cases u
  · simp only [figU, Bool.false_eq_true, if_false] at x0 x1 x2 x3
    go_enter Tryd.func14, Tryd.ntmps14
    go_wp2_with fail
    go_loop [6, 7] (fun S k => (k = .int .i64 12 ∧ S = .string ⟨#[92, 117]⟩) ∨ (k = .int .i64 8 ∧ S = .string (⟨#[92, 117]⟩ ++ D0)) ∨ (k = .int .i64 4 ∧ S = .string (⟨#[92, 117]⟩ ++ D0 ++ D1)) ∨ (k = .int .i64 0 ∧ S = .string (⟨#[92, 117]⟩ ++ D0 ++ D1 ++ D2)) ∨ (k = .int .i64 (-4) ∧ S = .string (⟨#[92, 117]⟩ ++ D0 ++ D1 ++ D2 ++ D3))) (fun _ k => (intOf k + 4).toNat)
    case atStart => exact .inl ⟨rfl, rfl⟩
    case round =>
      rcases hrel with ⟨rfl, rfl⟩ | ⟨rfl, rfl⟩ | ⟨rfl, rfl⟩ | ⟨rfl, rfl⟩ | ⟨rfl, rfl⟩
      · go_wp2_with fail
        go_round
        case rel => exact .inr (.inl ⟨rfl, rfl⟩)
        case measure => simp [intOf]
      · go_wp2_with fail
        go_round
        case rel => exact .inr (.inr (.inl ⟨rfl, rfl⟩))
        case measure => simp [intOf]
      · go_wp2_with fail
        go_round
        case rel => exact .inr (.inr (.inr (.inl ⟨rfl, rfl⟩)))
        case measure => simp [intOf]
      · go_wp2_with fail
        go_round
        case rel => exact .inr (.inr (.inr (.inr ⟨rfl, rfl⟩)))
        case measure => simp [intOf]
      · go_wp2_with fail
        go_ret
        exact ⟨by rw [← FIN.out]; rfl, rfl⟩
  · simp only [figU, if_true] at x0 x1 x2 x3
    go_enter Tryd.func14, Tryd.ntmps14
    go_wp2_with fail
    go_loop [6, 7] (fun S k => (k = .int .i64 12 ∧ S = .string ⟨#[92, 117]⟩) ∨ (k = .int .i64 8 ∧ S = .string (⟨#[92, 117]⟩ ++ D0)) ∨ (k = .int .i64 4 ∧ S = .string (⟨#[92, 117]⟩ ++ D0 ++ D1)) ∨ (k = .int .i64 0 ∧ S = .string (⟨#[92, 117]⟩ ++ D0 ++ D1 ++ D2)) ∨ (k = .int .i64 (-4) ∧ S = .string (⟨#[92, 117]⟩ ++ D0 ++ D1 ++ D2 ++ D3))) (fun _ k => (intOf k + 4).toNat)
    case atStart => exact .inl ⟨rfl, rfl⟩
    case round =>
      rcases hrel with ⟨rfl, rfl⟩ | ⟨rfl, rfl⟩ | ⟨rfl, rfl⟩ | ⟨rfl, rfl⟩ | ⟨rfl, rfl⟩
      · go_wp2_with fail
        go_round
        case rel => exact .inr (.inl ⟨rfl, rfl⟩)
        case measure => simp [intOf]
      · go_wp2_with fail
        go_round
        case rel => exact .inr (.inr (.inl ⟨rfl, rfl⟩))
        case measure => simp [intOf]
      · go_wp2_with fail
        go_round
        case rel => exact .inr (.inr (.inr (.inl ⟨rfl, rfl⟩)))
        case measure => simp [intOf]
      · go_wp2_with fail
        go_round
        case rel => exact .inr (.inr (.inr (.inr ⟨rfl, rfl⟩)))
        case measure => simp [intOf]
      · go_wp2_with fail
        go_ret
        exact ⟨by rw [← FIN.out]; rfl, rfl⟩
theorem hex_is {n : Nat} {x : Int} {S : ByteArray} (u : Bool) (hx : x = n) (hn : n < 65536) (hS : S = txt (Qu.hexs u n)) (w : World) : Calls Tryd.prog 14 #[.int .i64 x, .bool u] w fun e w' => e = .returned (.string S) ∧ w = w' := by
  subst hx; subst hS; exact hex_any hn u w
/-! ### Numbers of runes, as they are put -/
theorem putTo_flat (l : List Int) : ∀ k, k ≤ l.length → putTo l k = (l.take k).flatMap (fun x => encI (knw x))
  | 0, _ => by simp [putTo]
  | k + 1, h => by
    rw [putTo, putTo_flat l k (by omega), List.take_succ_eq_append_getElem (by omega), List.flatMap_append]
    simp [it, show k < l.length by omega]
theorem isR_is {x : Int} (h : Qu.isR x = true) : 0 ≤ x ∧ x ≤ 1114111 ∧ (x < 55296 ∨ 57343 < x) := by simpa [Qu.isR] using h
theorem enc_pt {x : Int} (h : Qu.isR x = true) : (encI (knw x)).map b8 = Qu.pt x.toNat := by
  have hb := isR_is h
  have := puts_one (n := x.toNat) (by omega) (by simp [Qu.high]; omega) (by simp [Qu.low]; omega)
  rw [← this, show ((x.toNat : Nat) : Int) = x by omega, puts]
  show _ = (putTo [x] 1).map b8
  simp [putTo, it]
theorem puts_flat {l : List Int} (h : ∀ x ∈ l, Qu.isR x = true) : puts l = l.flatMap (fun x => Qu.pt x.toNat) := by
  rw [puts, putI, putTo_flat l _ (Nat.le_refl _), List.take_length, List.map_flatMap]
  induction l with
  | nil => rfl
  | cons x l ih => rw [List.flatMap_cons, List.flatMap_cons, enc_pt (h x (by simp)), ih (fun y hy => h y (by simp [hy]))]
theorem puts_runes (l : List Int) : puts (Qu.runesOf l) = Qu.eText l := puts_flat fun x hx => by simpa using (List.mem_filter.1 hx).2
theorem puts_more (l : List Int) {n : Nat} (h : n ≤ 1114111) (h1 : Qu.high n = false) (h2 : Qu.low n = false) : puts (Qu.runesOf l ++ [(n : Int)]) = Qu.eText l ++ Qu.pt n := by
  have hn : Qu.isR (n : Int) = true := by
    have a1 : ¬ (55296 ≤ n ∧ n ≤ 56319) := by simpa [Qu.high] using h1
    have a2 : ¬ (56320 ≤ n ∧ n ≤ 57343) := by simpa [Qu.low] using h2
    simp only [Qu.isR, decide_eq_true_eq]; omega
  rw [puts_flat (l := Qu.runesOf l ++ [(n : Int)]) (fun x hx => by
    rcases List.mem_append.1 hx with h | h
    · simpa using (List.mem_filter.1 h).2
    · rw [List.mem_singleton.1 h]; exact hn), List.flatMap_append, Qu.eText]
  simp
/-- Integers as a slice's cells. -/
def ints (l : List Int) : List Value := l.map (.int .i64)
theorem own_num {w : World} {base n : Nat} {v : Value} {l : List Int} (h : w.ownsRow base 3 1 v n (ints l)) : ∃ A c, v = .slice A n c ∧ n = l.length ∧ Num w w.heap.size A l := by
  have hn : n = l.length := by have := h.1; simp [ints] at this; omega
  rcases h.2 with ⟨rfl, rfl⟩ | ⟨g, cap, cur, rfl, _, _, hnc, hcm, _⟩
  · exact ⟨none, 0, rfl, hn, fun hl => absurd hl (by omega)⟩
  · refine ⟨some ⟨g, 0, none⟩, cap, rfl, hn, fun _ => ⟨g, 0, rfl, (h.lt _ rfl).2, fun k hk => ?_⟩⟩
    rw [Nat.zero_add, h.cellAt k (by omega)]
    simp [ints, it, hk]
/-- The program's Put, and the text of its bytes. -/
theorem puts_conv {l : List Int} {A : Option Addr} {n c : Nat} (w : World) (hn : n = l.length) (hA : Num w w.heap.size A l) (hs : n ≤ 65536) (hT : Tab w) : Calls Tryd.prog 15 #[.slice A n c] w
    fun e w' => ∃ A' n' c' S, e = .returned (.slice A' n' c') ∧ (convert 34 9 (.slice A' n' c')).run Tryd.prog w' = .ok (.string S) w' ∧ S = txt (puts l) ∧ Below w.heap.size w w' := by
  refine (puts_any n c hn hA (Nat.le_refl _) hs hT.1 hT.2.2).mono ?_
  rintro e w' ⟨rfl, hown, hb⟩
  rw [bytV_puts] at hown
  obtain ⟨A', c', e1, o1, o2, o3, o4, o5⟩ := own_form hown
  injection e1 with e1 e2 e3
  subst e1
  exact ⟨_, _, _, _, rfl, conv_bytes _ _ o3 o4, rfl, hb⟩
end Go.Proofs.YtilokhbhkbikiaaDoor
