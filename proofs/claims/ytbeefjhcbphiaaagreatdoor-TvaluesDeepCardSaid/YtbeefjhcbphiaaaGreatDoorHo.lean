/- What landed: which bytes a comment has, a token; what stands at a place. -/
import Derived.Test.YtbeefjhcbphiaaaGreatDoorHn
import Derived.Test.YtbeefjhcbphiaaaGreatDoorHc
import Derived.Test.YtbeefjhcbphiaaaGreatDoorShelfm
import Derived.Test.YtbeefjhcbphiaaaGreatDoorHl
import Derived.BigQuiet
import Derived.Deep.QuietTactic
import Derived.Deep.RegionWith
namespace Go.Proofs.YtbeefjhcbphiaaaGreatDoor
open Go.RowKit
namespace Tv
open Ty (Bs blK endP endP_on endP_no endP_far ret_b ret_i ret_s)

set_option maxHeartbeats 1000000 in
theorem plain_is {c : Int} {b : Bool} (w : World) (h : b = plC c) : Calls Tryz.prog 32 #[.int .u8 c] w fun e w' => e = .returned (.bool b) ∧ w = w' := by
  unfold plC at h
  rcases (show c ≤ 8 ∨ c = 9 ∨ 10 ≤ c ∧ c ≤ 31 ∨ 32 ≤ c ∧ c ≤ 126 ∨ c = 127 ∨ 128 ≤ c by omega) with h0 | rfl | h0 | h0 | rfl | h0
  · have E := Lib.hid (show b = false by rw [h]; simp; omega)
    have g0 : ¬ 32 ≤ c := by omega
    have g1 : ¬ 128 ≤ c := by omega
    have g2 : c ≤ 126 := by omega
    have d9 : (c == 9) = false := by simp; omega
    clear h h0
    go_enter Tryz.func32, Tryz.ntmps32
    go_wp2_with fail
    go_ret
    exact ⟨ret_b E.out.symm, rfl⟩
  · obtain rfl : b = true := h.trans (by decide)
    clear h
    go_enter Tryz.func32, Tryz.ntmps32
    go_wp2_with fail
    go_ret
    exact ⟨rfl, rfl⟩
  · have E := Lib.hid (show b = false by rw [h]; simp; omega)
    have g0 : ¬ 32 ≤ c := by omega
    have g1 : ¬ 128 ≤ c := by omega
    have g2 : c ≤ 126 := by omega
    have d9 : (c == 9) = false := by simp; omega
    clear h h0
    go_enter Tryz.func32, Tryz.ntmps32
    go_wp2_with fail
    go_ret
    exact ⟨ret_b E.out.symm, rfl⟩
  · have E := Lib.hid (show b = true by rw [h]; simp; omega)
    have g0 : 32 ≤ c := by omega
    have g1 : ¬ 128 ≤ c := by omega
    have g2 : c ≤ 126 := by omega
    have d9 : (c == 9) = false := by simp; omega
    clear h h0
    go_enter Tryz.func32, Tryz.ntmps32
    go_wp2_with fail
    go_ret
    exact ⟨ret_b E.out.symm, rfl⟩
  · obtain rfl : b = false := h.trans (by decide)
    clear h
    go_enter Tryz.func32, Tryz.ntmps32
    go_wp2_with fail
    go_ret
    exact ⟨rfl, rfl⟩
  · have E := Lib.hid (show b = true by rw [h]; simp; omega)
    have g0 : 32 ≤ c := by omega
    have g1 : 128 ≤ c := by omega
    have g2 : ¬ c ≤ 126 := by omega
    have d9 : (c == 9) = false := by simp; omega
    clear h h0
    go_enter Tryz.func32, Tryz.ntmps32
    go_wp2_with fail
    go_ret
    exact ⟨ret_b E.out.symm, rfl⟩
def marksT : ByteArray := ⟨#[43, 45, 95, 46]⟩
theorem ixT (c : Int) (h0 : 0 ≤ c) (h1 : c < 256) (h43 : c ≠ 43) (h45 : c ≠ 45) (h95 : c ≠ 95) (h46 : c ≠ 46) : Lib.indexByte marksT.data.toList c.toNat.toUInt8 = -1 := by
  have key : ∀ n : Fin 256, n.val ≠ 43 → n.val ≠ 45 → n.val ≠ 95 → n.val ≠ 46 → Lib.indexByte marksT.data.toList n.val.toUInt8 = -1 := by decide +kernel
  have := key ⟨c.toNat, by omega⟩ (by show c.toNat ≠ _; omega) (by show c.toNat ≠ _; omega) (by show c.toNat ≠ _; omega) (by show c.toNat ≠ _; omega)
  exact this
set_option maxHeartbeats 2000000 in
theorem intok_is {c : Int} {b : Bool} (w : World) (l0 : 0 ≤ c) (l1 : c < 256) (h : b = tkC c) : Calls Tryz.prog 134 #[.int .u8 c] w fun e w' => e = .returned (.bool b) ∧ w = w' := by
  have CI := Lib.hid (fun w => Tryz.strings_IndexByte marksT c w)
  unfold tkC at h
  rcases (show c ≤ 42 ∨ c = 43 ∨ c = 44 ∨ c = 45 ∨ c = 46 ∨ c = 47 ∨ 48 ≤ c ∧ c ≤ 57 ∨ 58 ≤ c ∧ c ≤ 64 ∨ 65 ≤ c ∧ c ≤ 90 ∨ 91 ≤ c ∧ c ≤ 94 ∨ c = 95 ∨ c = 96 ∨ 97 ≤ c ∧ c ≤ 122 ∨ 123 ≤ c by omega) with h0 | rfl | rfl | rfl | rfl | rfl | h0 | h0 | h0 | h0 | rfl | rfl | h0 | h0
  · have E := Lib.hid (show b = false by rw [h]; simp; omega)
    rw [ixT c l0 l1 (by omega) (by omega) (by omega) (by omega)] at CI
    have g0 : ¬ 97 ≤ c := by omega
    have g1 : ¬ 65 ≤ c := by omega
    have g2 : ¬ 48 ≤ c := by omega
    have g3 : c ≤ 122 := by omega
    have g4 : c ≤ 90 := by omega
    have g5 : c ≤ 57 := by omega
    clear h h0 l0 l1
    go_enter Tryz.func134, Tryz.ntmps134
    go_wp2_with fail
    refine (CI.out _).mono ?_
    rintro e w1 ⟨rfl, rfl⟩
    go_wp2_with fail
    go_ret
    exact ⟨ret_b E.out.symm, rfl⟩
  · obtain rfl : b = true := h.trans (by decide)
    have hY : Lib.indexByte marksT.data.toList (43 : Int).toNat.toUInt8 = 0 := by decide +kernel
    rw [hY] at CI
    clear h hY
    go_enter Tryz.func134, Tryz.ntmps134
    go_wp2_with fail
    refine (CI.out _).mono ?_
    rintro e w1 ⟨rfl, rfl⟩
    go_wp2_with fail
    go_ret
    exact ⟨rfl, rfl⟩
  · obtain rfl : b = false := h.trans (by decide)
    rw [ixT _ l0 l1 (by omega) (by omega) (by omega) (by omega)] at CI
    clear h l0 l1
    go_enter Tryz.func134, Tryz.ntmps134
    go_wp2_with fail
    refine (CI.out _).mono ?_
    rintro e w1 ⟨rfl, rfl⟩
    go_wp2_with fail
    go_ret
    exact ⟨rfl, rfl⟩
  · obtain rfl : b = true := h.trans (by decide)
    have hY : Lib.indexByte marksT.data.toList (45 : Int).toNat.toUInt8 = 1 := by decide +kernel
    rw [hY] at CI
    clear h hY
    go_enter Tryz.func134, Tryz.ntmps134
    go_wp2_with fail
    refine (CI.out _).mono ?_
    rintro e w1 ⟨rfl, rfl⟩
    go_wp2_with fail
    go_ret
    exact ⟨rfl, rfl⟩
  · obtain rfl : b = true := h.trans (by decide)
    have hY : Lib.indexByte marksT.data.toList (46 : Int).toNat.toUInt8 = 3 := by decide +kernel
    rw [hY] at CI
    clear h hY
    go_enter Tryz.func134, Tryz.ntmps134
    go_wp2_with fail
    refine (CI.out _).mono ?_
    rintro e w1 ⟨rfl, rfl⟩
    go_wp2_with fail
    go_ret
    exact ⟨rfl, rfl⟩
  · obtain rfl : b = false := h.trans (by decide)
    rw [ixT _ l0 l1 (by omega) (by omega) (by omega) (by omega)] at CI
    clear h l0 l1
    go_enter Tryz.func134, Tryz.ntmps134
    go_wp2_with fail
    refine (CI.out _).mono ?_
    rintro e w1 ⟨rfl, rfl⟩
    go_wp2_with fail
    go_ret
    exact ⟨rfl, rfl⟩
  · have E := Lib.hid (show b = true by rw [h]; simp; omega)
    have g0 : ¬ 97 ≤ c := by omega
    have g1 : ¬ 65 ≤ c := by omega
    have g2 : 48 ≤ c := by omega
    have g3 : c ≤ 122 := by omega
    have g4 : c ≤ 90 := by omega
    have g5 : c ≤ 57 := by omega
    clear h h0 CI
    go_enter Tryz.func134, Tryz.ntmps134
    go_wp2_with fail
    go_ret
    exact ⟨ret_b E.out.symm, rfl⟩
  · have E := Lib.hid (show b = false by rw [h]; simp; omega)
    rw [ixT c l0 l1 (by omega) (by omega) (by omega) (by omega)] at CI
    have g0 : ¬ 97 ≤ c := by omega
    have g1 : ¬ 65 ≤ c := by omega
    have g2 : 48 ≤ c := by omega
    have g3 : c ≤ 122 := by omega
    have g4 : c ≤ 90 := by omega
    have g5 : ¬ c ≤ 57 := by omega
    clear h h0 l0 l1
    go_enter Tryz.func134, Tryz.ntmps134
    go_wp2_with fail
    refine (CI.out _).mono ?_
    rintro e w1 ⟨rfl, rfl⟩
    go_wp2_with fail
    go_ret
    exact ⟨ret_b E.out.symm, rfl⟩
  · have E := Lib.hid (show b = true by rw [h]; simp; omega)
    have g0 : ¬ 97 ≤ c := by omega
    have g1 : 65 ≤ c := by omega
    have g2 : 48 ≤ c := by omega
    have g3 : c ≤ 122 := by omega
    have g4 : c ≤ 90 := by omega
    have g5 : ¬ c ≤ 57 := by omega
    clear h h0 CI
    go_enter Tryz.func134, Tryz.ntmps134
    go_wp2_with fail
    go_ret
    exact ⟨ret_b E.out.symm, rfl⟩
  · have E := Lib.hid (show b = false by rw [h]; simp; omega)
    rw [ixT c l0 l1 (by omega) (by omega) (by omega) (by omega)] at CI
    have g0 : ¬ 97 ≤ c := by omega
    have g1 : 65 ≤ c := by omega
    have g2 : 48 ≤ c := by omega
    have g3 : c ≤ 122 := by omega
    have g4 : ¬ c ≤ 90 := by omega
    have g5 : ¬ c ≤ 57 := by omega
    clear h h0 l0 l1
    go_enter Tryz.func134, Tryz.ntmps134
    go_wp2_with fail
    refine (CI.out _).mono ?_
    rintro e w1 ⟨rfl, rfl⟩
    go_wp2_with fail
    go_ret
    exact ⟨ret_b E.out.symm, rfl⟩
  · obtain rfl : b = true := h.trans (by decide)
    have hY : Lib.indexByte marksT.data.toList (95 : Int).toNat.toUInt8 = 2 := by decide +kernel
    rw [hY] at CI
    clear h hY
    go_enter Tryz.func134, Tryz.ntmps134
    go_wp2_with fail
    refine (CI.out _).mono ?_
    rintro e w1 ⟨rfl, rfl⟩
    go_wp2_with fail
    go_ret
    exact ⟨rfl, rfl⟩
  · obtain rfl : b = false := h.trans (by decide)
    rw [ixT _ l0 l1 (by omega) (by omega) (by omega) (by omega)] at CI
    clear h l0 l1
    go_enter Tryz.func134, Tryz.ntmps134
    go_wp2_with fail
    refine (CI.out _).mono ?_
    rintro e w1 ⟨rfl, rfl⟩
    go_wp2_with fail
    go_ret
    exact ⟨rfl, rfl⟩
  · have E := Lib.hid (show b = true by rw [h]; simp; omega)
    have g0 : 97 ≤ c := by omega
    have g1 : 65 ≤ c := by omega
    have g2 : 48 ≤ c := by omega
    have g3 : c ≤ 122 := by omega
    have g4 : ¬ c ≤ 90 := by omega
    have g5 : ¬ c ≤ 57 := by omega
    clear h h0 CI
    go_enter Tryz.func134, Tryz.ntmps134
    go_wp2_with fail
    go_ret
    exact ⟨ret_b E.out.symm, rfl⟩
  · have E := Lib.hid (show b = false by rw [h]; simp; omega)
    rw [ixT c l0 l1 (by omega) (by omega) (by omega) (by omega)] at CI
    have g0 : 97 ≤ c := by omega
    have g1 : 65 ≤ c := by omega
    have g2 : 48 ≤ c := by omega
    have g3 : ¬ c ≤ 122 := by omega
    have g4 : ¬ c ≤ 90 := by omega
    have g5 : ¬ c ≤ 57 := by omega
    clear h h0 l0 l1
    go_enter Tryz.func134, Tryz.ntmps134
    go_wp2_with fail
    refine (CI.out _).mono ?_
    rintro e w1 ⟨rfl, rfl⟩
    go_wp2_with fail
    go_ret
    exact ⟨ret_b E.out.symm, rfl⟩
section
variable {l q : Bs} {s t : ByteArray} {p : Nat}
set_option maxHeartbeats 1000000 in
theorem stands_in (w : World) (hs : s = txt l) (hl : l.length ≤ 1000000) (hp : p ≤ l.length) (ht : t = txt q) (hq : q.length ≤ 1000000) {x : Bool} (hx : x = hasP (l.drop p) q) {y : Int} (hy : y = p) :
    Calls Tryz.prog 31 #[.string s, .int .i64 y, .string t] w fun e w' => e = .returned (.bool x) ∧ w = w' := by
  subst hy
  have hps : (p : Int) ≤ s.size := by rw [hs, txt_size]; omega
  have hs1 : s.size ≤ 1000000 := by rw [hs, txt_size]; exact hl
  have HU := Lib.hid (show s.extract p s.size = txt (l.drop p) by rw [hs, txt_cut, txt_size, List.take_length])
  have HC := Lib.hid (hasP_any w HU.out ht (by simp; omega) hq hx)
  clear hs hl hp ht hq hx HU
  go_enter Tryz.func31, Tryz.ntmps31
  go_wp2_with fail
  refine HC.out.mono ?_
  rintro e w1 ⟨rfl, rfl⟩
  go_wp2_with fail
  go_ret
  exact ⟨rfl, rfl⟩
set_option maxHeartbeats 1000000 in
theorem stands_low (w : World) {y : Int} (hy : y < 0) :
    Calls Tryz.prog 31 #[.string s, .int .i64 y, .string t] w fun e w' => e = .returned (.bool false) ∧ w = w' := by
  have h1 : ¬ 0 ≤ y := by omega
  clear hy
  go_enter Tryz.func31, Tryz.ntmps31
  go_wp2_with fail
  go_ret
  exact ⟨rfl, rfl⟩
set_option maxHeartbeats 1000000 in
theorem stands_high (w : World) {y : Int} (hy : (s.size : Int) < y) :
    Calls Tryz.prog 31 #[.string s, .int .i64 y, .string t] w fun e w' => e = .returned (.bool false) ∧ w = w' := by
  have h1 : 0 ≤ y := by omega
  have h2 : ¬ y ≤ s.size := by omega
  clear hy
  go_enter Tryz.func31, Tryz.ntmps31
  go_wp2_with fail
  go_ret
  exact ⟨rfl, rfl⟩
end
end Tv
end Go.Proofs.YtbeefjhcbphiaaaGreatDoor
/- What landed: comments and gaps. -/
namespace Go.Proofs.YtbeefjhcbphiaaaGreatDoor
open Go.RowKit
namespace Tv
open Ty (Bs blK endP endP_on endP_no endP_far ret_b ret_i ret_s)

abbrev ftO : Obj := .cells #[.int .i64 0, .int .i64 0] 28
def ft (c a : Nat) : Value := .agg #[.int .i64 (c : Nat), .int .i64 (a : Nat)]
theorem has1 {l : Bs} {p : Nat} {c : UInt8} (hc : c ≠ 0) : hasP (l.drop p) [c] = decide (bt l p = (c.toNat : Int)) := by
  unfold hasP bt
  rw [List.getD_eq_getElem?_getD]
  rcases Nat.lt_or_ge p l.length with h | h
  · rw [List.drop_eq_getElem_cons h, List.getElem?_eq_getElem h]
    simp only [List.length_cons, List.length_nil, List.take_succ_cons, List.take_zero, Option.getD_some]
    have e : ([l[p]] = [c]) ↔ (((l[p].toNat : Nat) : Int) = (c.toNat : Int)) := by
      constructor
      · intro h; injection h with h; rw [h]
      · intro h; have := UInt8.toNat_inj.1 (Int.ofNat.inj h); rw [this]
    simp only [e]
  · rw [List.drop_eq_nil_of_le h, List.getElem?_eq_none h]
    have e1 : ¬ (List.take [c].length ([] : List UInt8) = [c]) := by simp
    have e2 : ¬ ((((none : Option UInt8).getD 0).toNat : Nat) : Int) = (c.toNat : Int) := by
      intro h
      exact hc (UInt8.toNat_inj.1 (Int.ofNat.inj h)).symm
    rw [decide_eq_false e1, decide_eq_false e2]
theorem has2 {l : Bs} {p : Nat} {c d : UInt8} (hc : c ≠ 0) (hd : d ≠ 0) : hasP (l.drop p) [c, d] = (decide (bt l p = (c.toNat : Int)) && decide (bt l (p + 1) = (d.toNat : Int))) := by
  rw [← has1 hc, ← has1 hd]
  unfold hasP
  rw [← List.drop_drop (i := 1)]
  match l.drop p with
  | [] => simp
  | [a] => simp
  | a :: b :: r => simp
section
variable {l : Bs} {s : ByteArray} {p : Nat}
set_option maxHeartbeats 2000000 in
set_option maxRecDepth 100000 in
theorem comment_in (w : World) (hs : s = txt l) (hl : l.length ≤ 1000000) (hp : p ≤ l.length) {R : Int} (hR : R = (cm l p : Nat)) {y : Int} (hy : y = p) :
    Calls Tryz.prog 12 #[.string s, .int .i64 y] w fun e w' => e = .returned (.tuple #[.int .i64 R, .agg #[.int .i64 0, .int .i64 0]]) ∧ Below w.heap.size w w' := by
  subst hy
  have HSZ := Lib.hid (show s.size = l.length by rw [hs, txt_size])
  have hsz : s.size ≤ 1000000 := by rw [hs, txt_size]; exact hl
  have HS := Lib.hid hs
  have HR := Lib.hid hR
  have HFC := Lib.hid (FC.new w)
  have HW0 := Lib.hid (show Below w.heap.size w (w.alloc ftO) from (Below.refl _ _).alloc (Nat.le_refl _) _)
  obtain ⟨x, hx⟩ : ∃ x, x = hasP (l.drop p) [35] := ⟨_, rfl⟩
  have HST := Lib.hid (fun w => stands_in (t := ⟨#[35]⟩) (q := [35]) w hs hl hp rfl (by decide) hx (y := p) rfl)
  have HX := Lib.hid (hx.trans (has1 (by decide)))
  have HP := Lib.hid hp
  clear hs hl hp hR hx
  go_enter Tryz.func12, Tryz.ntmps12
  go_wp2_with fail
  refine (HST.out _).mono ?_
  rintro e w1 ⟨rfl, rfl⟩
  obtain ⟨W, hW⟩ : ∃ W, w.alloc ftO = W := ⟨_, rfl⟩
  rw [hW] at HFC HW0 ⊢
  have d0 := HFC.out.c0
  have d1 := HFC.out.c1
  have e0 := HFC.out.f0
  have e1 := HFC.out.f1
  clear hW
  cases x with
  | false =>
    have HE := Lib.hid (show R = (p : Nat) by
      have h := of_decide_eq_false HX.out.symm
      rw [HR.out, cm, if_neg (fun q => h q.2)])
    go_wp2_with fail
    refine bodyPost_ret (v := .tuple #[.int .i64 (p : Nat), .agg #[.int .i64 0, .int .i64 0]]) (by simp [results, Tryz.results12, go_sem, *]) rfl ?_
    exact ⟨by rw [HE.out], (HW0.out.setCell (Nat.le_refl _) _).setCell (Nat.le_refl _) _⟩
  | true =>
    have h35 := of_decide_eq_true HX.out.symm
    have hpl := bt_in h35 (by decide)
    have HE := Lib.hid (show R = (endP plC l (p + 1) : Nat) by rw [HR.out, cm, if_pos ⟨hpl, h35⟩])
    have hps : p + 1 ≤ s.size := by rw [HSZ.out]; exact hpl
    clear h35 hpl
    go_wp2_with fail
    go_loop [4] (fun a => ∃ k : Nat, k ≤ s.size ∧ a = .int .i64 k ∧ Hid (endP plC l k = endP plC l (p + 1))) (fun a => s.size - (intOf a).toNat)
    case atStart => exact ⟨p + 1, hps, by go_num, Lib.hid rfl⟩
    case round =>
      obtain ⟨k, hk, rfl, HE1⟩ := hrel
      by_cases hlt : k < s.size
      · have hkl : k < l.length := by rw [← HSZ.out]; exact hlt
        have hx := txt_at HS.out (k := k)
        obtain ⟨y, HY⟩ : ∃ y, Hid (y = bt l k) := ⟨_, rfl⟩
        rw [← HY.out] at hx
        cases hb : plC (bt l k) with
        | false =>
          have HE2 := Lib.hid (show R = (k : Nat) by rw [HE.out, ← HE1.out, endP_no hb])
          have HB := Lib.hid (show false = plC y by rw [HY.out]; exact hb.symm)
          clear hb hkl
          go_wp2_with fail
          refine (plain_is _ HB.out).mono ?_
          rintro e w1 ⟨rfl, rfl⟩
          go_wp2_with fail
          refine bodyPost_ret (v := .tuple #[.int .i64 (k : Nat), .agg #[.int .i64 0, .int .i64 0]]) (by simp [results, Tryz.results12, go_sem, *]) rfl ?_
          exact ⟨by rw [HE2.out], (HW0.out.setCell (Nat.le_refl _) _).setCell (Nat.le_refl _) _⟩
        | true =>
          have HE2 := Lib.hid (show endP plC l (k + 1) = endP plC l (p + 1) by rw [← HE1.out, endP_on hkl hb])
          have HB := Lib.hid (show true = plC y by rw [HY.out]; exact hb.symm)
          clear hb hkl
          go_wp2_with fail
          refine (plain_is _ HB.out).mono ?_
          rintro e w1 ⟨rfl, rfl⟩
          go_wp2_with fail
          go_round
          case rel => exact ⟨k + 1, by omega, by go_num, HE2⟩
          case measure => simp [intOf]; omega
      · obtain rfl : k = s.size := by omega
        have HE2 := Lib.hid (show R = (s.size : Nat) by rw [HE.out, ← HE1.out, endP_far (by rw [HSZ.out]; exact Nat.le_refl _)])
        go_wp2_with fail
        refine bodyPost_ret (v := .tuple #[.int .i64 (s.size : Nat), .agg #[.int .i64 0, .int .i64 0]]) (by simp [results, Tryz.results12, go_sem, *]) rfl ?_
        exact ⟨by rw [HE2.out], (HW0.out.setCell (Nat.le_refl _) _).setCell (Nat.le_refl _) _⟩
end
end Tv
end Go.Proofs.YtbeefjhcbphiaaaGreatDoor
/- The reader's small functions: a fault told, the next byte, a mark taken, blanks. -/
namespace Go.Proofs.YtbeefjhcbphiaaaGreatDoor
open Go.RowKit
namespace Tv
open Ty (WR1 KR Ky Bs blK endP endP_on endP_no endP_far)

theorem bdn {B : Nat} {a w : World} (h : Below B a w) (k : Nat) : Below B a (w.drewN k) := ⟨h.os, h.tape, h.output, h.size, h.block⟩
section
variable {G : List (Nat × Obj)} {W w w' : World} {B P M : Nat} {S : ByteArray} {s : St} {tv : Value} {fc fa : Nat} {lab : Nat → Own} {X : List Nx} {p b : Nat} {l : Bs}
theorem VP.dn (h : VP G W w B P M S s tv fc fa lab X p b) (k : Nat) : VP G W (w.drewN k) B P M S s tv fc fa lab X p b := h.on (bdn (Below.refl _ _) _)
theorem VP.drew (h : VP G W w B P M S s tv fc fa lab X p b) : VP G W w.drew B P M S s tv fc fa lab X p b := h.on (Below.refl _ _).drew
set_option maxRecDepth 100000 in
theorem fail_any {c k : Nat} (h : VP G W w B P M S s tv 0 0 lab X p b) {y1 y2 : Int} (h1 : y1 = c) (h2 : y2 = k) :
    Calls Tryz.prog 102 #[.pointer (some ⟨P, 0, none⟩), .int .i64 y1, .int .i64 y2] w fun e w' => e = .returned (.bool false) ∧ VP G W w' B P M S s tv c k lab X p b := by
  obtain ⟨_, _, _, _, _, c5, c6⟩ := h.cells
  have z5 := h.free 5
  have z6 := h.free 6
  have HR := Lib.hid (h.fault (c := c) (k := k))
  subst h1; subst h2
  clear h
  go_enter Tryz.func102, Tryz.ntmps102
  go_wp2_with fail
  go_ret
  exact ⟨rfl, HR.out⟩
set_option maxRecDepth 100000 in
theorem next_any (h : VP G W w B P M S s tv fc fa lab X p b) (hs : S = txt l) (hl : l.length ≤ 50000) (ha : s.a ≤ l.length) {y : Int} (hy : y = bt l s.a) :
    Calls Tryz.prog 47 #[.pointer (some ⟨P, 0, none⟩)] w fun e w' => e = .returned (.int .u8 y) ∧ Below w.heap.size w w' := by
  obtain ⟨_, _, c2, c3, _⟩ := h.cells
  have hsz : S.size = l.length := by rw [hs, txt_size]
  have hsm : S.size ≤ 50000 := by omega
  by_cases he : s.a = S.size
  · have HY := Lib.hid (show y = 0 by
      rw [hy]; unfold bt
      rw [List.getD_eq_getElem?_getD, List.getElem?_eq_none (by omega)]; rfl)
    rw [he] at c3
    have heq : ((S.size : Int) == (S.size : Int)) = true := by simp
    clear h hs hl ha hy hsz
    go_enter Tryz.func47, Tryz.ntmps47
    go_upto_region 1 with fail
    go_quiet (fail)
    go_wp2_with fail
    go_ret
    exact ⟨by rw [HY.out]; rfl, bdn (Below.refl _ _) _⟩
  · obtain ⟨k, hk⟩ : ∃ k, k = s.a := ⟨_, rfl⟩
    rw [← hk] at he c3 ha hy
    have hlt : k < S.size := by omega
    have hne : ((k : Int) == (S.size : Int)) = false := by simp; omega
    have hx := txt_at hs (k := k)
    rw [← hy] at hx
    clear h hs hl ha hy hsz he hk
    go_enter Tryz.func47, Tryz.ntmps47
    go_upto_region 1 with fail
    go_quiet (fail)
    go_wp2_with fail
    go_quiet (fail)
    go_wp2_with fail
    go_ret
    exact ⟨rfl, bdn (bdn (Below.refl _ _) _) _⟩
set_option maxRecDepth 100000 in
/-- A mark is taken, if it is there. -/
theorem takes_any (h : VP G W w B P M S s tv 0 0 lab X p b) (hs : S = txt l) (hl : l.length ≤ 50000) (ha : s.a ≤ l.length) (m : Int) {x : Bool} (hx : x = decide (bt l s.a = m)) :
    Calls Tryz.prog 106 #[.pointer (some ⟨P, 0, none⟩), .int .u8 m] w fun e w' => e = .returned (.bool x) ∧ VP G W w' B P M S (if x = true then { s with a := s.a + 1 } else s) tv 0 0 lab X p b := by
  obtain ⟨y, hy⟩ : ∃ y, y = bt l s.a := ⟨_, rfl⟩
  have C := Lib.hid (next_any h hs hl ha hy)
  rw [← hy] at hx
  have HV := Lib.hid h
  have hal : s.a ≤ 50000 := by omega
  clear h hs hl ha hy
  cases x with
  | false =>
    have hne : (y != m) = true := by simpa using of_decide_eq_false hx.symm
    clear hx
    go_enter Tryz.func106, Tryz.ntmps106
    go_wp2_with fail
    refine C.out.mono ?_
    rintro e w1 ⟨rfl, hb⟩
    have HV1 := Lib.hid (HV.out.on hb)
    clear hb
    go_wp2_with fail
    go_ret
    exact ⟨rfl, HV1.out⟩
  | true =>
    obtain rfl : y = m := of_decide_eq_true hx.symm
    clear hx
    go_enter Tryz.func106, Tryz.ntmps106
    go_wp2_with fail
    refine C.out.mono ?_
    rintro e w1 ⟨rfl, hb⟩
    have hv1 := HV.out.on hb
    obtain ⟨_, _, _, c3, _⟩ := hv1.cells
    have z3 := hv1.free 3
    obtain ⟨k, hk⟩ : ∃ k, k = s.a := ⟨_, rfl⟩
    have HV2 := Lib.hid (hv1.at_ (a' := k + 1))
    rw [← hk] at c3 hal
    have HK := Lib.hid hk
    clear hv1 hb hk
    go_wp2_with fail
    go_ret
    refine ⟨rfl, ?_⟩
    try rw [if_pos rfl]
    rw [← HK.out]
    exact HV2.out
set_option maxRecDepth 100000 in
theorem blanks_r (h : VP G W w B P M S s tv 0 0 lab X p b) (hs : S = txt l) (hl : l.length ≤ 50000) (ha : s.a ≤ l.length) :
    Calls Tryz.prog 108 #[.pointer (some ⟨P, 0, none⟩)] w fun e w' => e = .returned (.tuple #[]) ∧ VP G W w' B P M S { s with a := endP blK l s.a } tv 0 0 lab X p b := by
  obtain ⟨_, _, c2, c3, _⟩ := h.cells
  have z3 := h.free 3
  obtain ⟨R, hR⟩ : ∃ R : Int, R = (endP blK l s.a : Nat) := ⟨_, rfl⟩
  have C := Lib.hid (fun w => Ty.blanks_any w hs (by omega) ha hR)
  have HV := Lib.hid (h.at_ (a' := endP blK l s.a))
  rw [← hR] at HV
  have HVd := Lib.hid (h.drew.at_ (a' := endP blK l s.a))
  rw [← hR] at HVd
  clear h hs hl ha hR
  go_enter Tryz.func108, Tryz.ntmps108
  go_upto_region 0 with fail
  go_region_with (go_at_call 33; refine (C.out _).mono ?_; rintro e w1 ⟨rfl, rfl⟩)
  all_goals
    go_wp2_with fail
    refine bodyPost_end (results_none rfl _ _ _) rfl ?_
    first
    | exact ⟨rfl, HV.out⟩
    | exact ⟨rfl, HVd.out⟩
end
end Tv
end Go.Proofs.YtbeefjhcbphiaaaGreatDoor
