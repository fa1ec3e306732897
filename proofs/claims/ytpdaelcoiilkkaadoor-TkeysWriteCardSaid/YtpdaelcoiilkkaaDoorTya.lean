/- TOML's keys as lists; which bytes a bare word has; where those bytes end; which words are bare. -/
import Derived.Test.YtpdaelcoiilkkaaDoorTyl
import Derived.LoopTactic
import Derived.Outline
import Derived.BigQuiet
import Derived.Deep.QuietTactic
import Derived.Lib.Strings
namespace Go.Proofs.YtpdaelcoiilkkaaDoor
open Go.RowKit
namespace Ty

abbrev Bs := List UInt8
theorem txt_list (l : Bs) : (txt l).toList = l := by rw [Lib.toList_data]; rfl
/-- A byte of a bare word. -/
def plK (c : Int) : Bool := decide (97 ≤ c ∧ c ≤ 122 ∨ 65 ≤ c ∧ c ≤ 90 ∨ 48 ≤ c ∧ c ≤ 57 ∨ c = 95 ∨ c = 45)
def blK (c : Int) : Bool := decide (c = 9 ∨ c = 32)
/-- Where the bytes of a kind end that stand at a place. -/
def endP (p : Int → Bool) (l : Bs) (i : Nat) : Nat := if i < l.length ∧ p (bt l i) = true then endP p l (i + 1) else i
termination_by l.length - i
theorem endP_on {p : Int → Bool} {l : Bs} {i : Nat} (h : i < l.length) (h2 : p (bt l i) = true) : endP p l i = endP p l (i + 1) := by rw [endP, if_pos ⟨h, h2⟩]
theorem endP_no {p : Int → Bool} {l : Bs} {i : Nat} (h2 : p (bt l i) = false) : endP p l i = i := by rw [endP, if_neg (by rw [h2]; simp)]
theorem endP_far {p : Int → Bool} {l : Bs} {i : Nat} (h : l.length ≤ i) : endP p l i = i := by rw [endP, if_neg (by omega)]
/-- Is it a bare word? -/
def bareB (l : Bs) : Bool := decide (l ≠ [] ∧ endP plK l 0 = l.length)
/-- A word as it is written. -/
def wd (l : Bs) : Bs := if bareB l = true then l else Tq.wr l
/-- The first so many words as a key. -/
def wkN (L : List Bs) : Nat → Bs
  | 0 => []
  | k + 1 => wkN L k ++ ((if k = 0 then [] else [46]) ++ wd (L.getD k []))
def wk (L : List Bs) : Bs := wkN L L.length

theorem ret_b {a b : Bool} (h : a = b) : (Ending.returned (.bool a)) = .returned (.bool b) := by rw [h]
theorem ret_i {a b : Int} (h : b = a) : (Ending.returned (.int .i64 a)) = .returned (.int .i64 b) := by rw [h]
theorem ret_s {a b : ByteArray} (h : a = b) : (Ending.returned (.string a)) = .returned (.string b) := by rw [h]
theorem inb_is {c : Int} {b : Bool} (w : World) (h : b = plK c) : Calls Tryd.prog 29 #[.int .u8 c] w fun e w' => e = .returned (.bool b) ∧ w = w' := by
  unfold plK at h
  rcases (show c ≤ 44 ∨ c = 45 ∨ 46 ≤ c ∧ c ≤ 47 ∨ 48 ≤ c ∧ c ≤ 57 ∨ 58 ≤ c ∧ c ≤ 64 ∨ 65 ≤ c ∧ c ≤ 90 ∨ 91 ≤ c ∧ c ≤ 94 ∨ c = 95 ∨ c = 96 ∨ 97 ≤ c ∧ c ≤ 122 ∨ 123 ≤ c by omega) with h0 | rfl | h0 | h0 | h0 | h0 | h0 | rfl | rfl | h0 | h0
  · have E := Lib.hid (show b = false by rw [h]; simp; omega)
    have g97 : ¬ 97 ≤ c := by omega
    have g65 : ¬ 65 ≤ c := by omega
    have g48 : ¬ 48 ≤ c := by omega
    have g122 : c ≤ 122 := by omega
    have g90 : c ≤ 90 := by omega
    have g57 : c ≤ 57 := by omega
    have d1 : (c == 95) = false := by simp; omega
    have d2 : (c == 45) = false := by simp; omega
    clear h h0
    go_enter Tryd.func29, Tryd.ntmps29
    go_wp2_with fail
    go_ret
    exact ⟨ret_b E.out.symm, rfl⟩
  · obtain rfl : b = true := h.trans (by decide)
    clear h
    go_enter Tryd.func29, Tryd.ntmps29
    go_wp2_with fail
    go_ret
    exact ⟨rfl, rfl⟩
  · have E := Lib.hid (show b = false by rw [h]; simp; omega)
    have g97 : ¬ 97 ≤ c := by omega
    have g65 : ¬ 65 ≤ c := by omega
    have g48 : ¬ 48 ≤ c := by omega
    have g122 : c ≤ 122 := by omega
    have g90 : c ≤ 90 := by omega
    have g57 : c ≤ 57 := by omega
    have d1 : (c == 95) = false := by simp; omega
    have d2 : (c == 45) = false := by simp; omega
    clear h h0
    go_enter Tryd.func29, Tryd.ntmps29
    go_wp2_with fail
    go_ret
    exact ⟨ret_b E.out.symm, rfl⟩
  · have E := Lib.hid (show b = true by rw [h]; simp; omega)
    have g97 : ¬ 97 ≤ c := by omega
    have g65 : ¬ 65 ≤ c := by omega
    have g48 : 48 ≤ c := by omega
    have g122 : c ≤ 122 := by omega
    have g90 : c ≤ 90 := by omega
    have g57 : c ≤ 57 := by omega
    have d1 : (c == 95) = false := by simp; omega
    have d2 : (c == 45) = false := by simp; omega
    clear h h0
    go_enter Tryd.func29, Tryd.ntmps29
    go_wp2_with fail
    go_ret
    exact ⟨ret_b E.out.symm, rfl⟩
  · have E := Lib.hid (show b = false by rw [h]; simp; omega)
    have g97 : ¬ 97 ≤ c := by omega
    have g65 : ¬ 65 ≤ c := by omega
    have g48 : 48 ≤ c := by omega
    have g122 : c ≤ 122 := by omega
    have g90 : c ≤ 90 := by omega
    have g57 : ¬ c ≤ 57 := by omega
    have d1 : (c == 95) = false := by simp; omega
    have d2 : (c == 45) = false := by simp; omega
    clear h h0
    go_enter Tryd.func29, Tryd.ntmps29
    go_wp2_with fail
    go_ret
    exact ⟨ret_b E.out.symm, rfl⟩
  · have E := Lib.hid (show b = true by rw [h]; simp; omega)
    have g97 : ¬ 97 ≤ c := by omega
    have g65 : 65 ≤ c := by omega
    have g48 : 48 ≤ c := by omega
    have g122 : c ≤ 122 := by omega
    have g90 : c ≤ 90 := by omega
    have g57 : ¬ c ≤ 57 := by omega
    have d1 : (c == 95) = false := by simp; omega
    have d2 : (c == 45) = false := by simp; omega
    clear h h0
    go_enter Tryd.func29, Tryd.ntmps29
    go_wp2_with fail
    go_ret
    exact ⟨ret_b E.out.symm, rfl⟩
  · have E := Lib.hid (show b = false by rw [h]; simp; omega)
    have g97 : ¬ 97 ≤ c := by omega
    have g65 : 65 ≤ c := by omega
    have g48 : 48 ≤ c := by omega
    have g122 : c ≤ 122 := by omega
    have g90 : ¬ c ≤ 90 := by omega
    have g57 : ¬ c ≤ 57 := by omega
    have d1 : (c == 95) = false := by simp; omega
    have d2 : (c == 45) = false := by simp; omega
    clear h h0
    go_enter Tryd.func29, Tryd.ntmps29
    go_wp2_with fail
    go_ret
    exact ⟨ret_b E.out.symm, rfl⟩
  · obtain rfl : b = true := h.trans (by decide)
    clear h
    go_enter Tryd.func29, Tryd.ntmps29
    go_wp2_with fail
    go_ret
    exact ⟨rfl, rfl⟩
  · obtain rfl : b = false := h.trans (by decide)
    clear h
    go_enter Tryd.func29, Tryd.ntmps29
    go_wp2_with fail
    go_ret
    exact ⟨rfl, rfl⟩
  · have E := Lib.hid (show b = true by rw [h]; simp; omega)
    have g97 : 97 ≤ c := by omega
    have g65 : 65 ≤ c := by omega
    have g48 : 48 ≤ c := by omega
    have g122 : c ≤ 122 := by omega
    have g90 : ¬ c ≤ 90 := by omega
    have g57 : ¬ c ≤ 57 := by omega
    have d1 : (c == 95) = false := by simp; omega
    have d2 : (c == 45) = false := by simp; omega
    clear h h0
    go_enter Tryd.func29, Tryd.ntmps29
    go_wp2_with fail
    go_ret
    exact ⟨ret_b E.out.symm, rfl⟩
  · have E := Lib.hid (show b = false by rw [h]; simp; omega)
    have g97 : 97 ≤ c := by omega
    have g65 : 65 ≤ c := by omega
    have g48 : 48 ≤ c := by omega
    have g122 : ¬ c ≤ 122 := by omega
    have g90 : ¬ c ≤ 90 := by omega
    have g57 : ¬ c ≤ 57 := by omega
    have d1 : (c == 95) = false := by simp; omega
    have d2 : (c == 45) = false := by simp; omega
    clear h h0
    go_enter Tryd.func29, Tryd.ntmps29
    go_wp2_with fail
    go_ret
    exact ⟨ret_b E.out.symm, rfl⟩
theorem blk_is {c : Int} {b : Bool} (w : World) (h : b = blK c) : Calls Tryd.prog 28 #[.int .u8 c] w fun e w' => e = .returned (.bool b) ∧ w = w' := by
  unfold blK at h
  by_cases h1 : c = 9
  · subst h1
    obtain rfl : b = true := h.trans (by decide)
    clear h
    go_enter Tryd.func28, Tryd.ntmps28
    go_wp2_with fail
    go_ret
    exact ⟨rfl, rfl⟩
  · by_cases h2 : c = 32
    · subst h2
      obtain rfl : b = true := h.trans (by decide)
      clear h h1
      go_enter Tryd.func28, Tryd.ntmps28
      go_wp2_with fail
      go_ret
      exact ⟨rfl, rfl⟩
    · have E := Lib.hid (show b = false by rw [h]; simp; omega)
      have d1 : (c == 9) = false := by simp [h1]
      have d2 : (c == 32) = false := by simp [h2]
      clear h h1 h2
      go_enter Tryd.func28, Tryd.ntmps28
      go_wp2_with fail
      go_ret
      exact ⟨ret_b E.out.symm, rfl⟩
set_option maxHeartbeats 2000000 in
set_option maxRecDepth 100000 in
theorem past_in {l : Bs} {s : ByteArray} (hs : s = txt l) (hl : l.length ≤ 1000000) {i : Nat} (hi : i ≤ l.length) (w : World) {I R : Int} (hI : I = i) (hR : R = (endP plK l i : Nat)) :
    Calls Tryd.prog 27 #[.string s, .int .i64 I, .func (.func 29) #[] #[]] w fun e w' => e = .returned (.int .i64 R) ∧ w = w' := by
  subst hI
  have HS := Lib.hid hs
  have HR := Lib.hid hR
  have HSZ := Lib.hid (show s.size = l.length by rw [hs, txt_size])
  have hsz : s.size ≤ 1000000 := by rw [hs, txt_size]; exact hl
  clear hs hR hl
  go_enter Tryd.func27, Tryd.ntmps27
  go_wp2_with fail
  go_loop [1] (fun a => ∃ k : Nat, k ≤ s.size ∧ a = .int .i64 k ∧ Hid (endP plK l k = endP plK l i)) (fun a => s.size - (intOf a).toNat)
  case atStart => exact ⟨i, by have := HSZ.out; omega, rfl, Lib.hid rfl⟩
  case round =>
    obtain ⟨k, hk, rfl, HE⟩ := hrel
    by_cases hlt : k < s.size
    · have hkl : k < l.length := by rw [← HSZ.out]; exact hlt
      have hx := txt_at HS.out (k := k)
      obtain ⟨y, HY⟩ : ∃ y, Hid (y = bt l k) := ⟨_, rfl⟩
      rw [← HY.out] at hx
      cases hb : plK (bt l k) with
      | false =>
        have HE2 := Lib.hid (show R = (k : Nat) by rw [HR.out, ← HE.out, endP_no hb])
        have HB := Lib.hid (show false = plK y by rw [HY.out]; exact hb.symm)
        clear hb hkl
        go_wp2_with fail
        refine (inb_is _ HB.out).mono ?_
        rintro e w1 ⟨rfl, rfl⟩
        go_wp2_with fail
        go_ret
        exact ⟨ret_i HE2.out, rfl⟩
      | true =>
        have HE2 := Lib.hid (show endP plK l (k + 1) = endP plK l i by rw [← HE.out, endP_on hkl hb])
        have HB := Lib.hid (show true = plK y by rw [HY.out]; exact hb.symm)
        clear hb hkl
        go_wp2_with fail
        refine (inb_is _ HB.out).mono ?_
        rintro e w1 ⟨rfl, rfl⟩
        go_wp2_with fail
        go_round
        case rel => exact ⟨k + 1, by omega, by go_num, HE2⟩
        case measure => simp [intOf]; omega
    · obtain rfl : k = s.size := by omega
      have HE2 := Lib.hid (show R = (s.size : Nat) by rw [HR.out, ← HE.out, endP_far (by rw [HSZ.out]; exact Nat.le_refl _)])
      go_wp2_with fail
      go_ret
      exact ⟨ret_i HE2.out, rfl⟩
set_option maxHeartbeats 2000000 in
set_option maxRecDepth 100000 in
theorem past_bl {l : Bs} {s : ByteArray} (hs : s = txt l) (hl : l.length ≤ 1000000) {i : Nat} (hi : i ≤ l.length) (w : World) {I R : Int} (hI : I = i) (hR : R = (endP blK l i : Nat)) :
    Calls Tryd.prog 27 #[.string s, .int .i64 I, .func (.func 28) #[] #[]] w fun e w' => e = .returned (.int .i64 R) ∧ w = w' := by
  subst hI
  have HS := Lib.hid hs
  have HR := Lib.hid hR
  have HSZ := Lib.hid (show s.size = l.length by rw [hs, txt_size])
  have hsz : s.size ≤ 1000000 := by rw [hs, txt_size]; exact hl
  clear hs hR hl
  go_enter Tryd.func27, Tryd.ntmps27
  go_wp2_with fail
  go_loop [1] (fun a => ∃ k : Nat, k ≤ s.size ∧ a = .int .i64 k ∧ Hid (endP blK l k = endP blK l i)) (fun a => s.size - (intOf a).toNat)
  case atStart => exact ⟨i, by have := HSZ.out; omega, rfl, Lib.hid rfl⟩
  case round =>
    obtain ⟨k, hk, rfl, HE⟩ := hrel
    by_cases hlt : k < s.size
    · have hkl : k < l.length := by rw [← HSZ.out]; exact hlt
      have hx := txt_at HS.out (k := k)
      obtain ⟨y, HY⟩ : ∃ y, Hid (y = bt l k) := ⟨_, rfl⟩
      rw [← HY.out] at hx
      cases hb : blK (bt l k) with
      | false =>
        have HE2 := Lib.hid (show R = (k : Nat) by rw [HR.out, ← HE.out, endP_no hb])
        have HB := Lib.hid (show false = blK y by rw [HY.out]; exact hb.symm)
        clear hb hkl
        go_wp2_with fail
        refine (blk_is _ HB.out).mono ?_
        rintro e w1 ⟨rfl, rfl⟩
        go_wp2_with fail
        go_ret
        exact ⟨ret_i HE2.out, rfl⟩
      | true =>
        have HE2 := Lib.hid (show endP blK l (k + 1) = endP blK l i by rw [← HE.out, endP_on hkl hb])
        have HB := Lib.hid (show true = blK y by rw [HY.out]; exact hb.symm)
        clear hb hkl
        go_wp2_with fail
        refine (blk_is _ HB.out).mono ?_
        rintro e w1 ⟨rfl, rfl⟩
        go_wp2_with fail
        go_round
        case rel => exact ⟨k + 1, by omega, by go_num, HE2⟩
        case measure => simp [intOf]; omega
    · obtain rfl : k = s.size := by omega
      have HE2 := Lib.hid (show R = (s.size : Nat) by rw [HR.out, ← HE.out, endP_far (by rw [HSZ.out]; exact Nat.le_refl _)])
      go_wp2_with fail
      go_ret
      exact ⟨ret_i HE2.out, rfl⟩
set_option maxHeartbeats 2000000 in
set_option maxRecDepth 100000 in
theorem bare_any {l : Bs} {s : ByteArray} (hs : s = txt l) (hl : l.length ≤ 1000000) (w : World) {b : Bool} (hb : b = bareB l) :
    Calls Tryd.prog 14 #[.string s] w fun e w' => e = .returned (.bool b) ∧ w = w' := by
  have HC := Lib.hid (fun (R : Int) (hR : R = (endP plK l 0 : Nat)) => past_in hs hl (i := 0) (Nat.zero_le _) w (I := 0) rfl hR)
  have HB := Lib.hid hb
  by_cases h0 : l = []
  · subst h0
    subst hs
    obtain rfl : b = false := hb.trans (by simp [bareB])
    clear hb HC
    go_enter Tryd.func14, Tryd.ntmps14
    unfold txt
    go_wp2_with fail
    go_ret
    exact ⟨rfl, rfl⟩
  · have h1 : (s.toList == []) = false := by rw [hs, txt_list, beq_eq_false_iff_ne]; exact h0
    obtain ⟨R, hR⟩ : ∃ R : Nat, R = endP plK l 0 := ⟨_, rfl⟩
    have HS := Lib.hid (show s.size = l.length by rw [hs, txt_size])
    have C := Lib.hid (HC.out R (by rw [hR]))
    have HR := Lib.hid hR
    have HZ := Lib.hid h0
    have hsz : s.size ≤ 1000000 := by rw [hs, txt_size]; exact hl
    clear hs hl hb h0 HC hR
    by_cases h2 : R = s.size
    · obtain rfl : b = true := HB.out.trans (decide_eq_true ⟨HZ.out, by rw [← HR.out, h2, HS.out]⟩)
      subst h2
      go_enter Tryd.func14, Tryd.ntmps14
      go_wp2_with fail
      refine C.out.mono ?_
      rintro e w1 ⟨rfl, rfl⟩
      go_wp2_with fail
      go_ret
      exact ⟨rfl, rfl⟩
    · obtain rfl : b = false := HB.out.trans (decide_eq_false fun h => h2 (by rw [HR.out, HS.out]; exact h.2))
      have h3 : ((R : Int) == s.size) = false := by rw [beq_eq_false_iff_ne]; omega
      have h4 : (R == s.size) = false := by rw [beq_eq_false_iff_ne]; exact h2
      go_enter Tryd.func14, Tryd.ntmps14
      go_wp2_with fail
      refine C.out.mono ?_
      rintro e w1 ⟨rfl, rfl⟩
      go_wp2_with fail
      go_ret
      exact ⟨rfl, rfl⟩
end Ty
end Go.Proofs.YtpdaelcoiilkkaaDoor
