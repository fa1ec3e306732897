/- How many bytes the rune has that bytes begin with: the program's way, and the document's. -/
import Derived.Test.YtllnnogdpagioaaDoorSmall
import Derived.Test.YtllnnogdpagioaaDoorMem
namespace Go.Proofs.YtllnnogdpagioaaDoor
open Go.RowKit

/-- How many bytes the rune has that these begin with; 0: none does. -/
def lng (l : List UInt8) : Nat :=
  if l.length = 0 then 0
  else if bhd (bt l 0) = 0 then 1
  else if bhd (bt l 0) = 1 then (if 1 < l.length ∧ wth (bt l 1) (lo1 (bt l 0)) (hi1 (bt l 0)) = true then 2 else 0)
  else if bhd (bt l 0) = 2 then (if 2 < l.length ∧ wth (bt l 1) (lo1 (bt l 0)) (hi1 (bt l 0)) = true ∧ wth (bt l 2) 128 191 = true then 3 else 0)
  else if bhd (bt l 0) = 3 then (if 3 < l.length ∧ wth (bt l 1) (lo1 (bt l 0)) (hi1 (bt l 0)) = true ∧ wth (bt l 2) 128 191 = true ∧ wth (bt l 3) 128 191 = true then 4 else 0)
  else 0

theorem lng_none {l : List UInt8} (h : bhd (bt l 0) = -1) : lng l = 0 := by simp [lng, h]
theorem lng_0 {l : List UInt8} (hl : 0 < l.length) (h : bhd (bt l 0) = 0) : lng l = 1 := by
  have : l.length ≠ 0 := by omega
  simp only [lng, h, this, if_false, if_true]
theorem lng_short {l : List UInt8} {k : Nat} (hl : l.length ≤ k) (h : bhd (bt l 0) = k) : lng l = 0 := by
  unfold lng
  rw [h]
  have e1 : (k : Int) = 0 → l.length = 0 := by omega
  have e2 : (k : Int) = 1 → ¬ 1 < l.length := by omega
  have e3 : (k : Int) = 2 → ¬ 2 < l.length := by omega
  have e4 : (k : Int) = 3 → ¬ 3 < l.length := by omega
  repeat' split
  all_goals first | rfl | omega
theorem lng_1 {l : List UInt8} (hl : 1 < l.length) (h : bhd (bt l 0) = 1) : lng l = if wth (bt l 1) (lo1 (bt l 0)) (hi1 (bt l 0)) = true then 2 else 0 := by
  have : l.length ≠ 0 := by omega
  simp only [lng, h, this, hl, if_false, if_true, true_and]; simp
theorem lng_2 {l : List UInt8} (hl : 2 < l.length) (h : bhd (bt l 0) = 2) : lng l = if wth (bt l 1) (lo1 (bt l 0)) (hi1 (bt l 0)) = true ∧ wth (bt l 2) 128 191 = true then 3 else 0 := by
  have : l.length ≠ 0 := by omega
  simp only [lng, h, this, hl, if_false, if_true, true_and]; simp
theorem lng_3 {l : List UInt8} (hl : 3 < l.length) (h : bhd (bt l 0) = 3) : lng l = if wth (bt l 1) (lo1 (bt l 0)) (hi1 (bt l 0)) = true ∧ wth (bt l 2) 128 191 = true ∧ wth (bt l 3) 128 191 = true then 4 else 0 := by
  have : l.length ≠ 0 := by omega
  simp only [lng, h, this, hl, if_false, if_true, true_and]; simp
theorem bhd_cases (c : Int) : bhd c = -1 ∨ bhd c = 0 ∨ bhd c = 1 ∨ bhd c = 2 ∨ bhd c = 3 := by
  unfold bhd; repeat' split
  all_goals simp

theorem behind_is {c k : Int} (h : bhd c = k) (w : World) : Calls Tryd.prog 36 #[.int .u8 c] w fun e w' => e = .returned (.int .i64 k) ∧ w = w' := h ▸ behind_any c w

section
variable (l : List UInt8) (b off c : Nat) (w : World) (hc : ∀ k, k < l.length → w.cell? ⟨b, off + k, none⟩ = some (.int .u8 (bt l k))) (hm : l.length ≤ maxLen)
include hc hm
set_option maxHeartbeats 1000000 in
theorem long_3 (hl : 3 < l.length) (h : bhd (bt l 0) = 3) :
    Calls Tryd.prog 26 #[.slice (some ⟨b, off, none⟩) l.length c] w fun e w' => e = .returned (.int .i64 (lng l)) ∧ w = w' := by
  have c0 : w.cell? ⟨b, off, none⟩ = some (.int .u8 (bt l 0)) := hc 0 (by omega)
  have c1 := hc 1 (by omega)
  have c2 := hc 2 (by omega)
  have c3 := hc 3 hl
  have E := Lib.hid (lng_3 hl h)
  have H := Lib.hid h
  clear h hc
  unfold maxLen at hm
  go_enter Tryd.func26, Tryd.ntmps26
  go_wp2_with (first
    | (go_at_call 36; refine (behind_is H.out _).mono ?_; rintro e w' ⟨rfl, rfl⟩)
    | (go_at_call 37; refine (within_any _ _ _ _).mono ?_; rintro e w' ⟨rfl, rfl⟩)
    | (go_at_call 38; refine (second_any _ _).mono ?_; rintro e w' ⟨rfl, rfl⟩))
  · go_ret; exact ⟨ret_int (by rw [E.out]; simp_all), rfl⟩
  · go_ret; exact ⟨ret_int (by rw [E.out]; simp_all), rfl⟩
  · go_ret; exact ⟨ret_int (by rw [E.out]; simp_all), rfl⟩
  · go_ret; exact ⟨ret_int (by rw [E.out]; simp_all), rfl⟩
set_option maxHeartbeats 1000000 in
theorem long_2 (hl : 2 < l.length) (h : bhd (bt l 0) = 2) :
    Calls Tryd.prog 26 #[.slice (some ⟨b, off, none⟩) l.length c] w fun e w' => e = .returned (.int .i64 (lng l)) ∧ w = w' := by
  have c0 : w.cell? ⟨b, off, none⟩ = some (.int .u8 (bt l 0)) := hc 0 (by omega)
  have c1 := hc 1 (by omega)
  have c2 := hc 2 (by omega)
  have E := Lib.hid (lng_2 hl h)
  have H := Lib.hid h
  clear h hc
  unfold maxLen at hm
  go_enter Tryd.func26, Tryd.ntmps26
  go_wp2_with (first
    | (go_at_call 36; refine (behind_is H.out _).mono ?_; rintro e w' ⟨rfl, rfl⟩)
    | (go_at_call 37; refine (within_any _ _ _ _).mono ?_; rintro e w' ⟨rfl, rfl⟩)
    | (go_at_call 38; refine (second_any _ _).mono ?_; rintro e w' ⟨rfl, rfl⟩))
  · go_ret; exact ⟨ret_int (by rw [E.out]; simp_all), rfl⟩
  · go_ret; exact ⟨ret_int (by rw [E.out]; simp_all), rfl⟩
  · go_ret; exact ⟨ret_int (by rw [E.out]; simp_all), rfl⟩
set_option maxHeartbeats 1000000 in
theorem long_1 (hl : 1 < l.length) (h : bhd (bt l 0) = 1) :
    Calls Tryd.prog 26 #[.slice (some ⟨b, off, none⟩) l.length c] w fun e w' => e = .returned (.int .i64 (lng l)) ∧ w = w' := by
  have c0 : w.cell? ⟨b, off, none⟩ = some (.int .u8 (bt l 0)) := hc 0 (by omega)
  have c1 := hc 1 (by omega)
  have E := Lib.hid (lng_1 hl h)
  have H := Lib.hid h
  clear h hc
  unfold maxLen at hm
  go_enter Tryd.func26, Tryd.ntmps26
  go_wp2_with (first
    | (go_at_call 36; refine (behind_is H.out _).mono ?_; rintro e w' ⟨rfl, rfl⟩)
    | (go_at_call 37; refine (within_any _ _ _ _).mono ?_; rintro e w' ⟨rfl, rfl⟩)
    | (go_at_call 38; refine (second_any _ _).mono ?_; rintro e w' ⟨rfl, rfl⟩))
  · go_ret; exact ⟨ret_int (by rw [E.out]; simp_all), rfl⟩
  · go_ret; exact ⟨ret_int (by rw [E.out]; simp_all), rfl⟩
set_option maxHeartbeats 1000000 in
theorem long_0 (hl : 0 < l.length) (h : bhd (bt l 0) = 0) :
    Calls Tryd.prog 26 #[.slice (some ⟨b, off, none⟩) l.length c] w fun e w' => e = .returned (.int .i64 (lng l)) ∧ w = w' := by
  have c0 : w.cell? ⟨b, off, none⟩ = some (.int .u8 (bt l 0)) := hc 0 (by omega)
  have E := Lib.hid (lng_0 hl h)
  have hne : ¬ l = [] := by rintro rfl; simp at hl
  have H := Lib.hid h
  clear h hc
  unfold maxLen at hm
  go_enter Tryd.func26, Tryd.ntmps26
  go_wp2_with (first
    | (go_at_call 36; refine (behind_is H.out _).mono ?_; rintro e w' ⟨rfl, rfl⟩)
    | (go_at_call 37; refine (within_any _ _ _ _).mono ?_; rintro e w' ⟨rfl, rfl⟩)
    | (go_at_call 38; refine (second_any _ _).mono ?_; rintro e w' ⟨rfl, rfl⟩))
  go_ret; exact ⟨ret_int (by rw [E.out]; rfl), rfl⟩
omit hm in
theorem long_none (hl : 0 < l.length) (h : bhd (bt l 0) = -1) :
    Calls Tryd.prog 26 #[.slice (some ⟨b, off, none⟩) l.length c] w fun e w' => e = .returned (.int .i64 (lng l)) ∧ w = w' := by
  have c0 : w.cell? ⟨b, off, none⟩ = some (.int .u8 (bt l 0)) := hc 0 (by omega)
  have E := Lib.hid (lng_none h)
  have H := Lib.hid h
  clear h hc
  go_enter Tryd.func26, Tryd.ntmps26
  go_wp2_with (first
    | (go_at_call 36; refine (behind_is H.out _).mono ?_; rintro e w' ⟨rfl, rfl⟩)
    | (go_at_call 37; refine (within_any _ _ _ _).mono ?_; rintro e w' ⟨rfl, rfl⟩)
    | (go_at_call 38; refine (second_any _ _).mono ?_; rintro e w' ⟨rfl, rfl⟩))
  go_ret; exact ⟨ret_int (by rw [E.out]; rfl), rfl⟩
omit hm in
theorem long_short (hl : 0 < l.length) (k : Nat) (hk : l.length ≤ k) (h : bhd (bt l 0) = k) :
    Calls Tryd.prog 26 #[.slice (some ⟨b, off, none⟩) l.length c] w fun e w' => e = .returned (.int .i64 (lng l)) ∧ w = w' := by
  have c0 : w.cell? ⟨b, off, none⟩ = some (.int .u8 (bt l 0)) := hc 0 (by omega)
  have E := Lib.hid (lng_short hk h)
  have H := Lib.hid h
  clear h hc
  go_enter Tryd.func26, Tryd.ntmps26
  go_wp2_with (first
    | (go_at_call 36; refine (behind_is H.out _).mono ?_; rintro e w' ⟨rfl, rfl⟩)
    | (go_at_call 37; refine (within_any _ _ _ _).mono ?_; rintro e w' ⟨rfl, rfl⟩)
    | (go_at_call 38; refine (second_any _ _).mono ?_; rintro e w' ⟨rfl, rfl⟩))
  go_ret; exact ⟨ret_int (by rw [E.out]; rfl), rfl⟩
end
/-- utf8s.long, of bytes of which there is one at least. -/
theorem long_any {l : List UInt8} {B : Nat} {A : Option Addr} (n c : Nat) {w : World} (hn : n = l.length) (hA : Byt w B A l) (hl : 0 < l.length) (hm : l.length ≤ maxLen) :
    Calls Tryd.prog 26 #[.slice A n c] w fun e w' => e = .returned (.int .i64 (lng l)) ∧ w = w' := by
  subst hn
  obtain ⟨b, off, rfl, _, hc⟩ := hA.at_ hl
  rcases bhd_cases (bt l 0) with h | h | h | h | h
  · exact long_none l b off c w hc hl h
  · exact long_0 l b off c w hc hm hl h
  · by_cases hk : l.length ≤ 1
    · exact long_short l b off c w hc hl 1 hk h
    · exact long_1 l b off c w hc hm (by omega) h
  · by_cases hk : l.length ≤ 2
    · exact long_short l b off c w hc hl 2 hk h
    · exact long_2 l b off c w hc hm (by omega) h
  · by_cases hk : l.length ≤ 3
    · exact long_short l b off c w hc hl 3 hk h
    · exact long_3 l b off c w hc hm (by omega) h
end Go.Proofs.YtllnnogdpagioaaDoor
