/- The small functions of utf8s: what each answers, for every argument of its type. -/
import Derived.Test.YtggeiajbcehkjaaGreatDoorProg
import Derived.WalkKit
import Derived.WalkSpells
import Derived.Lib.Hide
import Derived.Test.YtggeiajbcehkjaaGreatDoorGaa
import Derived.LoopTactic
import Derived.Outline
namespace Go.Proofs.YtggeiajbcehkjaaGreatDoor.U8
open Go.RowKit

theorem ret_int {k : IntKind} {a b : Int} (h : a = b) : Ending.returned (.int k a) = .returned (.int k b) := by rw [h]
theorem ret_bool {a b : Bool} (h : a = b) : Ending.returned (.bool a) = .returned (.bool b) := by rw [h]

theorem ret_ib {k : IntKind} {a b : Int} {p q : Bool} (h : a = b) (h' : p = q) : Ending.returned (.tuple #[.int k a, .bool p]) = .returned (.tuple #[.int k b, .bool q]) := by rw [h, h']
/-- Is it within? -/
def wth (c l g : Int) : Bool := decide (l ≤ c) && decide (c ≤ g)
theorem within_any (c l g : Int) (w : World) : Calls Tryz.prog 102 #[.int .u8 c, .int .u8 l, .int .u8 g] w fun e w' => e = .returned (.bool (wth c l g)) ∧ w = w' := by
  by_cases h1 : l ≤ c
  · by_cases h2 : c ≤ g
    · go_enter Tryz.func102, Tryz.ntmps102
      go_wp2
      go_ret
      exact ⟨ret_bool (by simp [wth, h1, h2]), rfl⟩
    · go_enter Tryz.func102, Tryz.ntmps102
      go_wp2
      go_ret
      exact ⟨ret_bool (by simp [wth, h2]), rfl⟩
  · go_enter Tryz.func102, Tryz.ntmps102
    go_wp2
    go_ret
    exact ⟨ret_bool (by simp [wth]; omega), rfl⟩

/-- How many bytes stand behind a first one; -1: it is none. -/
def bhd (c : Int) : Int := if wth c 0 127 then 0 else if wth c 194 223 then 1 else if wth c 224 239 then 2 else if wth c 240 244 then 3 else -1
theorem behind_any (c : Int) (w : World) : Calls Tryz.prog 101 #[.int .u8 c] w fun e w' => e = .returned (.int .i64 (bhd c)) ∧ w = w' := by
  by_cases h1 : wth c 0 127 = true
  · go_enter Tryz.func101, Tryz.ntmps101
    go_wp2_with (go_at_call 102; refine (within_any _ _ _ _).mono ?_; rintro e w' ⟨rfl, rfl⟩)
    go_ret
    exact ⟨ret_int (by simp [bhd, h1]), rfl⟩
  by_cases h2 : wth c 194 223 = true
  · go_enter Tryz.func101, Tryz.ntmps101
    go_wp2_with (go_at_call 102; refine (within_any _ _ _ _).mono ?_; rintro e w' ⟨rfl, rfl⟩)
    go_ret
    exact ⟨ret_int (by simp [bhd, h1, h2]), rfl⟩
  by_cases h3 : wth c 224 239 = true
  · go_enter Tryz.func101, Tryz.ntmps101
    go_wp2_with (go_at_call 102; refine (within_any _ _ _ _).mono ?_; rintro e w' ⟨rfl, rfl⟩)
    go_ret
    exact ⟨ret_int (by simp [bhd, h1, h2, h3]), rfl⟩
  by_cases h4 : wth c 240 244 = true
  · go_enter Tryz.func101, Tryz.ntmps101
    go_wp2_with (go_at_call 102; refine (within_any _ _ _ _).mono ?_; rintro e w' ⟨rfl, rfl⟩)
    go_ret
    exact ⟨ret_int (by simp [bhd, h1, h2, h3, h4]), rfl⟩
  · go_enter Tryz.func101, Tryz.ntmps101
    go_wp2_with (go_at_call 102; refine (within_any _ _ _ _).mono ?_; rintro e w' ⟨rfl, rfl⟩)
    go_ret
    exact ⟨ret_int (by simp [bhd, h1, h2, h3, h4]), rfl⟩

/-- The bounds of the byte behind a first one. -/
def lo1 (c : Int) : Int := if c = 224 then 160 else if c = 240 then 144 else 128
def hi1 (c : Int) : Int := if c = 237 then 159 else if c = 244 then 143 else 191
theorem second_any (c : Int) (w : World) : Calls Tryz.prog 103 #[.int .u8 c] w fun e w' => e = .returned (.tuple #[.int .u8 (lo1 c), .int .u8 (hi1 c)]) ∧ w = w' := by
  by_cases h1 : c = 224
  · subst h1
    go_enter Tryz.func103, Tryz.ntmps103
    go_wp2
    go_ret2
    exact ⟨rfl, rfl⟩
  by_cases h2 : c = 237
  · subst h2
    go_enter Tryz.func103, Tryz.ntmps103
    go_wp2
    go_ret2
    exact ⟨rfl, rfl⟩
  by_cases h3 : c = 240
  · subst h3
    go_enter Tryz.func103, Tryz.ntmps103
    go_wp2
    go_ret2
    exact ⟨rfl, rfl⟩
  by_cases h4 : c = 244
  · subst h4
    go_enter Tryz.func103, Tryz.ntmps103
    go_wp2
    go_ret2
    exact ⟨rfl, rfl⟩
  · have e1 : lo1 c = 128 := by simp [lo1, h1, h3]
    have e2 : hi1 c = 191 := by simp [hi1, h2, h4]
    rw [e1, e2]
    clear e1 e2
    go_enter Tryz.func103, Tryz.ntmps103
    go_wp2
    go_ret2
    exact ⟨rfl, rfl⟩

end Go.Proofs.YtggeiajbcehkjaaGreatDoor.U8
/- How many bytes the rune has that bytes begin with: the program's way, and the document's. -/
namespace Go.Proofs.YtggeiajbcehkjaaGreatDoor.U8
open Go.RowKit

/-- How many bytes the rune has that these begin with; 0: none does. -/
def lng (l : List UInt8) : Nat :=
  if l.length = 0 then 0
  else if bhd (bt l 0) = 0 then 1
  else if bhd (bt l 0) = 1 then (if 1 < l.length ∧ wth (bt l 1) (lo1 (bt l 0)) (hi1 (bt l 0)) = true then 2 else 0)
  else if bhd (bt l 0) = 2 then (if 2 < l.length ∧ wth (bt l 1) (lo1 (bt l 0)) (hi1 (bt l 0)) = true ∧ wth (bt l 2) 128 191 = true then 3 else 0)
  else if bhd (bt l 0) = 3 then (if 3 < l.length ∧ wth (bt l 1) (lo1 (bt l 0)) (hi1 (bt l 0)) = true ∧ wth (bt l 2) 128 191 = true ∧ wth (bt l 3) 128 191 = true then 4 else 0)
  else 0

theorem lng_none {l : List UInt8} (h : bhd (bt l 0) = -1) : lng l = 0 := by simp [lng, h]
theorem lng_0 {l : List UInt8} (hl : 0 < l.length) (h : bhd (bt l 0) = 0) : lng l = 1 := by
  have : l.length ≠ 0 := by omega
  simp only [lng, h, this, if_false, if_true]
theorem lng_short {l : List UInt8} {k : Nat} (hl : l.length ≤ k) (h : bhd (bt l 0) = k) : lng l = 0 := by
  unfold lng
  rw [h]
  have e1 : (k : Int) = 0 → l.length = 0 := by omega
  have e2 : (k : Int) = 1 → ¬ 1 < l.length := by omega
  have e3 : (k : Int) = 2 → ¬ 2 < l.length := by omega
  have e4 : (k : Int) = 3 → ¬ 3 < l.length := by omega
  repeat' split
  all_goals first | rfl | omega
theorem lng_1 {l : List UInt8} (hl : 1 < l.length) (h : bhd (bt l 0) = 1) : lng l = if wth (bt l 1) (lo1 (bt l 0)) (hi1 (bt l 0)) = true then 2 else 0 := by
  have : l.length ≠ 0 := by omega
  simp only [lng, h, this, hl, if_false, if_true, true_and]; simp
theorem lng_2 {l : List UInt8} (hl : 2 < l.length) (h : bhd (bt l 0) = 2) : lng l = if wth (bt l 1) (lo1 (bt l 0)) (hi1 (bt l 0)) = true ∧ wth (bt l 2) 128 191 = true then 3 else 0 := by
  have : l.length ≠ 0 := by omega
  simp only [lng, h, this, hl, if_false, if_true, true_and]; simp
theorem lng_3 {l : List UInt8} (hl : 3 < l.length) (h : bhd (bt l 0) = 3) : lng l = if wth (bt l 1) (lo1 (bt l 0)) (hi1 (bt l 0)) = true ∧ wth (bt l 2) 128 191 = true ∧ wth (bt l 3) 128 191 = true then 4 else 0 := by
  have : l.length ≠ 0 := by omega
  simp only [lng, h, this, hl, if_false, if_true, true_and]; simp
theorem bhd_cases (c : Int) : bhd c = -1 ∨ bhd c = 0 ∨ bhd c = 1 ∨ bhd c = 2 ∨ bhd c = 3 := by
  unfold bhd; repeat' split
  all_goals simp

theorem behind_is {c k : Int} (h : bhd c = k) (w : World) : Calls Tryz.prog 101 #[.int .u8 c] w fun e w' => e = .returned (.int .i64 k) ∧ w = w' := h ▸ behind_any c w

section
variable (l : List UInt8) (b off c : Nat) (w : World) (hc : ∀ k, k < l.length → w.cell? ⟨b, off + k, none⟩ = some (.int .u8 (bt l k))) (hm : l.length ≤ maxLen)
include hc hm
set_option maxHeartbeats 1000000 in
theorem long_3 (hl : 3 < l.length) (h : bhd (bt l 0) = 3) :
    Calls Tryz.prog 77 #[.slice (some ⟨b, off, none⟩) l.length c] w fun e w' => e = .returned (.int .i64 (lng l)) ∧ w = w' := by
  have c0 : w.cell? ⟨b, off, none⟩ = some (.int .u8 (bt l 0)) := hc 0 (by omega)
  have c1 := hc 1 (by omega)
  have c2 := hc 2 (by omega)
  have c3 := hc 3 hl
  have E := Lib.hid (lng_3 hl h)
  have H := Lib.hid h
  clear h hc
  unfold maxLen at hm
  go_enter Tryz.func77, Tryz.ntmps77
  go_wp2_with (first
    | (go_at_call 101; refine (behind_is H.out _).mono ?_; rintro e w' ⟨rfl, rfl⟩)
    | (go_at_call 102; refine (within_any _ _ _ _).mono ?_; rintro e w' ⟨rfl, rfl⟩)
    | (go_at_call 103; refine (second_any _ _).mono ?_; rintro e w' ⟨rfl, rfl⟩))
  · go_ret; exact ⟨ret_int (by rw [E.out]; simp_all), rfl⟩
  · go_ret; exact ⟨ret_int (by rw [E.out]; simp_all), rfl⟩
  · go_ret; exact ⟨ret_int (by rw [E.out]; simp_all), rfl⟩
  · go_ret; exact ⟨ret_int (by rw [E.out]; simp_all), rfl⟩
set_option maxHeartbeats 1000000 in
theorem long_2 (hl : 2 < l.length) (h : bhd (bt l 0) = 2) :
    Calls Tryz.prog 77 #[.slice (some ⟨b, off, none⟩) l.length c] w fun e w' => e = .returned (.int .i64 (lng l)) ∧ w = w' := by
  have c0 : w.cell? ⟨b, off, none⟩ = some (.int .u8 (bt l 0)) := hc 0 (by omega)
  have c1 := hc 1 (by omega)
  have c2 := hc 2 (by omega)
  have E := Lib.hid (lng_2 hl h)
  have H := Lib.hid h
  clear h hc
  unfold maxLen at hm
  go_enter Tryz.func77, Tryz.ntmps77
  go_wp2_with (first
    | (go_at_call 101; refine (behind_is H.out _).mono ?_; rintro e w' ⟨rfl, rfl⟩)
    | (go_at_call 102; refine (within_any _ _ _ _).mono ?_; rintro e w' ⟨rfl, rfl⟩)
    | (go_at_call 103; refine (second_any _ _).mono ?_; rintro e w' ⟨rfl, rfl⟩))
  · go_ret; exact ⟨ret_int (by rw [E.out]; simp_all), rfl⟩
  · go_ret; exact ⟨ret_int (by rw [E.out]; simp_all), rfl⟩
  · go_ret; exact ⟨ret_int (by rw [E.out]; simp_all), rfl⟩
set_option maxHeartbeats 1000000 in
theorem long_1 (hl : 1 < l.length) (h : bhd (bt l 0) = 1) :
    Calls Tryz.prog 77 #[.slice (some ⟨b, off, none⟩) l.length c] w fun e w' => e = .returned (.int .i64 (lng l)) ∧ w = w' := by
  have c0 : w.cell? ⟨b, off, none⟩ = some (.int .u8 (bt l 0)) := hc 0 (by omega)
  have c1 := hc 1 (by omega)
  have E := Lib.hid (lng_1 hl h)
  have H := Lib.hid h
  clear h hc
  unfold maxLen at hm
  go_enter Tryz.func77, Tryz.ntmps77
  go_wp2_with (first
    | (go_at_call 101; refine (behind_is H.out _).mono ?_; rintro e w' ⟨rfl, rfl⟩)
    | (go_at_call 102; refine (within_any _ _ _ _).mono ?_; rintro e w' ⟨rfl, rfl⟩)
    | (go_at_call 103; refine (second_any _ _).mono ?_; rintro e w' ⟨rfl, rfl⟩))
  · go_ret; exact ⟨ret_int (by rw [E.out]; simp_all), rfl⟩
  · go_ret; exact ⟨ret_int (by rw [E.out]; simp_all), rfl⟩
set_option maxHeartbeats 1000000 in
theorem long_0 (hl : 0 < l.length) (h : bhd (bt l 0) = 0) :
    Calls Tryz.prog 77 #[.slice (some ⟨b, off, none⟩) l.length c] w fun e w' => e = .returned (.int .i64 (lng l)) ∧ w = w' := by
  have c0 : w.cell? ⟨b, off, none⟩ = some (.int .u8 (bt l 0)) := hc 0 (by omega)
  have E := Lib.hid (lng_0 hl h)
  have hne : ¬ l = [] := by rintro rfl; simp at hl
  have H := Lib.hid h
  clear h hc
  unfold maxLen at hm
  go_enter Tryz.func77, Tryz.ntmps77
  go_wp2_with (first
    | (go_at_call 101; refine (behind_is H.out _).mono ?_; rintro e w' ⟨rfl, rfl⟩)
    | (go_at_call 102; refine (within_any _ _ _ _).mono ?_; rintro e w' ⟨rfl, rfl⟩)
    | (go_at_call 103; refine (second_any _ _).mono ?_; rintro e w' ⟨rfl, rfl⟩))
  go_ret; exact ⟨ret_int (by rw [E.out]; rfl), rfl⟩
omit hm in
theorem long_none (hl : 0 < l.length) (h : bhd (bt l 0) = -1) :
    Calls Tryz.prog 77 #[.slice (some ⟨b, off, none⟩) l.length c] w fun e w' => e = .returned (.int .i64 (lng l)) ∧ w = w' := by
  have c0 : w.cell? ⟨b, off, none⟩ = some (.int .u8 (bt l 0)) := hc 0 (by omega)
  have E := Lib.hid (lng_none h)
  have H := Lib.hid h
  clear h hc
  go_enter Tryz.func77, Tryz.ntmps77
  go_wp2_with (first
    | (go_at_call 101; refine (behind_is H.out _).mono ?_; rintro e w' ⟨rfl, rfl⟩)
    | (go_at_call 102; refine (within_any _ _ _ _).mono ?_; rintro e w' ⟨rfl, rfl⟩)
    | (go_at_call 103; refine (second_any _ _).mono ?_; rintro e w' ⟨rfl, rfl⟩))
  go_ret; exact ⟨ret_int (by rw [E.out]; rfl), rfl⟩
omit hm in
theorem long_short (hl : 0 < l.length) (k : Nat) (hk : l.length ≤ k) (h : bhd (bt l 0) = k) :
    Calls Tryz.prog 77 #[.slice (some ⟨b, off, none⟩) l.length c] w fun e w' => e = .returned (.int .i64 (lng l)) ∧ w = w' := by
  have c0 : w.cell? ⟨b, off, none⟩ = some (.int .u8 (bt l 0)) := hc 0 (by omega)
  have E := Lib.hid (lng_short hk h)
  have H := Lib.hid h
  clear h hc
  go_enter Tryz.func77, Tryz.ntmps77
  go_wp2_with (first
    | (go_at_call 101; refine (behind_is H.out _).mono ?_; rintro e w' ⟨rfl, rfl⟩)
    | (go_at_call 102; refine (within_any _ _ _ _).mono ?_; rintro e w' ⟨rfl, rfl⟩)
    | (go_at_call 103; refine (second_any _ _).mono ?_; rintro e w' ⟨rfl, rfl⟩))
  go_ret; exact ⟨ret_int (by rw [E.out]; rfl), rfl⟩
end
/-- utf8s.long, of bytes of which there is one at least. -/
theorem long_any {l : List UInt8} {B : Nat} {A : Option Addr} (n c : Nat) {w : World} (hn : n = l.length) (hA : Byt w B A l) (hl : 0 < l.length) (hm : l.length ≤ maxLen) :
    Calls Tryz.prog 77 #[.slice A n c] w fun e w' => e = .returned (.int .i64 (lng l)) ∧ w = w' := by
  subst hn
  obtain ⟨b, off, rfl, _, hc⟩ := hA.at_ hl
  rcases bhd_cases (bt l 0) with h | h | h | h | h
  · exact long_none l b off c w hc hl h
  · exact long_0 l b off c w hc hm hl h
  · by_cases hk : l.length ≤ 1
    · exact long_short l b off c w hc hl 1 hk h
    · exact long_1 l b off c w hc hm (by omega) h
  · by_cases hk : l.length ≤ 2
    · exact long_short l b off c w hc hl 2 hk h
    · exact long_2 l b off c w hc hm (by omega) h
  · by_cases hk : l.length ≤ 3
    · exact long_short l b off c w hc hl 3 hk h
    · exact long_3 l b off c w hc hm (by omega) h
end Go.Proofs.YtggeiajbcehkjaaGreatDoor.U8
/- Where the first wrong byte is; the program's Check. -/
namespace Go.Proofs.YtggeiajbcehkjaaGreatDoor.U8
open Go.RowKit

theorem lng_le (l : List UInt8) : lng l ≤ l.length := by unfold lng; repeat' split
                                                         all_goals omega
theorem lng_nil : lng [] = 0 := rfl

/-- The first wrong byte's place; behind the last byte, if there is none. -/
def scn (l : List UInt8) : Nat := if lng l = 0 then 0 else lng l + scn (l.drop (lng l))
termination_by l.length
decreasing_by have := lng_le l; simp; omega
theorem scn_stop {l : List UInt8} (h : lng l = 0) : scn l = 0 := by rw [scn, if_pos h]
theorem scn_step {l : List UInt8} (h : lng l ≠ 0) : scn l = lng l + scn (l.drop (lng l)) := by rw [scn, if_neg h]
def chkAt (l : List UInt8) : Int := if scn l = l.length then 0 else scn l
def chkOk (l : List UInt8) : Bool := decide (scn l = l.length)

theorem at_end {l : List UInt8} {k : Nat} (hk : k ≤ l.length) (hs : scn l = k + scn (l.drop k)) (h : ¬ k < l.length) : chkAt l = 0 ∧ chkOk l = true := by
  have : l.drop k = [] := by rw [List.drop_eq_nil_iff]; omega
  rw [this, scn_stop lng_nil] at hs
  have e : scn l = l.length := by omega
  exact ⟨by simp [chkAt, e], by simp [chkOk, e]⟩
theorem at_wrong {l : List UInt8} {k : Nat} (hs : scn l = k + scn (l.drop k)) (h : k < l.length) (hz : lng (l.drop k) = 0) : chkAt l = k ∧ chkOk l = false := by
  rw [scn_stop hz] at hs
  have e : scn l ≠ l.length := by omega
  exact ⟨by simp only [chkAt, if_neg e]; omega, by simp [chkOk, e]⟩
theorem at_on {l : List UInt8} {k n : Nat} (hk : k < l.length) (hs : scn l = k + scn (l.drop k)) (hn : n = lng (l.drop k)) (hz : n ≠ 0) : k + n ≤ l.length ∧ scn l = (k + n) + scn (l.drop (k + n)) := by
  subst hn
  have h1 := lng_le (l.drop k)
  rw [scn_step hz, List.drop_drop] at hs
  simp at h1
  exact ⟨by omega, by omega⟩

theorem long_is {l : List UInt8} {B : Nat} {A : Option Addr} (m : Int) (n c : Nat) {w : World} (hn : n = l.length) (hA : Byt w B A l) (hl : 0 < l.length) (hm : l.length ≤ maxLen) (e : m = lng l) :
    Calls Tryz.prog 77 #[.slice A n c] w fun e w' => e = .returned (.int .i64 m) ∧ w = w' := e ▸ long_any n c hn hA hl hm

set_option maxHeartbeats 1000000 in
theorem check_any {l : List UInt8} {B : Nat} {A : Option Addr} (n c : Nat) {w : World} (hn : n = l.length) (hnc : n ≤ c) (hA : Byt w B A l) (hm : c ≤ maxLen) :
    Calls Tryz.prog 51 #[.slice A n c] w fun e w' => e = .returned (.tuple #[.int .i64 (chkAt l), .bool (chkOk l)]) ∧ w = w' := by
  have hm' := hm
  unfold maxLen at hm
  have Hn := Lib.hid hn
  clear hn
  go_enter Tryz.func51, Tryz.ntmps51
  go_wp2
  go_loop [2] (fun i => ∃ k : Nat, k ≤ n ∧ i = .int .i64 k ∧ scn l = k + scn (l.drop k)) (fun i => n - (intOf i).toNat)
  case atStart => exact ⟨0, Nat.zero_le _, rfl, by simp⟩
  case round =>
    obtain ⟨k, hk, rfl, hs⟩ := hrel
    have HS := Lib.hid hs
    clear hs
    by_cases hlt : k < n
    · have hd : 0 < (l.drop k).length := by have := Hn.out; simp; omega
      have hcut := hA.cut' (k := k) (by have := Hn.out; omega)
      obtain ⟨m, Hm⟩ : ∃ m, Hid (m = lng (l.drop k)) := ⟨_, rfl⟩
      have hmm : m ≤ n - k := by have := lng_le (l.drop k); have := Hm.out; have := Hn.out; simp at *; omega
      by_cases hz : m = 0
      · subst hz
        have HA := Lib.hid (at_wrong (k := k) HS.out (by have := Hn.out; omega) Hm.out.symm)
        go_wp2_with (go_at_call 77; refine (long_is 0 _ _ (by have := Hn.out; simp; omega) hcut hd (by simp; unfold maxLen; have := Hn.out; omega) (by have := Hm.out; omega)).mono ?_; rintro e w' ⟨rfl, rfl⟩)
        go_ret2
        exact ⟨ret_ib HA.out.1.symm HA.out.2.symm, rfl⟩
      · have HA := Lib.hid (at_on (by have := Hn.out; omega) HS.out Hm.out hz)
        have hz' : ((m : Int) == 0) = false := by simp; omega
        go_wp2_with (go_at_call 77; refine (long_is (m : Int) _ _ (by have := Hn.out; simp; omega) hcut hd (by simp; unfold maxLen; have := Hn.out; omega) (by have := Hm.out; omega)).mono ?_; rintro e w' ⟨rfl, rfl⟩)
        go_round
        case rel => exact ⟨k + m, by omega, by go_num, HA.out.2⟩
        case measure => simp [intOf]; omega
    · have HA := Lib.hid (at_end (k := k) (by have := Hn.out; omega) HS.out (by have := Hn.out; omega))
      go_wp2
      go_ret2
      exact ⟨ret_ib HA.out.1.symm HA.out.2.symm, rfl⟩
end Go.Proofs.YtggeiajbcehkjaaGreatDoor.U8
