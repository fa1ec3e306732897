/- What landed: a sign cut off, special values, their ranks, digits with marks, an integer's text. -/
import Derived.Test.YthjlnafmpcppfaaGreatDoorFh
import Derived.Test.YthjlnafmpcppfaaGreatDoorFL
import Derived.Test.YthjlnafmpcppfaaGreatDoorJi
namespace Go.Proofs.YthjlnafmpcppfaaGreatDoor
open Go.RowKit
namespace Fl

theorem data_txt {l : List UInt8} {s : ByteArray} (h : s = txt l) : s.data.toList = l := by rw [h]; rfl
theorem pre_one {l : List UInt8} {c : UInt8} (hc : c ≠ 0) : Lib.hasPrefix l [c] = decide (bt l 0 = (c.toNat : Int)) := by
  unfold Lib.hasPrefix
  cases l with
  | nil =>
    rw [show bt [] 0 = 0 from rfl, decide_eq_false]
    · rfl
    · intro e; exact hc (UInt8.toNat_inj.1 (show c.toNat = 0 by omega))
  | cons d r =>
    rw [bt_cons]
    have e : ((d.toNat : Int) = c.toNat) ↔ c = d := ⟨fun e => UInt8.toNat_inj.1 (by omega), fun e => by rw [e]⟩
    simp only [e, List.isPrefixOf, Bool.and_true]
    by_cases h : c = d <;> simp [h]
theorem trim_one {l : List UInt8} {c : UInt8} (hc : c ≠ 0) : Lib.trimPrefix l [c] = if bt l 0 = (c.toNat : Int) then l.drop 1 else l := by
  unfold Lib.trimPrefix
  rw [pre_one hc]
  by_cases h : bt l 0 = (c.toNat : Int) <;> simp [h]
theorem cutp_is {l : List UInt8} {s T : ByteArray} {b : Bool} (w : World) (hs : s = txt l) (hT : T = txt (if bt l 0 = 45 then l.drop 1 else l)) (hb : b = decide (bt l 0 = 45)) :
    Calls Tryz.prog 61 #[.string s, .string ⟨#[45]⟩] w fun e w' => e = .returned (.tuple #[.string T, .bool b]) ∧ w = w' := by
  refine (Tryz.strings_CutPrefix s ⟨#[45]⟩ w).mono ?_
  rintro e w' ⟨rfl, rfl⟩
  rw [data_txt hs, show (⟨#[45]⟩ : ByteArray).data.toList = [45] from rfl, pre_one (by decide), trim_one (by decide), hT, hb]
  exact ⟨rfl, rfl⟩
theorem trimp_is {l : List UInt8} {s T : ByteArray} (w : World) (hs : s = txt l) (hT : T = txt (if bt l 0 = 43 then l.drop 1 else l)) :
    Calls Tryz.prog 62 #[.string s, .string ⟨#[43]⟩] w fun e w' => e = .returned (.string T) ∧ w = w' := by
  refine (Tryz.strings_TrimPrefix s ⟨#[43]⟩ w).mono ?_
  rintro e w' ⟨rfl, rfl⟩
  rw [data_txt hs, show (⟨#[43]⟩ : ByteArray).data.toList = [43] from rfl, trim_one (by decide), hT]
  exact ⟨rfl, rfl⟩
theorem signed_is {l : List UInt8} {s G T : ByteArray} (w : World) (hs : s = txt l) (hG : G = txt (mn l)) (hT : T = txt (l.drop (sg0 l))) :
    Calls Tryz.prog 37 #[.string s] w fun e w' => e = .returned (.tuple #[.string G, .string T]) ∧ w = w' := by
  by_cases h : bt l 0 = 45
  · have C := Lib.hid (fun w => cutp_is (T := T) (b := true) w hs (by rw [hT]; unfold sg0; rw [if_pos h, if_pos (.inr h)]) (by rw [h]; rfl))
    have E := Lib.hid (show G = ⟨#[45]⟩ by rw [hG]; unfold mn; rw [if_pos h]; rfl)
    clear hs hG hT h
    go_enter Tryz.func37, Tryz.ntmps37
    go_wp2_with (go_at_call 61; refine (C.out _).mono ?_; rintro e w' ⟨rfl, rfl⟩)
    go_ret2
    exact ⟨by rw [E.out]; rfl, rfl⟩
  · obtain ⟨T0, hT0⟩ : ∃ T0, T0 = txt l := ⟨_, rfl⟩
    have C := Lib.hid (fun w => cutp_is (T := T0) (b := false) w hs (by rw [hT0, if_neg h]) (by rw [decide_eq_false h]))
    have C2 := Lib.hid (fun w => trimp_is (T := T) w hs (by
      rw [hT]; unfold sg0
      by_cases h2 : bt l 0 = 43
      · rw [if_pos h2, if_pos (.inl h2)]
      · rw [if_neg h2, if_neg (by omega)]; rfl))
    have E := Lib.hid (show G = ⟨#[]⟩ by rw [hG]; unfold mn; rw [if_neg h]; rfl)
    clear hs hG hT h hT0
    go_enter Tryz.func37, Tryz.ntmps37
    go_wp2_with (first
      | (go_at_call 61; refine (C.out _).mono ?_; rintro e w' ⟨rfl, rfl⟩)
      | (go_at_call 62; refine (C2.out _).mono ?_; rintro e w' ⟨rfl, rfl⟩))
    go_ret2
    exact ⟨by rw [E.out]; rfl, rfl⟩
/-- The special values that a text tells. -/
def spt (l : List UInt8) : List UInt8 := if l.drop (sg0 l) = INF then mn l ++ INF else if l.drop (sg0 l) = NAN then NAN else []
def spb (l : List UInt8) : Bool := decide (l.drop (sg0 l) = INF ∨ l.drop (sg0 l) = NAN)
theorem special_is {l : List UInt8} {s X : ByteArray} {b : Bool} (w : World) (hs : s = txt l) (hX : X = txt (spt l)) (hb : b = spb l) :
    Calls Tryz.prog 21 #[.string s] w fun e w' => e = .returned (.tuple #[.string X, .bool b]) ∧ w = w' := by
  obtain ⟨G, hG⟩ : ∃ G, G = txt (mn l) := ⟨_, rfl⟩
  obtain ⟨T, hT⟩ : ∃ T, T = txt (l.drop (sg0 l)) := ⟨_, rfl⟩
  have C := Lib.hid (fun w => signed_is w hs hG hT)
  have hq : T.toList = l.drop (sg0 l) := by rw [hT, II.toList_txt]
  have hg := txt_empty hG
  unfold spt at hX
  unfold spb at hb
  by_cases hn : l.drop (sg0 l) = NAN
  · rw [hn] at hq
    have hi : l.drop (sg0 l) ≠ INF := by rw [hn]; simp
    rw [if_neg hi, if_pos hn] at hX
    rw [decide_eq_true (.inr hn)] at hb
    have E := Lib.hid (And.intro hX hb)
    clear hs hX hb hn hi hT hG hg
    go_enter Tryz.func21, Tryz.ntmps21
    go_wp2_with (go_at_call 37; refine (C.out _).mono ?_; rintro e w' ⟨rfl, rfl⟩)
    go_ret2
    exact ⟨by rw [E.out.1, E.out.2]; rfl, rfl⟩
  by_cases hi : l.drop (sg0 l) = INF
  · rw [hi] at hq
    rw [if_pos hi] at hX
    rw [decide_eq_true (.inl hi)] at hb
    unfold mn at hX hg
    by_cases hm : bt l 0 = 45
    · rw [if_pos hm] at hX hg
      have E := Lib.hid (And.intro hX hb)
      clear hs hX hb hn hi hT hG hm
      go_enter Tryz.func21, Tryz.ntmps21
      go_wp2_with (go_at_call 37; refine (C.out _).mono ?_; rintro e w' ⟨rfl, rfl⟩)
      go_ret2
      exact ⟨by rw [E.out.1, E.out.2]; rfl, rfl⟩
    · rw [if_neg hm] at hX hg
      have E := Lib.hid (And.intro hX hb)
      clear hs hX hb hn hi hT hG hm
      go_enter Tryz.func21, Tryz.ntmps21
      go_wp2_with (go_at_call 37; refine (C.out _).mono ?_; rintro e w' ⟨rfl, rfl⟩)
      go_ret2
      exact ⟨by rw [E.out.1, E.out.2]; rfl, rfl⟩
  · rw [if_neg hi, if_neg hn] at hX
    rw [decide_eq_false (by rintro (h | h); exact hi h; exact hn h)] at hb
    have E := Lib.hid (And.intro hX hb)
    have q1 : (T.toList == [110, 97, 110]) = false := by rw [hq]; simpa using hn
    have q2 : (T.toList == [105, 110, 102]) = false := by rw [hq]; simpa using hi
    clear hs hX hb hn hi hT hG hq hg
    go_enter Tryz.func21, Tryz.ntmps21
    go_wp2_with (go_at_call 37; refine (C.out _).mono ?_; rintro e w' ⟨rfl, rfl⟩)
    go_ret2
    exact ⟨by rw [E.out.1, E.out.2]; rfl, rfl⟩
theorem rank_is {l : List UInt8} {s : ByteArray} {x : Int} (w : World) (hs : s = txt l) (hx : x = rk l) :
    Calls Tryz.prog 26 #[.string s] w fun e w' => e = .returned (.int .i64 x) ∧ w = w' := by
  have hq : s.toList = l := by rw [hs, II.toList_txt]
  unfold rk at hx
  by_cases h1 : l = NAN
  · rw [if_pos h1] at hx
    rw [h1] at hq
    have E := Lib.hid hx
    clear hs hx h1
    go_enter Tryz.func26, Tryz.ntmps26
    go_wp2_with fail
    go_ret
    exact ⟨by rw [E.out]; rfl, rfl⟩
  have q1 : (s.toList == [110, 97, 110]) = false := by rw [hq]; simpa using h1
  by_cases h2 : l = INF
  · rw [if_neg h1, if_pos h2] at hx
    rw [h2] at hq
    have E := Lib.hid hx
    clear hs hx h1 h2 q1
    go_enter Tryz.func26, Tryz.ntmps26
    go_wp2_with fail
    go_ret
    exact ⟨by rw [E.out]; rfl, rfl⟩
  have q2 : (s.toList == [105, 110, 102]) = false := by rw [hq]; simpa using h2
  by_cases h3 : l = 45 :: INF
  · rw [if_neg h1, if_neg h2, if_pos h3] at hx
    rw [h3] at hq
    have E := Lib.hid hx
    clear hs hx h1 h2 h3 q1 q2
    go_enter Tryz.func26, Tryz.ntmps26
    go_wp2_with fail
    go_ret
    exact ⟨by rw [E.out]; rfl, rfl⟩
  · have q3 : (s.toList == [45, 105, 110, 102]) = false := by rw [hq]; simpa using h3
    rw [if_neg h1, if_neg h2, if_neg h3] at hx
    have E := Lib.hid hx
    clear hs hx h1 h2 h3 hq
    go_enter Tryz.func26, Tryz.ntmps26
    go_wp2_with fail
    go_ret
    exact ⟨by rw [E.out]; rfl, rfl⟩
end Fl
end Go.Proofs.YthjlnafmpcppfaaGreatDoor
