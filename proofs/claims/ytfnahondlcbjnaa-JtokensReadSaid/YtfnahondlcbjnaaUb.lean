/- What landed: where spaces, a mark, a word end. -/
import Derived.Test.YtfnahondlcbjnaaUa
import Derived.Test.YtfnahondlcbjnaaTi
namespace Go.Proofs.Ytfnahondlcbjnaa
open Go.RowKit
namespace Jk

section
variable {l : List UInt8} {B : Nat} {A : Option Addr}
theorem spaceEnd_is (n c k : Nat) {x v : Int} (w : World) (hF : Forms) (hn : n = l.length) (hA : Byt w B A l) (hm : n ≤ 1000000) (hx : x = k) (hk : k ≤ 1000100) (hv : v = ((k + rw spc (l.drop k) : Nat) : Int)) :
    Calls Try.prog 24 #[.slice A n c, .int .i64 x] w fun e w' => e = .returned (.tuple #[.int .i64 v, .bool true]) ∧ w = w' := by
  have C := Lib.hid (fun w hA => behind_is (A := A) (B := B) n c k (x := x) (v := v) w hF.blanks hn hA hm hx hk hv)
  clear hn hm hx hk hv hF
  go_enter Try.func24, Try.ntmps24
  go_wp2_with (go_at_call 30; refine (C.out _ hA).mono ?_; rintro e w' ⟨rfl, rfl⟩)
  go_ret2
  exact ⟨rfl, rfl⟩
theorem markEnd_is (S : Value) {x : Int} (w : World) (h0 : 0 ≤ x) (h1 : x ≤ 1000100) :
    Calls Try.prog 25 #[S, .int .i64 x] w fun e w' => e = .returned (.tuple #[.int .i64 (x + 1), .bool true]) ∧ w = w' := by
  have hw : wrap64 (x + 1) = x + 1 := by unfold wrap64; omega
  go_enter Try.func25, Try.ntmps25
  go_wp2_with fail
  go_ret2
  exact ⟨rfl, rfl⟩
/-- Where a word ends, or where it is wrong. -/
def wdv (l : List UInt8) (i : Nat) : Value := if words ((l.drop i).take (rw ltr (l.drop i))) = true then .tuple #[.int .i64 ((i + rw ltr (l.drop i) : Nat) : Int), .bool true] else .tuple #[.int .i64 (i : Nat), .bool false]
set_option maxHeartbeats 4000000 in
theorem wordEnd_is (n c i : Nat) {x : Int} (w : World) (hF : Forms) (hn : n = l.length) (hnc : n ≤ c) (_hc6 : c ≤ maxLen) (hA : Byt w B A l) (hm : n ≤ 1000000) (hx : x = i) (hi : i < l.length) :
    Calls Try.prog 26 #[.slice A n c, .int .i64 x] w fun e w' => e = .returned (wdv l i) ∧ w = w' := by
  subst hx
  unfold maxLen at _hc6
  obtain ⟨j, hj⟩ : ∃ j, j = i + rw ltr (l.drop i) := ⟨_, rfl⟩
  have hjl : j ≤ n := by have := rw_in ltr l (Nat.le_of_lt hi); omega
  have hij : i ≤ j := by omega
  have C := Lib.hid (fun w hA => behind_is (A := A) (B := B) n c i (x := i) (v := j) w hF.letters hn hA hm rfl (by omega) (by rw [hj]))
  have E : wdv l i = if words ((l.take j).drop i) = true then .tuple #[.int .i64 (j : Nat), .bool true] else .tuple #[.int .i64 (i : Nat), .bool false] := by
    unfold wdv
    rw [word_cut, ← hj]
  obtain ⟨t, ht⟩ : ∃ t, t = (l.take j).drop i := ⟨_, rfl⟩
  rw [← ht] at E
  have HA := Lib.hid hA
  have hin : i < n := by omega
  obtain ⟨b, off, rfl, _, _⟩ := hA.at_ hi
  have hcv := conv_bytes (l := (l.take j).drop i) (w := w) (j - i) (c - i) (by simp; omega) (cut_two hA hij (by omega))
  rw [← ht] at hcv
  clear hn hm hF ht hj hi hA
  by_cases hw : words t = true
  · rw [if_pos hw] at E
    have E := Lib.hid E
    have hv : t = [116, 114, 117, 101] ∨ t = [102, 97, 108, 115, 101] ∨ t = [110, 117, 108, 108] := by simpa [words] using hw
    clear hw
    rcases hv with rfl | rfl | rfl
    all_goals
      simp only [txt] at hcv
      go_enter Try.func26, Try.ntmps26
      go_wp2_with (go_at_call 30; refine (C.out _ HA.out).mono ?_; rintro e w' ⟨rfl, rfl⟩)
      refine bodyPost_ret (v := .tuple #[.int .i64 j, .bool true]) (by simp [results, Try.results26, go_sem, *]) rfl ?_
      exact ⟨by rw [E.out], rfl⟩
  · rw [if_neg hw] at E
    have E := Lib.hid E
    have hv : ¬ (t = [116, 114, 117, 101] ∨ t = [102, 97, 108, 115, 101] ∨ t = [110, 117, 108, 108]) := by simpa [words] using hw
    clear hw
    obtain ⟨U, hU⟩ : ∃ U, U = txt t := ⟨_, rfl⟩
    have hne : ∀ m : List UInt8, t ≠ m → (U.toList == m) = false := fun m hm => by
      rw [hU, Lib.toList_data]
      exact beq_false_of_ne hm
    have u1 := hne _ (fun e => hv (.inl e))
    have u2 := hne _ (fun e => hv (.inr (.inl e)))
    have u3 := hne _ (fun e => hv (.inr (.inr e)))
    rw [← hU] at hcv
    clear hU hne hv
    go_enter Try.func26, Try.ntmps26
    go_wp2_with (go_at_call 30; refine (C.out _ HA.out).mono ?_; rintro e w' ⟨rfl, rfl⟩)
    refine bodyPost_ret (v := .tuple #[.int .i64 i, .bool false]) (by simp [results, Try.results26, go_sem, *]) rfl ?_
    exact ⟨by rw [E.out], rfl⟩
end
end Jk
end Go.Proofs.Ytfnahondlcbjnaa
