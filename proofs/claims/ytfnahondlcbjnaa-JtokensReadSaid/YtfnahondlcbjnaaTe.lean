/- The document's small words: a byte at a place, a space, a digit, hex; where digits end. -/
import Derived.Test.YtfnahondlcbjnaaTb
import Derived.LoopTactic
import Derived.Outline
import Derived.Test.YtfnahondlcbjnaaProg
namespace Go.Proofs.Ytfnahondlcbjnaa
open Go.RowKit
namespace Jk

theorem rdg_is {c : Int} {b : Bool} (w : World) (h : b = dg c) : Calls Try.prog 21 #[.int .u8 c] w fun e w' => e = .returned (.bool b) ∧ w = w' := by
  unfold dg at h
  by_cases h1 : 48 ≤ c
  · by_cases h2 : c ≤ 57
    · have E := Lib.hid (show b = true by rw [h]; simp; omega)
      clear h
      go_enter Try.func21, Try.ntmps21
      go_wp2_with fail
      go_ret
      exact ⟨ret_bool E.out.symm, rfl⟩
    · have E := Lib.hid (show b = false by rw [h]; simp; omega)
      clear h
      go_enter Try.func21, Try.ntmps21
      go_wp2_with fail
      go_ret
      exact ⟨ret_bool E.out.symm, rfl⟩
  · have E := Lib.hid (show b = false by rw [h]; simp; omega)
    clear h
    go_enter Try.func21, Try.ntmps21
    go_wp2_with fail
    go_ret
    exact ⟨ret_bool E.out.symm, rfl⟩
theorem rsp_is {c : Int} {b : Bool} (w : World) (h : b = spc c) : Calls Try.prog 19 #[.int .u8 c] w fun e w' => e = .returned (.bool b) ∧ w = w' := by
  unfold spc at h
  by_cases h1 : c = 32
  · subst h1; subst h
    go_enter Try.func19, Try.ntmps19
    go_wp2_with fail
    go_ret
    exact ⟨rfl, rfl⟩
  by_cases h2 : c = 9
  · subst h2; subst h
    go_enter Try.func19, Try.ntmps19
    go_wp2_with fail
    go_ret
    exact ⟨rfl, rfl⟩
  by_cases h3 : c = 10
  · subst h3; subst h
    go_enter Try.func19, Try.ntmps19
    go_wp2_with fail
    go_ret
    exact ⟨rfl, rfl⟩
  have q1 : (c == 32) = false := by simp; omega
  have q2 : (c == 9) = false := by simp; omega
  have q3 : (c == 10) = false := by simp; omega
  have E := Lib.hid (show b = (c == 13) by rw [h]; by_cases q : c = 13 <;> simp [q, h1, h2, h3])
  clear h
  go_enter Try.func19, Try.ntmps19
  go_wp2_with fail
  go_ret
  exact ⟨ret_bool E.out.symm, rfl⟩
theorem rhx_is {c : Int} {b : Bool} (w : World) (h : b = hx c) : Calls Try.prog 23 #[.int .u8 c] w fun e w' => e = .returned (.bool b) ∧ w = w' := by
  have D : ∀ w, Calls Try.prog 21 #[.int .u8 c] w fun e w' => e = .returned (.bool (dg c)) ∧ w = w' := fun w => rdg_is w rfl
  by_cases h0 : dg c = true
  · have E := Lib.hid (show b = true by have := dg_iff.1 h0; rw [h]; simp [hx]; omega)
    rw [h0] at D
    have D := Lib.hid D
    clear h
    go_enter Try.func23, Try.ntmps23
    go_wp2_with (go_at_call 21; refine (D.out _).mono ?_; rintro e w' ⟨rfl, rfl⟩)
    go_ret
    exact ⟨ret_bool E.out.symm, rfl⟩
  have hd : ¬ (48 ≤ c ∧ c ≤ 57) := fun g => h0 (dg_iff.2 g)
  rw [Bool.not_eq_true] at h0
  rw [h0] at D
  have D := Lib.hid D
  replace h : b = decide (97 ≤ c ∧ c ≤ 102 ∨ 65 ≤ c ∧ c ≤ 70) := by rw [h, hx, decide_eq_decide]; omega
  have hd := Lib.hid hd
  by_cases h1 : 97 ≤ c
  · by_cases h2 : c ≤ 102
    · have E := Lib.hid (show b = true by rw [h]; simp; omega)
      clear h
      go_enter Try.func23, Try.ntmps23
      go_wp2_with (go_at_call 21; refine (D.out _).mono ?_; rintro e w' ⟨rfl, rfl⟩)
      go_ret
      exact ⟨ret_bool (by rw [E.out] <;> (try simp) <;> (try omega)), rfl⟩
    · have E := Lib.hid (show b = false by rw [h]; simp; omega)
      clear h
      go_enter Try.func23, Try.ntmps23
      go_wp2_with (go_at_call 21; refine (D.out _).mono ?_; rintro e w' ⟨rfl, rfl⟩)
      go_ret
      exact ⟨ret_bool (by rw [E.out] <;> (try simp) <;> (try omega)), rfl⟩
  · by_cases h3 : 65 ≤ c
    · by_cases h4 : c ≤ 70
      · have E := Lib.hid (show b = true by rw [h]; simp; omega)
        clear h
        go_enter Try.func23, Try.ntmps23
        go_wp2_with (go_at_call 21; refine (D.out _).mono ?_; rintro e w' ⟨rfl, rfl⟩)
        go_ret
        exact ⟨ret_bool (by rw [E.out] <;> (try simp) <;> (try omega)), rfl⟩
      · have E := Lib.hid (show b = false by rw [h]; simp; omega)
        clear h
        go_enter Try.func23, Try.ntmps23
        go_wp2_with (go_at_call 21; refine (D.out _).mono ?_; rintro e w' ⟨rfl, rfl⟩)
        go_ret
        exact ⟨ret_bool (by rw [E.out] <;> (try simp) <;> (try omega)), rfl⟩
    · have E := Lib.hid (show b = false by rw [h]; simp; omega)
      clear h
      go_enter Try.func23, Try.ntmps23
      go_wp2_with (go_at_call 21; refine (D.out _).mono ?_; rintro e w' ⟨rfl, rfl⟩)
      go_ret
      exact ⟨ret_bool (by rw [E.out] <;> (try simp) <;> (try omega)), rfl⟩
section
variable {l : List UInt8} {B : Nat} {A : Option Addr}
theorem rat_is (n c k : Nat) {x v : Int} (w : World) (hn : n = l.length) (hA : Byt w B A l) (hx : x = k) (hv : v = bt l k) :
    Calls Try.prog 20 #[.slice A n c, .int .i64 x] w fun e w' => e = .returned (.int .u8 v) ∧ w = w' := by
  subst hx
  by_cases h : k < n
  · obtain ⟨b, off, rfl, _, hc⟩ := hA.at_ (k := k) (by omega)
    have c1 := hc k (by omega)
    rw [← hv] at c1
    clear hc hv hn
    go_enter Try.func20, Try.ntmps20
    go_wp2_with fail
    go_ret
    exact ⟨rfl, rfl⟩
  · have E := Lib.hid (show v = 0 by rw [hv]; exact bt_far (by omega))
    clear hv hn
    go_enter Try.func20, Try.ntmps20
    go_wp2_with fail
    go_ret
    exact ⟨ret_int E.out.symm, rfl⟩
theorem rdigits_is (n c k : Nat) {x v : Int} (w : World) (hn : n = l.length) (hA : Byt w B A l) (hm : n ≤ 1000000) (hx : x = k) (hk : k ≤ 1000100) (hv : v = ((k + rw dg (l.drop k) : Nat) : Int)) :
    Calls Try.prog 22 #[.slice A n c, .int .i64 x] w fun e w' => e = .returned (.int .i64 v) ∧ w = w' := by
  subst hx
  have Hn := Lib.hid hn
  have Hv := Lib.hid hv
  clear hn hv
  go_enter Try.func22, Try.ntmps22
  go_wp2
  go_loop [1] (fun i => ∃ j : Nat, i = .int .i64 j ∧ j ≤ 1000100 ∧ v = ((j + rw dg (l.drop j) : Nat) : Int)) (fun i => n - (intOf i).toNat)
  case atStart => exact ⟨k, rfl, hk, Hv.out⟩
  case round =>
    obtain ⟨j, rfl, hj, hs⟩ := hrel
    have HS := Lib.hid hs
    clear hs
    have G := Lib.hid (rw_at (p := dg) dg0 (l := l) (k := j))
    obtain ⟨b, Hb⟩ : ∃ b, Hid (b = bt l j) := ⟨_, rfl⟩
    by_cases hd : dg b = true
    · have hlt : j < n := by have := dg_in (l := l) (k := j) (by rw [← Hb.out]; exact hd); have := Hn.out; omega
      have e : rw dg (l.drop j) = rw dg (l.drop (j + 1)) + 1 := by rw [G.out, ← Hb.out, if_pos hd]
      have E := Lib.hid e
      have D := Lib.hid (fun w => rdg_is (c := b) (b := true) w hd.symm)
      clear e hd
      go_wp2_with first
        | (go_at_call 20; refine (rat_is n c j (v := b) _ Hn.out hA rfl Hb.out).mono ?_; rintro e w' ⟨rfl, rfl⟩)
        | (go_at_call 21; refine (D.out _).mono ?_; rintro e w' ⟨rfl, rfl⟩)
      go_round
      case rel => exact ⟨j + 1, by go_num, by omega, by rw [HS.out, E.out]; congr 1; omega⟩
      case measure => simp [intOf]; omega
    · rw [Bool.not_eq_true] at hd
      have e : rw dg (l.drop j) = 0 := by rw [G.out, ← Hb.out, hd]; rfl
      have E := Lib.hid e
      have D := Lib.hid (fun w => rdg_is (c := b) (b := false) w hd.symm)
      clear e hd
      go_wp2_with first
        | (go_at_call 20; refine (rat_is n c j (v := b) _ Hn.out hA rfl Hb.out).mono ?_; rintro e w' ⟨rfl, rfl⟩)
        | (go_at_call 21; refine (D.out _).mono ?_; rintro e w' ⟨rfl, rfl⟩)
      go_ret
      exact ⟨ret_int (by rw [HS.out, E.out]; rfl), rfl⟩
end
end Jk
end Go.Proofs.Ytfnahondlcbjnaa
