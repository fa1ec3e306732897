/- What landed: where an escape, a string end. -/
import Derived.Test.YtfnahondlcbjnaaUa
namespace Go.Proofs.Ytfnahondlcbjnaa
open Go.RowKit
namespace Jk

/-- Where an escape ends, or where it is wrong. -/
def escE (l : List UInt8) (i : Nat) : SR :=
  if esc (bt l (i + 1)) = true then .ok (i + 2)
  else if bt l (i + 1) = 117 then (match h4 l (i + 1) with | some a => .bad a | none => .ok (i + 6))
  else .bad (i + 1)
def srV : SR → Value
  | .ok n => .tuple #[.int .i64 (n : Nat), .bool true]
  | .bad n => .tuple #[.int .i64 (n : Nat), .bool false]
/-- How far the digits of base 16 go on from a place. -/
def hxE (l : List UInt8) : Nat → Nat → SR
  | 0, k => .ok k
  | m + 1, k => if hx (bt l k) = true then hxE l m (k + 1) else .bad k
theorem hxE_h4 (l : List UInt8) (i : Nat) : hxE l 4 (i + 1) = match h4 l i with | some a => .bad a | none => .ok (i + 5) := by
  unfold h4
  cases h1 : hx (bt l (i + 1))
  · simp [hxE, h1]
  cases h2 : hx (bt l (i + 2))
  · simp [hxE, h1, h2]
  cases h3 : hx (bt l (i + 3))
  · simp [hxE, h1, h2, h3]
  cases h4 : hx (bt l (i + 4))
  · simp [hxE, h1, h2, h3, h4]
  · simp [hxE, h1, h2, h3, h4]
section
variable {l : List UInt8} {B : Nat} {A : Option Addr}
set_option maxHeartbeats 4000000 in
theorem escapeEnd_is (n c i : Nat) {x : Int} (w : World) (hF : Forms) (hn : n = l.length) (hA : Byt w B A l) (hm : n ≤ 1000000) (hx : x = i) (hi : i ≤ 1000000) :
    Calls Try.prog 31 #[.slice A n c, .int .i64 x] w fun e w' => e = .returned (srV (escE l i)) ∧ w = w' := by
  subst hx
  have hw1 : wrap64 ((i : Int) + 1) = ((i + 1 : Nat) : Int) := by unfold wrap64; omega
  have hw2 : wrap64 (((i + 1 : Nat) : Int) + 1) = ((i + 2 : Nat) : Int) := by unfold wrap64; omega
  have HF := Lib.hid hF
  have Hn := Lib.hid hn
  have HA := Lib.hid hA
  obtain ⟨e1, HE1⟩ : ∃ b, Hid (b = esc (bt l (i + 1))) := ⟨_, rfl⟩
  obtain ⟨e2, HE2⟩ : ∃ b, Hid (b = decide (bt l (i + 1) = 117)) := ⟨_, rfl⟩
  clear hF hn hA
  cases e1
  · cases e2
    · have E := Lib.hid (show escE l i = .bad (i + 1) by
        rw [escE, if_neg (by rw [← HE1.out]; simp), if_neg (of_decide_eq_false HE2.out.symm)])
      go_enter Try.func31, Try.ntmps31
      go_wp2_with fail
      refine (stands_is n c (i + 1) (v := false) _ HF.out.escs Hn.out HA.out hm rfl HE1.out).mono ?_
      rintro e w' ⟨rfl, rfl⟩
      go_wp2_with fail
      refine (stands_is n c (i + 1) (v := false) _ HF.out.u Hn.out HA.out hm rfl HE2.out).mono ?_
      rintro e w' ⟨rfl, rfl⟩
      go_wp2_with fail
      refine bodyPost_ret (v := .tuple #[.int .i64 ((i + 1 : Nat) : Int), .bool false]) (by simp [results, Try.results31, go_sem, *]) rfl ?_
      exact ⟨by rw [E.out]; rfl, rfl⟩
    · have E := Lib.hid (show escE l i = hxE l 4 (i + 2) by
        rw [escE, if_neg (by rw [← HE1.out]; simp), if_pos (of_decide_eq_true HE2.out.symm), hxE_h4 l (i + 1)])
      go_enter Try.func31, Try.ntmps31
      go_wp2_with fail
      refine (stands_is n c (i + 1) (v := false) _ HF.out.escs Hn.out HA.out hm rfl HE1.out).mono ?_
      rintro e w' ⟨rfl, rfl⟩
      go_wp2_with fail
      refine (stands_is n c (i + 1) (v := true) _ HF.out.u Hn.out HA.out hm rfl HE2.out).mono ?_
      rintro e w' ⟨rfl, rfl⟩
      go_wp2_with fail
      go_loop [4, 20] (fun s t => ∃ j m : Nat, m ≤ 4 ∧ s = .int .i64 ((i + 2 + m : Nat) : Int) ∧ t = .int .i64 m ∧ j + m = 4 ∧ Hid (escE l i = hxE l j (i + 2 + m))) (fun _ t => 4 - (intOf t).toNat)
      case atStart => exact ⟨4, 0, by omega, rfl, rfl, rfl, E⟩
      case round =>
        obtain ⟨j, m, hm4, rfl, rfl, hj, HS⟩ := hrel
        have hw3 : wrap64 (((i + 2 + m : Nat) : Int) + 1) = ((i + 2 + (m + 1) : Nat) : Int) := by unfold wrap64; omega
        have hw4 : wrap64 ((m : Int) + 1) = ((m + 1 : Nat) : Int) := by unfold wrap64; omega
        by_cases h4 : m < 4
        · obtain ⟨j, rfl⟩ : ∃ j', j = j' + 1 := ⟨j - 1, by omega⟩
          cases hd : hx (bt l (i + 2 + m))
          · have D := Lib.hid hd.symm
            have R := Lib.hid (show escE l i = .bad (i + 2 + m) by rw [HS.out, hxE, hd]; rfl)
            clear hd HS
            go_wp2_with fail
            refine (stands_is n c (i + 2 + m) (v := false) _ HF.out.figs Hn.out HA.out hm rfl D.out).mono ?_
            rintro e w' ⟨rfl, rfl⟩
            go_wp2_with fail
            refine bodyPost_ret (v := .tuple #[.int .i64 ((i + 2 + m : Nat) : Int), .bool false]) (by simp [results, Try.results31, go_sem, *]) rfl ?_
            exact ⟨by rw [R.out]; rfl, rfl⟩
          · have D := Lib.hid hd.symm
            have R := Lib.hid (show escE l i = hxE l j (i + 2 + (m + 1)) by rw [HS.out, hxE, hd, if_pos rfl]; rfl)
            clear hd HS
            go_wp2_with fail
            refine (stands_is n c (i + 2 + m) (v := true) _ HF.out.figs Hn.out HA.out hm rfl D.out).mono ?_
            rintro e w' ⟨rfl, rfl⟩
            go_wp2_with fail
            go_round
            case rel => exact ⟨j, m + 1, by omega, rfl, rfl, by omega, R⟩
            case measure => simp [intOf]; omega
        · obtain rfl : m = 4 := by omega
          obtain rfl : j = 0 := by omega
          have R := Lib.hid (show escE l i = .ok (i + 6) by rw [HS.out]; rfl)
          clear HS
          go_wp2_with fail
          refine bodyPost_ret (v := .tuple #[.int .i64 ((i + 2 + 4 : Nat) : Int), .bool true]) (by simp [results, Try.results31, go_sem, *]) rfl ?_
          exact ⟨by rw [R.out]; rfl, rfl⟩
  · have E := Lib.hid (show escE l i = .ok (i + 2) by rw [escE, if_pos HE1.out.symm])
    go_enter Try.func31, Try.ntmps31
    go_wp2_with fail
    refine (stands_is n c (i + 1) (v := true) _ HF.out.escs Hn.out HA.out hm rfl HE1.out).mono ?_
    rintro e w' ⟨rfl, rfl⟩
    go_wp2_with fail
    refine bodyPost_ret (v := .tuple #[.int .i64 ((i + 2 : Nat) : Int), .bool true]) (by simp [results, Try.results31, go_sem, *] <;> omega) rfl ?_
    exact ⟨by rw [E.out]; rfl, rfl⟩
end
end Jk
end Go.Proofs.Ytfnahondlcbjnaa
