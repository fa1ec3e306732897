/- What landed: whether one of some bytes stands at a place; how many of them stand there. -/
import Derived.Test.YtfnahondlcbjnaaTe
namespace Go.Proofs.Ytfnahondlcbjnaa
open Go.RowKit
namespace Jk

/-- A text of bytes, as a test of a byte. -/
structure FP (F : ByteArray) (p : Int → Bool) : Prop where
  zero : p 0 = false
  at_ : ∀ c : Int, 0 ≤ c → c ≤ 255 → ∃ y : Int, decide (0 ≤ y) = p c ∧ -1 ≤ y ∧ y ≤ 1000 ∧ ∀ w, Calls Try.prog 29 #[.string F, .int .u8 c] w fun e w' => e = .returned (.int .i64 y) ∧ w = w'
section
variable {l : List UInt8} {B : Nat} {A : Option Addr} {F : ByteArray} {p : Int → Bool}
theorem FP.in_ (hF : FP F p) {k : Nat} (h : p (bt l k) = true) : k < l.length := bt_in (fun e => by rw [e, hF.zero] at h; cases h)
theorem stands_is (n c k : Nat) {x : Int} {v : Bool} (w : World) (hF : FP F p) (hn : n = l.length) (hA : Byt w B A l) (_hm : n ≤ 1000000) (hx : x = k) (hv : v = p (bt l k)) :
    Calls Try.prog 17 #[.slice A n c, .int .i64 x, .string F] w fun e w' => e = .returned (.bool v) ∧ w = w' := by
  subst hx
  by_cases h : k < n
  · obtain ⟨b, off, rfl, _, hc⟩ := hA.at_ (k := k) (by omega)
    have c1 := hc k (by omega)
    obtain ⟨d, hd⟩ : ∃ d, d = bt l k := ⟨_, rfl⟩
    have d0 := bt_lo l k
    have d1 := bt_hi l k
    rw [← hd] at hv c1 d0 d1
    obtain ⟨y, e1, e2, e3, hC⟩ := hF.at_ d d0 d1
    have CI := Lib.hid hC
    rw [← e1] at hv
    have E := Lib.hid hv
    clear hc hv hn hC e1 hd
    go_enter Try.func17, Try.ntmps17
    go_wp2_with (go_at_call 29; refine (CI.out _).mono ?_; rintro e w' ⟨rfl, rfl⟩)
    go_ret
    exact ⟨ret_bool E.out.symm, rfl⟩
  · have E := Lib.hid (show v = false by rw [hv, bt_far (by omega)]; exact hF.zero)
    clear hv hn
    go_enter Try.func17, Try.ntmps17
    go_wp2_with fail
    go_ret
    exact ⟨ret_bool E.out.symm, rfl⟩
theorem behind_is (n c k : Nat) {x v : Int} (w : World) (hF : FP F p) (hn : n = l.length) (hA : Byt w B A l) (hm : n ≤ 1000000) (hx : x = k) (hk : k ≤ 1000100) (hv : v = ((k + rw p (l.drop k) : Nat) : Int)) :
    Calls Try.prog 30 #[.slice A n c, .int .i64 x, .string F] w fun e w' => e = .returned (.int .i64 v) ∧ w = w' := by
  subst hx
  have Hn := Lib.hid hn
  have Hv := Lib.hid hv
  have HF := Lib.hid hF
  clear hn hv hF
  go_enter Try.func30, Try.ntmps30
  go_wp2
  go_loop [1] (fun i => ∃ j : Nat, i = .int .i64 j ∧ j ≤ 1000100 ∧ v = ((j + rw p (l.drop j) : Nat) : Int)) (fun i => n - (intOf i).toNat)
  case atStart => exact ⟨k, rfl, hk, Hv.out⟩
  case round =>
    obtain ⟨j, rfl, hj, hs⟩ := hrel
    have HS := Lib.hid hs
    clear hs
    have G := Lib.hid (rw_at (p := p) HF.out.zero (l := l) (k := j))
    cases hd : p (bt l j)
    · have E := Lib.hid (show rw p (l.drop j) = 0 by rw [G.out, hd]; rfl)
      have D := Lib.hid hd.symm
      clear hd G
      go_wp2_with (go_at_call 17; refine (stands_is n c j (v := false) _ HF.out Hn.out hA hm rfl D.out).mono ?_; rintro e w' ⟨rfl, rfl⟩)
      go_ret
      exact ⟨ret_int (by rw [HS.out, E.out]; rfl), rfl⟩
    · have E := Lib.hid (show rw p (l.drop j) = rw p (l.drop (j + 1)) + 1 by rw [G.out, hd, if_pos rfl])
      have hlt : j < n := by have := HF.out.in_ hd; have := Hn.out; omega
      have D := Lib.hid hd.symm
      clear hd G
      go_wp2_with (go_at_call 17; refine (stands_is n c j (v := true) _ HF.out Hn.out hA hm rfl D.out).mono ?_; rintro e w' ⟨rfl, rfl⟩)
      go_round
      case rel => exact ⟨j + 1, by go_num, by omega, by rw [HS.out, E.out]; congr 1; omega⟩
      case measure => simp [intOf]; omega
end
/-- The texts that tell tokens apart, by their tests. -/
structure Forms : Prop where
  blanks : FP ⟨#[32, 9, 10, 13]⟩ spc
  marks : FP ⟨#[123, 125, 91, 93, 44, 58]⟩ mrk
  letters : FP ⟨#[97, 98, 99, 100, 101, 102, 103, 104, 105, 106, 107, 108, 109, 110, 111, 112, 113, 114, 115, 116, 117, 118, 119, 120, 121, 122]⟩ ltr
  nums : FP ⟨#[45, 48, 49, 50, 51, 52, 53, 54, 55, 56, 57]⟩ (fun c => decide (c = 45) || dg c)
  digits : FP ⟨#[48, 49, 50, 51, 52, 53, 54, 55, 56, 57]⟩ dg
  quote : FP ⟨#[34]⟩ (fun c => decide (c = 34))
  minus : FP ⟨#[45]⟩ (fun c => decide (c = 45))
  nought : FP ⟨#[48]⟩ (fun c => decide (c = 48))
  point : FP ⟨#[46]⟩ (fun c => decide (c = 46))
  exps : FP ⟨#[101, 69]⟩ (fun c => decide (c = 101 ∨ c = 69))
  signs : FP ⟨#[43, 45]⟩ (fun c => decide (c = 43 ∨ c = 45))
  escs : FP ⟨#[34, 92, 47, 98, 102, 110, 114, 116]⟩ esc
  u : FP ⟨#[117]⟩ (fun c => decide (c = 117))
  figs : FP ⟨#[48, 49, 50, 51, 52, 53, 54, 55, 56, 57, 97, 98, 99, 100, 101, 102, 65, 66, 67, 68, 69, 70]⟩ hx
end Jk
end Go.Proofs.Ytfnahondlcbjnaa
