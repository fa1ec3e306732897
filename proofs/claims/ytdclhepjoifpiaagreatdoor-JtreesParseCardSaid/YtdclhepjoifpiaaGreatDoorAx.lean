/- What landed: whether one of some bytes stands at a place; how many of them stand there. -/
import Derived.Test.YtdclhepjoifpiaaGreatDoorAu
import Derived.Test.YtdclhepjoifpiaaGreatDoorAm
import Derived.ScopeJumps
import Derived.WalkMore
namespace Go.Proofs.YtdclhepjoifpiaaGreatDoor
open Go.RowKit
namespace Jk

/-- A text of bytes, as a test of a byte. -/
structure FP (F : ByteArray) (p : Int → Bool) : Prop where
  zero : p 0 = false
  at_ : ∀ c : Int, 0 ≤ c → c ≤ 255 → ∃ y : Int, decide (0 ≤ y) = p c ∧ -1 ≤ y ∧ y ≤ 1000 ∧ ∀ w, Calls Tryz.prog 62 #[.string F, .int .u8 c] w fun e w' => e = .returned (.int .i64 y) ∧ w = w'
section
variable {l : List UInt8} {B : Nat} {A : Option Addr} {F : ByteArray} {p : Int → Bool}
theorem FP.in_ (hF : FP F p) {k : Nat} (h : p (bt l k) = true) : k < l.length := bt_in (fun e => by rw [e, hF.zero] at h; cases h)
theorem stands_is (n c k : Nat) {x : Int} {v : Bool} (w : World) (hF : FP F p) (hn : n = l.length) (hA : Byt w B A l) (_hm : n ≤ 1000000) (hx : x = k) (hv : v = p (bt l k)) :
    Calls Tryz.prog 39 #[.slice A n c, .int .i64 x, .string F] w fun e w' => e = .returned (.bool v) ∧ w = w' := by
  subst hx
  by_cases h : k < n
  · obtain ⟨b, off, rfl, _, hc⟩ := hA.at_ (k := k) (by omega)
    have c1 := hc k (by omega)
    obtain ⟨d, hd⟩ : ∃ d, d = bt l k := ⟨_, rfl⟩
    have d0 := bt_lo l k
    have d1 := bt_hi l k
    rw [← hd] at hv c1 d0 d1
    obtain ⟨y, e1, e2, e3, hC⟩ := hF.at_ d d0 d1
    have CI := Lib.hid hC
    rw [← e1] at hv
    have E := Lib.hid hv
    clear hc hv hn hC e1 hd
    go_enter Tryz.func39, Tryz.ntmps39
    go_wp2_with (go_at_call 62; refine (CI.out _).mono ?_; rintro e w' ⟨rfl, rfl⟩)
    go_ret
    exact ⟨ret_bool E.out.symm, rfl⟩
  · have E := Lib.hid (show v = false by rw [hv, bt_far (by omega)]; exact hF.zero)
    clear hv hn
    go_enter Tryz.func39, Tryz.ntmps39
    go_wp2_with fail
    go_ret
    exact ⟨ret_bool E.out.symm, rfl⟩
theorem behind_is (n c k : Nat) {x v : Int} (w : World) (hF : FP F p) (hn : n = l.length) (hA : Byt w B A l) (hm : n ≤ 1000000) (hx : x = k) (hk : k ≤ 1000100) (hv : v = ((k + rw p (l.drop k) : Nat) : Int)) :
    Calls Tryz.prog 81 #[.slice A n c, .int .i64 x, .string F] w fun e w' => e = .returned (.int .i64 v) ∧ w = w' := by
  subst hx
  have Hn := Lib.hid hn
  have Hv := Lib.hid hv
  have HF := Lib.hid hF
  clear hn hv hF
  go_enter Tryz.func81, Tryz.ntmps81
  go_wp2
  go_loop [1] (fun i => ∃ j : Nat, i = .int .i64 j ∧ j ≤ 1000100 ∧ v = ((j + rw p (l.drop j) : Nat) : Int)) (fun i => n - (intOf i).toNat)
  case atStart => exact ⟨k, rfl, hk, Hv.out⟩
  case round =>
    obtain ⟨j, rfl, hj, hs⟩ := hrel
    have HS := Lib.hid hs
    clear hs
    have G := Lib.hid (rw_at (p := p) HF.out.zero (l := l) (k := j))
    cases hd : p (bt l j)
    · have E := Lib.hid (show rw p (l.drop j) = 0 by rw [G.out, hd]; rfl)
      have D := Lib.hid hd.symm
      clear hd G
      go_wp2_with (go_at_call 39; refine (stands_is n c j (v := false) _ HF.out Hn.out hA hm rfl D.out).mono ?_; rintro e w' ⟨rfl, rfl⟩)
      go_ret
      exact ⟨ret_int (by rw [HS.out, E.out]; rfl), rfl⟩
    · have E := Lib.hid (show rw p (l.drop j) = rw p (l.drop (j + 1)) + 1 by rw [G.out, hd, if_pos rfl])
      have hlt : j < n := by have := HF.out.in_ hd; have := Hn.out; omega
      have D := Lib.hid hd.symm
      clear hd G
      go_wp2_with (go_at_call 39; refine (stands_is n c j (v := true) _ HF.out Hn.out hA hm rfl D.out).mono ?_; rintro e w' ⟨rfl, rfl⟩)
      go_round
      case rel => exact ⟨j + 1, by go_num, by omega, by rw [HS.out, E.out]; congr 1; omega⟩
      case measure => simp [intOf]; omega
end
/-- The texts that tell tokens apart, by their tests. -/
structure Forms : Prop where
  blanks : FP ⟨#[32, 9, 10, 13]⟩ spc
  marks : FP ⟨#[123, 125, 91, 93, 44, 58]⟩ mrk
  letters : FP ⟨#[97, 98, 99, 100, 101, 102, 103, 104, 105, 106, 107, 108, 109, 110, 111, 112, 113, 114, 115, 116, 117, 118, 119, 120, 121, 122]⟩ ltr
  nums : FP ⟨#[45, 48, 49, 50, 51, 52, 53, 54, 55, 56, 57]⟩ (fun c => decide (c = 45) || dg c)
  digits : FP ⟨#[48, 49, 50, 51, 52, 53, 54, 55, 56, 57]⟩ dg
  quote : FP ⟨#[34]⟩ (fun c => decide (c = 34))
  minus : FP ⟨#[45]⟩ (fun c => decide (c = 45))
  nought : FP ⟨#[48]⟩ (fun c => decide (c = 48))
  point : FP ⟨#[46]⟩ (fun c => decide (c = 46))
  exps : FP ⟨#[101, 69]⟩ (fun c => decide (c = 101 ∨ c = 69))
  signs : FP ⟨#[43, 45]⟩ (fun c => decide (c = 43 ∨ c = 45))
  escs : FP ⟨#[34, 92, 47, 98, 102, 110, 114, 116]⟩ esc
  u : FP ⟨#[117]⟩ (fun c => decide (c = 117))
  figs : FP ⟨#[48, 49, 50, 51, 52, 53, 54, 55, 56, 57, 97, 98, 99, 100, 101, 102, 65, 66, 67, 68, 69, 70]⟩ hx
end Jk
end Go.Proofs.YtdclhepjoifpiaaGreatDoor
/- What landed: where an escape, a string end. -/
namespace Go.Proofs.YtdclhepjoifpiaaGreatDoor
open Go.RowKit
namespace Jk

/-- Where an escape ends, or where it is wrong. -/
def escE (l : List UInt8) (i : Nat) : SR :=
  if esc (bt l (i + 1)) = true then .ok (i + 2)
  else if bt l (i + 1) = 117 then (match h4 l (i + 1) with | some a => .bad a | none => .ok (i + 6))
  else .bad (i + 1)
def srV : SR → Value
  | .ok n => .tuple #[.int .i64 (n : Nat), .bool true]
  | .bad n => .tuple #[.int .i64 (n : Nat), .bool false]
/-- How far the digits of base 16 go on from a place. -/
def hxE (l : List UInt8) : Nat → Nat → SR
  | 0, k => .ok k
  | m + 1, k => if hx (bt l k) = true then hxE l m (k + 1) else .bad k
theorem hxE_h4 (l : List UInt8) (i : Nat) : hxE l 4 (i + 1) = match h4 l i with | some a => .bad a | none => .ok (i + 5) := by
  unfold h4
  cases h1 : hx (bt l (i + 1))
  · simp [hxE, h1]
  cases h2 : hx (bt l (i + 2))
  · simp [hxE, h1, h2]
  cases h3 : hx (bt l (i + 3))
  · simp [hxE, h1, h2, h3]
  cases h4 : hx (bt l (i + 4))
  · simp [hxE, h1, h2, h3, h4]
  · simp [hxE, h1, h2, h3, h4]
section
variable {l : List UInt8} {B : Nat} {A : Option Addr}
set_option maxHeartbeats 4000000 in
theorem escapeEnd_is (n c i : Nat) {x : Int} (w : World) (hF : Forms) (hn : n = l.length) (hA : Byt w B A l) (hm : n ≤ 1000000) (hx : x = i) (hi : i ≤ 1000000) :
    Calls Tryz.prog 82 #[.slice A n c, .int .i64 x] w fun e w' => e = .returned (srV (escE l i)) ∧ w = w' := by
  subst hx
  have hw1 : wrap64 ((i : Int) + 1) = ((i + 1 : Nat) : Int) := by unfold wrap64; omega
  have hw2 : wrap64 (((i + 1 : Nat) : Int) + 1) = ((i + 2 : Nat) : Int) := by unfold wrap64; omega
  have HF := Lib.hid hF
  have Hn := Lib.hid hn
  have HA := Lib.hid hA
  obtain ⟨e1, HE1⟩ : ∃ b, Hid (b = esc (bt l (i + 1))) := ⟨_, rfl⟩
  obtain ⟨e2, HE2⟩ : ∃ b, Hid (b = decide (bt l (i + 1) = 117)) := ⟨_, rfl⟩
  clear hF hn hA
  cases e1
  · cases e2
    · have E := Lib.hid (show escE l i = .bad (i + 1) by
        rw [escE, if_neg (by rw [← HE1.out]; simp), if_neg (of_decide_eq_false HE2.out.symm)])
      go_enter Tryz.func82, Tryz.ntmps82
      go_wp2_with fail
      refine (stands_is n c (i + 1) (v := false) _ HF.out.escs Hn.out HA.out hm rfl HE1.out).mono ?_
      rintro e w' ⟨rfl, rfl⟩
      go_wp2_with fail
      refine (stands_is n c (i + 1) (v := false) _ HF.out.u Hn.out HA.out hm rfl HE2.out).mono ?_
      rintro e w' ⟨rfl, rfl⟩
      go_wp2_with fail
      refine bodyPost_ret (v := .tuple #[.int .i64 ((i + 1 : Nat) : Int), .bool false]) (by simp [results, Tryz.results82, go_sem, *]) rfl ?_
      exact ⟨by rw [E.out]; rfl, rfl⟩
    · have E := Lib.hid (show escE l i = hxE l 4 (i + 2) by
        rw [escE, if_neg (by rw [← HE1.out]; simp), if_pos (of_decide_eq_true HE2.out.symm), hxE_h4 l (i + 1)])
      go_enter Tryz.func82, Tryz.ntmps82
      go_wp2_with fail
      refine (stands_is n c (i + 1) (v := false) _ HF.out.escs Hn.out HA.out hm rfl HE1.out).mono ?_
      rintro e w' ⟨rfl, rfl⟩
      go_wp2_with fail
      refine (stands_is n c (i + 1) (v := true) _ HF.out.u Hn.out HA.out hm rfl HE2.out).mono ?_
      rintro e w' ⟨rfl, rfl⟩
      go_wp2_with fail
      go_loop [4, 20] (fun s t => ∃ j m : Nat, m ≤ 4 ∧ s = .int .i64 ((i + 2 + m : Nat) : Int) ∧ t = .int .i64 m ∧ j + m = 4 ∧ Hid (escE l i = hxE l j (i + 2 + m))) (fun _ t => 4 - (intOf t).toNat)
      case atStart => exact ⟨4, 0, by omega, rfl, rfl, rfl, E⟩
      case round =>
        obtain ⟨j, m, hm4, rfl, rfl, hj, HS⟩ := hrel
        have hw3 : wrap64 (((i + 2 + m : Nat) : Int) + 1) = ((i + 2 + (m + 1) : Nat) : Int) := by unfold wrap64; omega
        have hw4 : wrap64 ((m : Int) + 1) = ((m + 1 : Nat) : Int) := by unfold wrap64; omega
        by_cases h4 : m < 4
        · obtain ⟨j, rfl⟩ : ∃ j', j = j' + 1 := ⟨j - 1, by omega⟩
          cases hd : hx (bt l (i + 2 + m))
          · have D := Lib.hid hd.symm
            have R := Lib.hid (show escE l i = .bad (i + 2 + m) by rw [HS.out, hxE, hd]; rfl)
            clear hd HS
            go_wp2_with fail
            refine (stands_is n c (i + 2 + m) (v := false) _ HF.out.figs Hn.out HA.out hm rfl D.out).mono ?_
            rintro e w' ⟨rfl, rfl⟩
            go_wp2_with fail
            refine bodyPost_ret (v := .tuple #[.int .i64 ((i + 2 + m : Nat) : Int), .bool false]) (by simp [results, Tryz.results82, go_sem, *]) rfl ?_
            exact ⟨by rw [R.out]; rfl, rfl⟩
          · have D := Lib.hid hd.symm
            have R := Lib.hid (show escE l i = hxE l j (i + 2 + (m + 1)) by rw [HS.out, hxE, hd, if_pos rfl]; rfl)
            clear hd HS
            go_wp2_with fail
            refine (stands_is n c (i + 2 + m) (v := true) _ HF.out.figs Hn.out HA.out hm rfl D.out).mono ?_
            rintro e w' ⟨rfl, rfl⟩
            go_wp2_with fail
            go_round
            case rel => exact ⟨j, m + 1, by omega, rfl, rfl, by omega, R⟩
            case measure => simp [intOf]; omega
        · obtain rfl : m = 4 := by omega
          obtain rfl : j = 0 := by omega
          have R := Lib.hid (show escE l i = .ok (i + 6) by rw [HS.out]; rfl)
          clear HS
          go_wp2_with fail
          refine bodyPost_ret (v := .tuple #[.int .i64 ((i + 2 + 4 : Nat) : Int), .bool true]) (by simp [results, Tryz.results82, go_sem, *]) rfl ?_
          exact ⟨by rw [R.out]; rfl, rfl⟩
  · have E := Lib.hid (show escE l i = .ok (i + 2) by rw [escE, if_pos HE1.out.symm])
    go_enter Tryz.func82, Tryz.ntmps82
    go_wp2_with fail
    refine (stands_is n c (i + 1) (v := true) _ HF.out.escs Hn.out HA.out hm rfl HE1.out).mono ?_
    rintro e w' ⟨rfl, rfl⟩
    go_wp2_with fail
    refine bodyPost_ret (v := .tuple #[.int .i64 ((i + 2 : Nat) : Int), .bool true]) (by simp [results, Tryz.results82, go_sem, *] <;> omega) rfl ?_
    exact ⟨by rw [E.out]; rfl, rfl⟩
end
end Jk
end Go.Proofs.YtdclhepjoifpiaaGreatDoor
/- A scope in which the run jumps to labels: at each jump the walk goes on from that label, with the frame that it has. -/
namespace Go.Proofs.YtdclhepjoifpiaaGreatDoor
open Go.RowKit
namespace Jk

/-- From code r, inside the scope of c, the run arrives at Q. -/
def SW (P : Program) (c r : Code) (Q : Exit → Act → World → Prop) (a : Act) (w : World) : Prop :=
  ∀ (b : Frame) (k : List Item) (cs : List Frame), ∃ e a' w', Q e a' w' ∧ Arrives P (lone (b.at a (.code r :: .inScope c :: k)) cs w) b k cs e a' w'
/-- At a jump: what stands behind that label; else as Q. -/
def Exit.inSc (P : Program) (c : Code) (Q : Exit → Act → World → Prop) : Exit → Act → World → Prop
  | .goto l, a, w => ∃ rest, findLabel c l = some rest ∧ SW P c rest Q a w
  | e, a, w => Q e a w
section
variable {P : Program} {c r : Code} {Q : Exit → Act → World → Prop} {a : Act} {w : World}
theorem SW.of (h : r.wp P (Exit.inSc P c Q) a w) : SW P c r Q a w := by
  intro b k cs
  obtain ⟨e, a₁, w₁, hq, harr⟩ := h b (.inScope c :: k) cs
  cases e with
  | normal => exact ⟨.normal, a₁, w₁, hq, Steps.trans harr (.one step_inScope)⟩
  | exit id => exact ⟨.exit id, a₁, w₁, hq, fun k' hk => harr k' (by simp [exitTo, hk])⟩
  | goto l =>
    obtain ⟨rest, hf, hs⟩ := hq
    obtain ⟨e₂, a₂, w₂, hq₂, harr₂⟩ := hs b k cs
    have hg : gotoIn l (.inScope c :: k) = some (.code rest :: .inScope c :: k) := by simp [gotoIn, hf]
    exact ⟨e₂, a₂, w₂, hq₂, .of_steps (harr _ hg) harr₂⟩
  | ret => exact ⟨_, a₁, w₁, hq, harr⟩
  | panic ch => exact ⟨_, a₁, w₁, hq, harr⟩
  | outgrown => exact ⟨_, a₁, w₁, hq, harr⟩
theorem wp_scope_sw (h : SW P c c Q a w) : (Code.scope c).wp P Q a w := by
  intro b k cs
  obtain ⟨e, a₁, w₁, hq, harr⟩ := h b k cs
  exact ⟨e, a₁, w₁, hq, .of_steps (.one step_scope) harr⟩
theorem wp_scope_sw' (h : ∀ C, C = c → c.wp P (Exit.inSc P C Q) a w) : (Code.scope c).wp P Q a w := wp_scope_sw (SW.of (h c rfl))
theorem inSc_ret : Exit.inSc P c Q .ret a w = Q .ret a w := rfl
theorem inSc_normal : Exit.inSc P c Q .normal a w = Q .normal a w := rfl
theorem inSc_goto {l : Nat} {rest : Code} (hf : findLabel c l = some rest) (h : rest.wp P (Exit.inSc P c Q) a w) : Exit.inSc P c Q (.goto l) a w := ⟨rest, hf, SW.of h⟩
end
end Jk
end Go.Proofs.YtdclhepjoifpiaaGreatDoor
