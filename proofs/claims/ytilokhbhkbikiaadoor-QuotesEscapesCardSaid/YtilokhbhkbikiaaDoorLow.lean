/- The reader's low half behind a high one. -/
import Derived.Test.YtilokhbhkbikiaaDoorNum4
import Derived.LoopTactic
namespace Go.Proofs.YtilokhbhkbikiaaDoor
open Go.RowKit

/-- The low half that stands at p, whole. -/
def lowQ (l : List UInt8) (p : Nat) : Option Nat :=
  if tkB l p 92 = true ∧ tkB l (p + 1) 117 = true then (match Qu.hx 4 0 (l.drop (p + 2)) with | .inr x => if Qu.low x.1 = true then some x.1 else none | .inl _ => none) else none
def LowPost (W : World) (b : Nat) (s : ByteArray) (l : List UInt8) (p : Nat) (t : List UInt8) (e : Ending) (w' : World) : Prop :=
  (∃ m : Nat, lowQ l p = some m ∧ m < 65536 ∧ p + 6 ≤ l.length ∧ e = .returned (.tuple #[.int .i64 m, .bool true]) ∧ RS W b s w' ((p + 6 : Nat) : Int) t) ∨
  (lowQ l p = none ∧ ∃ (n : Int) (q : Nat), e = .returned (.tuple #[.int .i64 n, .bool false]) ∧ RS W b s w' q t)
theorem low_is {n : Nat} {x : Bool} (hx : x = Qu.low n) (w : World) : Calls Tryd.prog 36 #[.int .i64 n] w fun e w' => e = .returned (.bool x) ∧ w = w' := by rw [hx, ← loI_low]; exact low_any n w
theorem high_is {n : Nat} {x : Bool} (hx : x = Qu.high n) (w : World) : Calls Tryd.prog 34 #[.int .i64 n] w fun e w' => e = .returned (.bool x) ∧ w = w' := by rw [hx, ← hiI_high]; exact high_any n w
theorem take_y {W w : World} {b : Nat} {s : ByteArray} {p : Nat} {t l : List UInt8} (c : Int) (h : RS W b s w p t) (hs : s = txt l) (hl : l.length ≤ 1000000) (hc : tkB l p c = true) :
    Calls Tryd.prog 26 #[.pointer (some ⟨b, 0, none⟩), .int .u8 c] w fun e w' => e = .returned (.bool true) ∧ RS W b s w' ((p + 1 : Nat) : Int) t := by
  obtain ⟨h1, h2⟩ : p < l.length ∧ bt l p = c := by simpa [tkB] using hc
  exact take_yes h hs hl h1 h2
theorem take_n {W w : World} {b : Nat} {s : ByteArray} {p : Nat} {t l : List UInt8} (c : Int) (h : RS W b s w p t) (hs : s = txt l) (hl : l.length ≤ 1000000) (hp : p ≤ l.length) (hc : tkB l p c = false) :
    Calls Tryd.prog 26 #[.pointer (some ⟨b, 0, none⟩), .int .u8 c] w fun e w' => e = .returned (.bool false) ∧ RS W b s w' p t := by
  have := take_any h hs hl hp c (B := false) hc.symm
  simpa using this
theorem tkB_lt {l : List UInt8} {p : Nat} {c : Int} (h : tkB l p c = true) : p + 1 ≤ l.length := by
  have := of_decide_eq_true h; omega
section
variable {W w : World} {b : Nat} {s : ByteArray} {p : Nat} {t l : List UInt8}
set_option maxHeartbeats 1000000 in
theorem lowOne_any (h : RS W b s w p t) (hs : s = txt l) (hl : l.length ≤ 1000000) (hp : p ≤ l.length) :
    Calls Tryd.prog 35 #[.pointer (some ⟨b, 0, none⟩)] w (LowPost W b s l p t) := by
  have HR := Lib.hid h
  have HS := Lib.hid hs
  have HL := Lib.hid hl
  have HP := Lib.hid hp
  clear h hs hl hp
  cases a1 : tkB l p 92
  · have E := Lib.hid (show lowQ l p = none by rw [lowQ, if_neg (by simp [a1])])
    have A1 := Lib.hid a1
    clear a1
    go_enter Tryd.func35, Tryd.ntmps35
    go_wp2_with fail
    refine (take_n 92 HR.out HS.out HL.out HP.out A1.out).mono ?_
    rintro e w1 ⟨rfl, R1⟩
    have HR1 := Lib.hid R1
    clear R1
    go_wp2_with fail
    go_ret2
    exact .inr ⟨E.out, _, _, rfl, HR1.out⟩
  · have hp1 := tkB_lt a1
    have A1 := Lib.hid a1
    have HP1 := Lib.hid hp1
    clear hp1
    cases a2 : tkB l (p + 1) 117
    · have E := Lib.hid (show lowQ l p = none by rw [lowQ, if_neg (by simp [a2])])
      have A2 := Lib.hid a2
      clear a1 a2
      go_enter Tryd.func35, Tryd.ntmps35
      go_wp2_with fail
      refine (take_y 92 HR.out HS.out HL.out A1.out).mono ?_
      rintro e w1 ⟨rfl, R1⟩
      have HR1 := Lib.hid R1
      clear R1
      go_wp2_with fail
      refine (take_n 117 HR1.out HS.out HL.out HP1.out A2.out).mono ?_
      rintro e w2 ⟨rfl, R2⟩
      have HR2 := Lib.hid R2
      clear R2
      go_wp2_with fail
      go_ret2
      exact .inr ⟨E.out, _, _, rfl, HR2.out⟩
    · have E := Lib.hid (show lowQ l p = (match Qu.hx 4 0 (l.drop (p + 2)) with | .inr x => if Qu.low x.1 = true then some x.1 else none | .inl _ => none) by rw [lowQ, if_pos ⟨a1, a2⟩])
      have A2 := Lib.hid a2
      have HP2 := Lib.hid (tkB_lt a2)
      clear a1 a2
      go_enter Tryd.func35, Tryd.ntmps35
      go_wp2_with fail
      refine (take_y 92 HR.out HS.out HL.out A1.out).mono ?_
      rintro e w1 ⟨rfl, R1⟩
      have HR1 := Lib.hid R1
      clear R1
      go_wp2_with fail
      refine (take_y 117 HR1.out HS.out HL.out A2.out).mono ?_
      rintro e w2 ⟨rfl, R2⟩
      have HR2 := Lib.hid R2
      clear R2
      go_wp2_with fail
      refine (number4_any HR2.out HS.out HL.out HP2.out).mono ?_
      rintro e w3 (⟨j, e1, rfl, R3⟩ | ⟨n, e1, e2, e3, rfl, R3⟩)
      · have E1 := Lib.hid e1
        have HR3 := Lib.hid R3
        clear e1 R3
        go_wp2_with fail
        go_ret2
        exact .inr ⟨by rw [E.out, E1.out], _, _, rfl, HR3.out⟩
      · have E1 := Lib.hid e1
        have E2 := Lib.hid e2
        have E3 := Lib.hid e3
        have HR3 := Lib.hid R3
        obtain ⟨x, HX⟩ : ∃ x, Hid (x = Qu.low n) := ⟨_, rfl⟩
        clear e1 R3 e2 e3
        go_wp2_with fail
        refine (low_is HX.out _).mono ?_
        rintro e w4 ⟨rfl, rfl⟩
        go_wp2_with fail
        go_ret2
        cases x
        · exact .inr ⟨by rw [E.out, E1.out]; simp [← HX.out], _, _, rfl, HR3.out⟩
        · exact .inl ⟨n, by rw [E.out, E1.out]; simp [← HX.out], E3.out, E2.out, rfl, HR3.out⟩
end
end Go.Proofs.YtilokhbhkbikiaaDoor
