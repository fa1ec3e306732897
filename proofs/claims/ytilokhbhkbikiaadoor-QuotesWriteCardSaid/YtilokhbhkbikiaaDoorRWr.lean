/- The document's writing of a string. -/
import Derived.Test.YtilokhbhkbikiaaDoorQWr
import Derived.Deep.QuietTactic
import Derived.BigQuiet
namespace Go.Proofs.YtilokhbhkbikiaaDoor
open Go.RowKit

theorem fig_cut {n : Nat} (h : n < 16) : (⟨#[48, 49, 50, 51, 52, 53, 54, 55, 56, 57, 97, 98, 99, 100, 101, 102]⟩ : ByteArray).extract n (n + 1) = txt [Qu.hxd n] := by
  have : ∀ n : Fin 16, ((⟨#[48, 49, 50, 51, 52, 53, 54, 55, 56, 57, 97, 98, 99, 100, 101, 102]⟩ : ByteArray).extract n.1 (n.1 + 1)).data.toList = [Qu.hxd n.1] := by decide +kernel
  have e := this ⟨n, h⟩
  apply ByteArray.ext
  apply Array.ext'
  simpa [txt] using e
theorem below_drewN {B : Nat} {a w : World} (h : Below B a w) (n : Nat) : Below B a (w.drewN n) := ⟨h.os, h.tape, h.output, h.size, h.block⟩
/-- What is written so far. -/
def WS (l : List UInt8) (k : Nat) (S : ByteArray) : Prop := S = txt (34 :: Qu.escs (l.take k))
theorem WS.next {l : List UInt8} {k : Nat} {S : ByteArray} (h : WS l k S) (hk : k < l.length) {u : List UInt8} {U : ByteArray} (hU : U = txt u) (he : Qu.esc l[k] = u) : WS l (k + 1) (S ++ U) := by
  unfold WS at *
  rw [h, hU, txt_app, escs_take hk, he]; rfl
theorem WS.size {l : List UInt8} {k : Nat} {S : ByteArray} (h : WS l k S) (hl : l.length ≤ 1000000) : S.size ≤ 6000001 := by
  unfold WS at h
  have := escs_len (l.take k)
  have h2 : (l.take k).length ≤ l.length := by simp; omega
  rw [h, txt_size]; simp; omega
theorem esc_of {c d : UInt8} {y : Int} (h : y = (c.toNat : Int)) (hd : y = (d.toNat : Int)) : c = d := UInt8.toNat_inj.1 (by omega)
set_option maxHeartbeats 4000000 in
set_option maxRecDepth 100000 in
theorem rwrite_any {l : List UInt8} {s : ByteArray} (w : World) (hs : s = txt l) (hl : l.length ≤ 1000000) :
    Calls Tryd.prog 12 #[.string s] w fun e w' => e = .returned (.string (txt (Qu.wrq l))) ∧ Below w.heap.size w w' := by
  have HS := Lib.hid hs
  have HL := Lib.hid hl
  have HZ := Lib.hid (show s.size = l.length by rw [hs, txt_size])
  have hsz : s.size ≤ 1000000 := by rw [hs, txt_size]; exact hl
  have R0 : WS l 0 ⟨#[34]⟩ := by unfold WS; rw [List.take_zero]; rfl
  clear hs hl
  go_enter Tryd.func12, Tryd.ntmps12
  go_wp2_with fail
  go_loopw [3, 4] (fun v i wr => ∃ (k : Nat) (S : ByteArray), k ≤ s.size ∧ i = .int .i64 k ∧ v = .string S ∧ WS l k S ∧ Below w.heap.size w wr) (fun _ i _ => s.size - (intOf i).toNat)
  case atStart => exact ⟨0, _, Nat.zero_le _, rfl, rfl, R0, Below.refl _ _⟩
  case round =>
    obtain ⟨k, S, hk, rfl, rfl, R, hb⟩ := hrel
    clear R0
    have HR := Lib.hid R
    have HB := Lib.hid hb
    have hS1 := R.size HL.out
    clear R hb
    by_cases hlt : k < s.size
    · have hkl : k < l.length := by rw [← HZ.out]; exact hlt
      have hx := txt_at HS.out (k := k)
      obtain ⟨y, HY⟩ : ∃ y, Hid (y = bt l k) := ⟨_, rfl⟩
      rw [← HY.out] at hx
      have HC := Lib.hid (show y = ((l[k]'hkl).toNat : Int) by rw [HY.out]; simp [bt, hkl])
      have hy0 : 0 ≤ y := by have := HC.out; omega
      have hy1 : y ≤ 255 := by have := (l[k]'hkl).toNat_lt; have := HC.out; omega
      by_cases c34 : y = 34
      · have N := Lib.hid (HR.out.next hkl (U := ⟨#[92, 34]⟩) (u := [92, 34]) rfl (by rw [esc_of HC.out (d := 34) (by rw [c34]; rfl)]; decide))
        subst c34
        go_wp2_with fail
        go_roundw
        case rel => exact ⟨k + 1, _, by omega, by go_num, rfl, N.out, HB.out⟩
        case measure => simp [intOf]; omega
      by_cases c92 : y = 92
      · have N := Lib.hid (HR.out.next hkl (U := ⟨#[92, 92]⟩) (u := [92, 92]) rfl (by rw [esc_of HC.out (d := 92) (by rw [c92]; rfl)]; decide))
        subst c92
        go_wp2_with fail
        go_roundw
        case rel => exact ⟨k + 1, _, by omega, by go_num, rfl, N.out, HB.out⟩
        case measure => simp [intOf]; omega
      by_cases c8 : y = 8
      · have N := Lib.hid (HR.out.next hkl (U := ⟨#[92, 98]⟩) (u := [92, 98]) rfl (by rw [esc_of HC.out (d := 8) (by rw [c8]; rfl)]; decide))
        subst c8
        go_wp2_with fail
        go_roundw
        case rel => exact ⟨k + 1, _, by omega, by go_num, rfl, N.out, HB.out⟩
        case measure => simp [intOf]; omega
      by_cases c12 : y = 12
      · have N := Lib.hid (HR.out.next hkl (U := ⟨#[92, 102]⟩) (u := [92, 102]) rfl (by rw [esc_of HC.out (d := 12) (by rw [c12]; rfl)]; decide))
        subst c12
        go_wp2_with fail
        go_roundw
        case rel => exact ⟨k + 1, _, by omega, by go_num, rfl, N.out, HB.out⟩
        case measure => simp [intOf]; omega
      by_cases c10 : y = 10
      · have N := Lib.hid (HR.out.next hkl (U := ⟨#[92, 110]⟩) (u := [92, 110]) rfl (by rw [esc_of HC.out (d := 10) (by rw [c10]; rfl)]; decide))
        subst c10
        go_wp2_with fail
        go_roundw
        case rel => exact ⟨k + 1, _, by omega, by go_num, rfl, N.out, HB.out⟩
        case measure => simp [intOf]; omega
      by_cases c13 : y = 13
      · have N := Lib.hid (HR.out.next hkl (U := ⟨#[92, 114]⟩) (u := [92, 114]) rfl (by rw [esc_of HC.out (d := 13) (by rw [c13]; rfl)]; decide))
        subst c13
        go_wp2_with fail
        go_roundw
        case rel => exact ⟨k + 1, _, by omega, by go_num, rfl, N.out, HB.out⟩
        case measure => simp [intOf]; omega
      by_cases c9 : y = 9
      · have N := Lib.hid (HR.out.next hkl (U := ⟨#[92, 116]⟩) (u := [92, 116]) rfl (by rw [esc_of HC.out (d := 9) (by rw [c9]; rfl)]; decide))
        subst c9
        go_wp2_with fail
        go_roundw
        case rel => exact ⟨k + 1, _, by omega, by go_num, rfl, N.out, HB.out⟩
        case measure => simp [intOf]; omega
      have d34 : (y == 34) = false := by simp [c34]
      have d92 : (y == 92) = false := by simp [c92]
      have d8 : (y == 8) = false := by simp [c8]
      have d12 : (y == 12) = false := by simp [c12]
      have d10 : (y == 10) = false := by simp [c10]
      have d13 : (y == 13) = false := by simp [c13]
      have d9 : (y == 9) = false := by simp [c9]
      by_cases h32 : y < 32
      · have hp : plnI (((l[k]'hkl).toNat : Nat) : Int) = false := by rw [← HC.out]; simp [plnI]; omega
        obtain ⟨_, he⟩ := esc_ctl hp (fun j hj => by
          rw [← HC.out]
          obtain rfl | rfl | rfl | rfl | rfl | rfl | rfl | rfl : j = 0 ∨ j = 1 ∨ j = 2 ∨ j = 3 ∨ j = 4 ∨ j = 5 ∨ j = 6 ∨ j = 7 := by omega
          all_goals (simp; omega))
        obtain ⟨A, HA⟩ : ∃ A, Hid (A = txt [Qu.hxd ((l[k]'hkl).toNat / 16)]) := ⟨_, rfl⟩
        obtain ⟨D, HD⟩ : ∃ D, Hid (D = txt [Qu.hxd ((l[k]'hkl).toNat % 16)]) := ⟨_, rfl⟩
        have hlen1 : A.size = 1 := by rw [HA.out]; rfl
        have hlen2 : D.size = 1 := by rw [HD.out]; rfl
        have eA : (⟨#[48, 49, 50, 51, 52, 53, 54, 55, 56, 57, 97, 98, 99, 100, 101, 102]⟩ : ByteArray).extract (y / 16).toNat (y / 16 + 1).toNat = A := by
          rw [HA.out, ← fig_cut (by have := HC.out; omega)]
          congr 1 <;> (have := HC.out; omega)
        have eD : (⟨#[48, 49, 50, 51, 52, 53, 54, 55, 56, 57, 97, 98, 99, 100, 101, 102]⟩ : ByteArray).extract (y % 16).toNat (y % 16 + 1).toNat = D := by
          rw [HD.out, ← fig_cut (by have := HC.out; omega)]
          congr 1 <;> (have := HC.out; omega)
        have w1 : IntKind.u8.wrap (y / 16) = y / 16 := by rw [IntKind.wrap_u8']; omega
        have w2 : IntKind.u8.wrap (y / 16 + 1) = y / 16 + 1 := by rw [IntKind.wrap_u8']; omega
        have w3 : IntKind.u8.wrap (y % 16 + 1) = y % 16 + 1 := by rw [IntKind.wrap_u8']; omega
        have w4 : y.tmod 16 = y % 16 := Int.tmod_eq_emod_of_nonneg hy0
        have w5 : y.tdiv 16 = y / 16 := Int.tdiv_eq_ediv_of_nonneg hy0
        have q0 : 0 ≤ y / 16 := by omega
        have q1 : y / 16 < 16 := by omega
        have q2 : 0 ≤ y % 16 := by omega
        have q3 : y % 16 < 16 := by omega
        have N := Lib.hid (HR.out.next hkl (U := ⟨#[92, 117, 48, 48]⟩ ++ A ++ D) (by rw [HA.out, HD.out]; rfl) he)
        go_wp2_with fail
        go_quiet (fail)
        go_wp2_with fail
        go_roundw
        case rel => exact ⟨k + 1, _, by omega, by go_num, rfl, by have := N.out; rwa [← ByteArray.append_assoc, ← ByteArray.append_assoc] at this, below_drewN HB.out _⟩
        case measure => simp [intOf]; omega
      · have hp : plnI (((l[k]'hkl).toNat : Nat) : Int) = true := by rw [← HC.out]; simp [plnI, c34, c92]; omega
        have hcut := Lib.hid (show s.extract k (k + 1) = txt [l[k]'hkl] by
          rw [HS.out, txt_cut]; congr 1
          rw [List.drop_take, show k + 1 - k = 1 by omega, List.drop_eq_getElem_cons hkl]; rfl)
        have N := Lib.hid (HR.out.next hkl (U := s.extract k (k + 1)) hcut.out (esc_plain hp))
        go_wp2_with fail
        go_roundw
        case rel => exact ⟨k + 1, _, by omega, by go_num, rfl, N.out, HB.out⟩
        case measure => simp [intOf]; omega
    · obtain rfl : k = s.size := by omega
      have HK := Lib.hid (show l.take s.size = l by rw [HZ.out, List.take_length])
      clear hlt
      go_wp2_with fail
      go_ret
      refine ⟨?_, HB.out⟩
      have := HR.out
      unfold WS at this
      rw [this, HK.out, show (⟨#[34]⟩ : ByteArray) = txt [34] from rfl, txt_app]; rfl
end Go.Proofs.YtilokhbhkbikiaaDoor
