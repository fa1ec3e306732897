/- What landed: what a text without marks tells. -/
import Derived.Test.YtbeefjhcbphiaaaGreatDoorHo
import Derived.Test.YtbeefjhcbphiaaaGreatDoorGb
import Derived.Test.YtbeefjhcbphiaaaGreatDoorGn
namespace Go.Proofs.YtbeefjhcbphiaaaGreatDoor
open Go.RowKit
namespace Tv
open Ty (WR1 KR Ky Bs blK endP endP_on endP_no endP_far)

def TRUE : Bs := [116, 114, 117, 101]
def FALSE : Bs := [102, 97, 108, 115, 101]
theorem lbeq (l m : Bs) : (l == m) = decide (l = m) := by
  cases h : l == m with
  | true => exact (decide_eq_true (eq_of_beq h)).symm
  | false => exact (decide_eq_false (fun e => by rw [e] at h; simp at h)).symm
/-- A token: kind, text, code. -/
def tokB (l : Bs) : Nat × Bs × Nat :=
  if l = TRUE then (1, TRUE, 0) else if l = FALSE then (1, FALSE, 0) else match II.In.rd l with
    | .ok t => (4, t, 0)
    | .big => (4, [], 8)
    | .syn => (5, (Fl.rdF l).1, (Fl.rdF l).2.toNat)
def tellB (l : Bs) : Tk := if 0 < Da.en l then ⟨6, (Da.rdD (l.take (Da.en l))).1, Da.en l, (Da.rdD (l.take (Da.en l))).2.toNat⟩
  else ⟨(tokB (l.take (endP tkC l 0))).1, (tokB (l.take (endP tkC l 0))).2.1, endP tkC l 0, (tokB (l.take (endP tkC l 0))).2.2⟩
theorem rdD_nn (l : Bs) : 0 ≤ (Da.rdD l).2 := by
  unfold Da.rdD
  split
  · split <;> simp
  · simp
theorem derd_nn (l : Bs) : 0 ≤ (De.rd l).2 := by
  unfold De.rd
  repeat' split
  all_goals simp
theorem rdF_nn (l : Bs) : 0 ≤ (Fl.rdF l).2 := by
  unfold Fl.rdF
  split
  · simp
  · split
    · simp
    · split
      · exact derd_nn _
      · simp
set_option maxHeartbeats 4000000 in
set_option maxRecDepth 100000 in
theorem token_is {l : Bs} {s : ByteArray} (w : World) (hs : s = txt l) (hl : l.length ≤ 50000) (hT : Fl.AllT w) :
    Calls Tryz.prog 135 #[.string s] w fun e w' => e = .returned (.tuple #[.int .u8 ((tokB l).1 : Nat), .string (txt (tokB l).2.1), .int .i64 ((tokB l).2.2 : Nat)]) ∧ Below w.heap.size w w' := by
  obtain ⟨x1, hx1⟩ : ∃ x, x = decide (l = TRUE) := ⟨_, rfl⟩
  obtain ⟨x2, hx2⟩ : ∃ x, x = decide (l = FALSE) := ⟨_, rfl⟩
  have e1 : (s.toList == ([116, 114, 117, 101] : List UInt8)) = x1 := by rw [hx1, hs, Ty.txt_list]; exact lbeq _ _
  have e2 : (s.toList == ([102, 97, 108, 115, 101] : List UInt8)) = x2 := by rw [hx2, hs, Ty.txt_list]; exact lbeq _ _
  have CI := Lib.hid (II.pread_is (R := II.In.rd l) w hs (by omega) rfl hT.int)
  have CF := Lib.hid (fun (wx : World) (hb : Below w.heap.size w wx) => Fl.fread_is wx hs (by omega) (hT.below hb))
  have HX1 := Lib.hid hx1
  have HX2 := Lib.hid hx2
  have HF0 := Lib.hid (rdF_nn l)
  clear hs hl hT hx1 hx2
  cases x1 with
  | true =>
    have HV := Lib.hid (show tokB l = (1, TRUE, 0) from if_pos (of_decide_eq_true HX1.out.symm))
    go_enter Tryz.func135, Tryz.ntmps135
    go_wp2_with fail
    refine bodyPost_ret (v := .tuple #[.int .u8 1, .string ⟨#[116, 114, 117, 101]⟩, .int .i64 0]) (by simp [results, Tryz.results135, go_sem, *]) rfl ?_
    exact ⟨by rw [HV.out]; rfl, Below.refl _ _⟩
  | false =>
    have n1 := of_decide_eq_false HX1.out.symm
    cases x2 with
    | true =>
      have HV := Lib.hid (show tokB l = (1, FALSE, 0) by unfold tokB; rw [if_neg n1, if_pos (of_decide_eq_true HX2.out.symm)])
      clear n1
      go_enter Tryz.func135, Tryz.ntmps135
      go_wp2_with fail
      refine bodyPost_ret (v := .tuple #[.int .u8 1, .string ⟨#[102, 97, 108, 115, 101]⟩, .int .i64 0]) (by simp [results, Tryz.results135, go_sem, *]) rfl ?_
      exact ⟨by rw [HV.out]; rfl, Below.refl _ _⟩
    | false =>
      have HV := Lib.hid (show tokB l = match II.In.rd l with | .ok t => (4, t, 0) | .big => (4, [], 8) | .syn => (5, (Fl.rdF l).1, (Fl.rdF l).2.toNat) by unfold tokB; rw [if_neg n1, if_neg (of_decide_eq_false HX2.out.symm)])
      clear n1
      cases hr : II.In.rd l with
      | ok t =>
        rw [hr] at CI HV
        obtain ⟨T, hT⟩ : ∃ T, T = txt t := ⟨_, rfl⟩
        have HT := Lib.hid hT
        have CI := Lib.hid (show Calls Tryz.prog 144 #[.string s] w fun e w' => e = .returned (.tuple #[.string T, .int .i64 0]) ∧ Below w.heap.size w w' by rw [hT]; exact CI.out)
        clear hr hT
        go_enter Tryz.func135, Tryz.ntmps135
        go_wp2_with fail
        refine CI.out.mono ?_
        rintro e w1 ⟨rfl, hb⟩
        have HB := Lib.hid hb
        clear hb
        go_wp2_with fail
        refine bodyPost_ret (v := .tuple #[.int .u8 4, .string T, .int .i64 0]) (by simp [results, Tryz.results135, go_sem, *]) rfl ?_
        exact ⟨by rw [HV.out, HT.out]; rfl, HB.out⟩
      | big =>
        rw [hr] at CI HV
        have CI := Lib.hid (show Calls Tryz.prog 144 #[.string s] w fun e w' => e = .returned (.tuple #[.string ⟨#[]⟩, .int .i64 8]) ∧ Below w.heap.size w w' from CI.out)
        clear hr
        go_enter Tryz.func135, Tryz.ntmps135
        go_wp2_with fail
        refine CI.out.mono ?_
        rintro e w1 ⟨rfl, hb⟩
        have HB := Lib.hid hb
        clear hb
        go_wp2_with fail
        refine bodyPost_ret (v := .tuple #[.int .u8 4, .string ⟨#[]⟩, .int .i64 8]) (by simp [results, Tryz.results135, go_sem, *]) rfl ?_
        exact ⟨by rw [HV.out]; rfl, HB.out⟩
      | syn =>
        rw [hr] at CI HV
        have CI := Lib.hid (show Calls Tryz.prog 144 #[.string s] w fun e w' => e = .returned (.tuple #[.string ⟨#[]⟩, .int .i64 3]) ∧ Below w.heap.size w w' from CI.out)
        obtain ⟨T, hT⟩ : ∃ T, T = txt (Fl.rdF l).1 := ⟨_, rfl⟩
        obtain ⟨C, hC⟩ : ∃ C, C = (Fl.rdF l).2 := ⟨_, rfl⟩
        rw [← hT, ← hC] at CF
        have HV := Lib.hid (show tokB l = (5, (Fl.rdF l).1, C.toNat) by rw [hC]; exact HV.out)
        have HT := Lib.hid hT
        have HC := Lib.hid (show ((C.toNat : Nat) : Int) = C by have := HF0.out; omega)
        clear hr hT hC
        go_enter Tryz.func135, Tryz.ntmps135
        go_wp2_with fail
        refine CI.out.mono ?_
        rintro e w1 ⟨rfl, hb⟩
        have HB := Lib.hid hb
        clear hb
        go_wp2_with fail
        refine (CF.out _ HB.out).mono ?_
        rintro e w2 ⟨rfl, hb⟩
        have HB2 := Lib.hid (below_tr HB.out hb)
        clear hb
        go_wp2_with fail
        refine bodyPost_ret (v := .tuple #[.int .u8 5, .string T, .int .i64 C]) (by simp [results, Tryz.results135, go_sem, *]) rfl ?_
        exact ⟨by rw [HV.out, HT.out, HC.out]; rfl, HB2.out⟩
end Tv
end Go.Proofs.YtbeefjhcbphiaaaGreatDoor
/- What landed: what a text tells from its first byte on. -/
namespace Go.Proofs.YtbeefjhcbphiaaaGreatDoor
open Go.RowKit
namespace Tv
open Ty (WR1 KR Ky Bs blK endP endP_on endP_no endP_far)

set_option maxHeartbeats 4000000 in
set_option maxRecDepth 100000 in
theorem tell_is {l : Bs} {s : ByteArray} (w : World) (hs : s = txt l) (hl : l.length ≤ 50000) (hT : Fl.AllT w) :
    Calls Tryz.prog 110 #[.string s] w fun e w' => e = .returned (.tuple #[.int .u8 ((tellB l).kind : Nat), .string (txt (tellB l).text), .int .i64 ((tellB l).many : Nat), .int .i64 ((tellB l).code : Nat)]) ∧ Below w.heap.size w w' := by
  obtain ⟨N, hN⟩ : ∃ N, N = Da.en l := ⟨_, rfl⟩
  have CL := Lib.hid (Da.Long_is (k := (N : Nat)) w hs (by omega) (by rw [hN]))
  have hNl : N ≤ l.length := by rw [hN]; exact Da.en_le l
  have HSZ := Lib.hid (show s.size = l.length by rw [hs, txt_size])
  have hsz : s.size ≤ 50000 := by rw [hs, txt_size]; exact hl
  have HS := Lib.hid hs
  have HT := Lib.hid hT
  by_cases h0 : 0 < N
  · obtain ⟨T, hT0⟩ : ∃ T, T = txt (Da.rdD (l.take N)).1 := ⟨_, rfl⟩
    obtain ⟨C, hC⟩ : ∃ C, C = (Da.rdD (l.take N)).2 := ⟨_, rfl⟩
    have CR := Lib.hid (fun w => Da.Read_is (l := l.take N) (s := s.extract 0 N) w (by rw [hs, txt_cut]; rfl) (by rw [List.length_take]; omega))
    rw [← hT0, ← hC] at CR
    have HV := Lib.hid (show tellB l = ⟨6, (Da.rdD (l.take N)).1, N, C.toNat⟩ by unfold tellB; rw [← hN, if_pos h0, hC])
    have HC := Lib.hid (show ((C.toNat : Nat) : Int) = C by have := rdD_nn (l.take N); rw [← hC] at this; omega)
    have HT0 := Lib.hid hT0
    have h0' : (0 : Int) < N := by omega
    have hNs : (N : Int) ≤ s.size := by rw [HSZ.out]; omega
    clear hs hl hT hN hNl hT0 hC h0
    go_enter Tryz.func110, Tryz.ntmps110
    go_wp2_with fail
    refine CL.out.mono ?_
    rintro e w1 ⟨rfl, hb⟩
    have HB := Lib.hid hb
    clear hb
    go_wp2_with fail
    refine (CR.out _).mono ?_
    rintro e w2 ⟨rfl, hb⟩
    have HB2 := Lib.hid (below_tr HB.out hb)
    clear hb
    go_wp2_with fail
    refine bodyPost_ret (v := .tuple #[.int .u8 6, .string T, .int .i64 (N : Nat), .int .i64 C]) (by simp [results, Tryz.results110, go_sem, *]) rfl ?_
    exact ⟨by rw [HV.out, HT0.out, HC.out]; rfl, HB2.out⟩
  · obtain rfl : N = 0 := by omega
    have HV := Lib.hid (show tellB l = ⟨(tokB (l.take (endP tkC l 0))).1, (tokB (l.take (endP tkC l 0))).2.1, endP tkC l 0, (tokB (l.take (endP tkC l 0))).2.2⟩ by unfold tellB; rw [← hN, if_neg (by omega)])
    clear hs hl hT hN hNl h0
    go_enter Tryz.func110, Tryz.ntmps110
    go_wp2_with fail
    refine CL.out.mono ?_
    rintro e w1 ⟨rfl, hb⟩
    have HB := Lib.hid hb
    clear hb
    go_wp2_with fail
    go_loopw [4] (fun a wr => wr = w1 ∧ ∃ k : Nat, k ≤ s.size ∧ a = .int .i64 k ∧ Hid (endP tkC l k = endP tkC l 0)) (fun a _ => s.size - (intOf a).toNat)
    case atStart => exact ⟨rfl, 0, Nat.zero_le _, rfl, Lib.hid rfl⟩
    case round =>
      obtain ⟨rfl, k, hk, rfl, HE1⟩ := hrel
      by_cases hlt : k < s.size ∧ tkC (bt l k) = true
      · obtain ⟨hlt, hb⟩ := hlt
        have hkl : k < l.length := by rw [← HSZ.out]; exact hlt
        have hx := txt_at HS.out (k := k)
        obtain ⟨y, HY⟩ : ∃ y, Hid (y = bt l k) := ⟨_, rfl⟩
        rw [← HY.out] at hx
        have HE2 := Lib.hid (show endP tkC l (k + 1) = endP tkC l 0 by rw [← HE1.out, endP_on hkl hb])
        have HBB := Lib.hid (show true = tkC y by rw [HY.out]; exact hb.symm)
        have HY0 := Lib.hid (show 0 ≤ y ∧ y < 256 by rw [HY.out]; have := bt_lo l k; have := bt_hi l k; omega)
        clear hb hkl
        go_wp2_with fail
        refine (intok_is _ HY0.out.1 HY0.out.2 HBB.out).mono ?_
        rintro e w3 ⟨rfl, rfl⟩
        go_wp2_with fail
        go_roundw
        case rel => exact ⟨by first | rfl | trivial, k + 1, by omega, by go_num, HE2⟩
        case measure => simp [intOf]; omega
      · have hek : endP tkC l k = k := by
          by_cases h1 : k < l.length ∧ tkC (bt l k) = true
          · exact absurd ⟨by rw [HSZ.out]; exact h1.1, h1.2⟩ hlt
          · rw [endP, if_neg h1]
        have he0 : endP tkC l 0 = k := HE1.out.symm.trans hek
        obtain ⟨q, hq⟩ : ∃ q, q = tokB (l.take k) := ⟨_, rfl⟩
        obtain ⟨T, hT0⟩ : ∃ T, T = txt q.2.1 := ⟨_, rfl⟩
        have CR := Lib.hid (token_is (l := l.take k) (s := s.extract 0 k) wr (by rw [HS.out, txt_cut]; rfl) (by rw [List.length_take]; have := HSZ.out; omega) (HT.out.below HB.out))
        rw [← hq, ← hT0] at CR
        have HV2 := Lib.hid (show tellB l = ⟨q.1, q.2.1, k, q.2.2⟩ by rw [HV.out, he0, ← hq])
        have HT0 := Lib.hid hT0
        obtain ⟨qa, qb, qc⟩ := q
        simp only at CR
        have hks : (k : Int) ≤ s.size := by omega
        by_cases hlt2 : k < s.size
        · have hkl : k < l.length := by rw [← HSZ.out]; exact hlt2
          have hb : tkC (bt l k) = false := by cases h : tkC (bt l k) with | false => rfl | true => exact absurd ⟨hlt2, h⟩ hlt
          have hx := txt_at HS.out (k := k)
          obtain ⟨y, HY⟩ : ∃ y, Hid (y = bt l k) := ⟨_, rfl⟩
          rw [← HY.out] at hx
          have HBB := Lib.hid (show false = tkC y by rw [HY.out]; exact hb.symm)
          have HY0 := Lib.hid (show 0 ≤ y ∧ y < 256 by rw [HY.out]; have := bt_lo l k; have := bt_hi l k; omega)
          clear hb hkl hek he0 hq hT0 hlt
          go_wp2_with fail
          refine (intok_is _ HY0.out.1 HY0.out.2 HBB.out).mono ?_
          rintro e w3 ⟨rfl, rfl⟩
          go_wp2_with fail
          refine CR.out.mono ?_
          rintro e w4 ⟨rfl, hb⟩
          have HB4 := Lib.hid (below_tr HB.out hb)
          clear hb
          go_wp2_with fail
          refine bodyPost_ret (v := .tuple #[.int .u8 (qa : Nat), .string T, .int .i64 (k : Nat), .int .i64 (qc : Nat)]) (by simp [results, Tryz.results110, go_sem, *]) rfl ?_
          exact ⟨by rw [HV2.out, HT0.out], HB4.out⟩
        · obtain rfl : k = s.size := by omega
          rw [show s.extract 0 s.size = s by simp] at CR
          clear hek he0 hq hT0 hlt hlt2
          go_wp2_with fail
          refine CR.out.mono ?_
          rintro e w4 ⟨rfl, hb⟩
          have HB4 := Lib.hid (below_tr HB.out hb)
          clear hb
          go_wp2_with fail
          refine bodyPost_ret (v := .tuple #[.int .u8 (qa : Nat), .string T, .int .i64 (s.size : Nat), .int .i64 (qc : Nat)]) (by simp [results, Tryz.results110, go_sem, *]) rfl ?_
          exact ⟨by rw [HV2.out, HT0.out], HB4.out⟩
end Tv
end Go.Proofs.YtbeefjhcbphiaaaGreatDoor
