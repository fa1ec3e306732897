/- The law QuotesRead, walked. -/
import Derived.Test.YtilokhbhkbikiaaDoorLawLives
import Derived.Test.YtilokhbhkbikiaaDoorRRd
namespace Go.Proofs.YtilokhbhkbikiaaDoor
open Go.RowKit

theorem rread_is {l : List UInt8} {s : ByteArray} {r : Qu.Res} (w : World) (hs : s = txt l) (hl : l.length ≤ 1000000) (hr : r = Qu.rdq l) :
    Calls Tryd.prog 10 #[.string s] w fun e w' => e = .returned (rval r) ∧ Below w.heap.size w w' := hr ▸ rread_any w hs hl
/-- The list of both strings lies at block L. -/
def RdSt (w : World) (L : Nat) (s t : ByteArray) (wr : World) : Prop := Below w.heap.size w wr ∧ L < wr.heap.size ∧ w.heap.size ≤ L ∧ wr.cell? ⟨L, 0, none⟩ = some (.string s) ∧ wr.cell? ⟨L, 1, none⟩ = some (.string t)
theorem RdSt.on {w : World} {L : Nat} {s t : ByteArray} {wr w' : World} (h : RdSt w L s t wr) (hb : Below wr.heap.size wr w') : RdSt w L s t w' :=
  ⟨h.1.trans (hb.mono h.1.size), Nat.lt_of_lt_of_le h.2.1 hb.size, h.2.2.1, (hb.cell (by exact h.2.1)).trans h.2.2.2.1, (hb.cell (by exact h.2.1)).trans h.2.2.2.2⟩
set_option maxHeartbeats 4000000 in
set_option maxRecDepth 100000 in
theorem lawread_any (s : ByteArray) (w : World) (hT : Tab w) : Calls Tryd.prog 3 #[.string s] w fun e w' => e = .returned (.bool true) ∧ Below w.heap.size w w' := by
  have HL := Lib.hid lives_any
  have HT := Lib.hid hT
  clear hT
  by_cases h : s.size ≤ 2000
  · obtain ⟨t, ht⟩ : ∃ t, t = BA #[34] ++ s ++ BA #[34] := ⟨_, rfl⟩
    have H0 := Lib.hid (as_txt s)
    have H1 := Lib.hid (show t = txt ([34] ++ s.data.toList ++ [34]) by rw [ht, ← txt_app, ← txt_app, ← as_txt s]; rfl)
    have HS := Lib.hid (as_len s)
    have HSM := Lib.hid h
    have R0 : RdSt w w.heap.size s t (w.alloc (.cells #[.string s, .string t] 9)) := ⟨(Below.refl _ _).alloc (Nat.le_refl _) _, by simp, Nat.le_refl _, by rw [World.cell?_alloc_at _ _ _ _ rfl]; rfl, by rw [World.cell?_alloc_at _ _ _ _ rfl]; rfl⟩
    rw [ht] at R0
    have HTT := Lib.hid ht
    have G0 := Lib.hid (show decide ((2000 : Int) < (s.size : Int)) = false from decide_eq_false (by omega))
    clear ht
    go_enter Tryd.func3, Tryd.ntmps3
    go_wp2_with fail
    rw [G0.out]
    go_loopw [4] (fun v wr => ∃ k : Nat, k ≤ 2 ∧ v = .int .i64 k ∧ RdSt w w.heap.size s t wr) (fun v _ => 2 - (intOf v).toNat)
    case atStart => exact ⟨0, by omega, rfl, by rw [HTT.out]; exact R0⟩
    case round =>
      obtain ⟨k, hk, rfl, R⟩ := hrel
      clear R0
      have HR := Lib.hid R
      obtain ⟨_, _, _, c0, c1⟩ := R
      rcases (show k = 0 ∨ k = 1 ∨ k = 2 by omega) with rfl | rfl | rfl
      · obtain ⟨r, hr⟩ : ∃ r, r = Qu.rdq s.data.toList := ⟨_, rfl⟩
        have HRR := Lib.hid hr
        clear hr
        go_wp2_with fail
        refine (qread_is _ H0.out (by have := HS.out; have := HSM.out; omega) HRR.out (HT.out.below HR.out.1)).mono ?_
        rintro e w1 ⟨rfl, hb⟩
        cases r with
        | ok u =>
          obtain ⟨S, hS⟩ : ∃ S, txt u = S := ⟨_, rfl⟩
          rw [rval, hS]
          have HSS := Lib.hid hS
          have HR1 := Lib.hid ((HR.out.on hb).on ((Below.refl _ _).alloc (Nat.le_refl _) (.cells #[.int .i64 0, .int .i64 0] 26)))
          obtain ⟨_, _, _, d0, d1⟩ := HR1.out
          clear hb hS
          go_wp2_with fail
          refine (rread_is _ H0.out (by have := HS.out; have := HSM.out; omega) HRR.out).mono ?_
          rintro e w2 ⟨rfl, hb⟩
          rw [rval, HSS.out]
          have HR2 := Lib.hid ((HR1.out.on hb).on ((Below.refl _ _).alloc (Nat.le_refl _) (.cells #[.int .i64 0, .int .i64 0] 26)))
          have m0 := cell_old (hb.alloc hb.size (.cells #[.int .i64 0, .int .i64 0] 26)) (F := w1.heap.size) (i := 0) (v := .int .i64 0) (by simp) (by rw [World.cell?_alloc_at _ _ _ _ rfl]; rfl)
          have m1 := cell_old (hb.alloc hb.size (.cells #[.int .i64 0, .int .i64 0] 26)) (F := w1.heap.size) (i := 1) (v := .int .i64 0) (by simp) (by rw [World.cell?_alloc_at _ _ _ _ rfl]; rfl)
          clear hb
          go_wp2_with fail
          go_roundw
          case rel => exact ⟨1, by omega, by go_num, HR2.out⟩
          case measure => simp [intOf]
        | bad hf a =>
          rw [rval]
          obtain ⟨C, hC⟩ : ∃ C : Int, (if hf = true then 6 else 3) = C := ⟨_, rfl⟩
          rw [hC]
          have HCC := Lib.hid hC
          have HR1 := Lib.hid ((HR.out.on hb).on ((Below.refl _ _).alloc (Nat.le_refl _) (.cells #[.int .i64 C, .int .i64 a] 26)))
          obtain ⟨_, _, _, d0, d1⟩ := HR1.out
          clear hb hC
          go_wp2_with fail
          refine (rread_is _ H0.out (by have := HS.out; have := HSM.out; omega) HRR.out).mono ?_
          rintro e w2 ⟨rfl, hb⟩
          rw [rval, HCC.out]
          have HR2 := Lib.hid ((HR1.out.on hb).on ((Below.refl _ _).alloc (Nat.le_refl _) (.cells #[.int .i64 C, .int .i64 a] 26)))
          have m0 := cell_old (hb.alloc hb.size (.cells #[.int .i64 C, .int .i64 a] 26)) (F := w1.heap.size) (i := 0) (v := .int .i64 C) (by simp) (by rw [World.cell?_alloc_at _ _ _ _ rfl]; rfl)
          have m1 := cell_old (hb.alloc hb.size (.cells #[.int .i64 C, .int .i64 a] 26)) (F := w1.heap.size) (i := 1) (v := .int .i64 a) (by simp) (by rw [World.cell?_alloc_at _ _ _ _ rfl]; rfl)
          clear hb
          go_wp2_with fail
          go_roundw
          case rel => exact ⟨1, by omega, by go_num, HR2.out⟩
          case measure => simp [intOf]
      · obtain ⟨r, hr⟩ : ∃ r, r = Qu.rdq ([34] ++ s.data.toList ++ [34]) := ⟨_, rfl⟩
        have HRR := Lib.hid hr
        clear hr
        go_wp2_with fail
        refine (qread_is _ H1.out (by have := HS.out; have := HSM.out; simp; omega) HRR.out (HT.out.below HR.out.1)).mono ?_
        rintro e w1 ⟨rfl, hb⟩
        cases r with
        | ok u =>
          obtain ⟨S, hS⟩ : ∃ S, txt u = S := ⟨_, rfl⟩
          rw [rval, hS]
          have HSS := Lib.hid hS
          have HR1 := Lib.hid ((HR.out.on hb).on ((Below.refl _ _).alloc (Nat.le_refl _) (.cells #[.int .i64 0, .int .i64 0] 26)))
          obtain ⟨_, _, _, d0, d1⟩ := HR1.out
          clear hb hS
          go_wp2_with fail
          refine (rread_is _ H1.out (by have := HS.out; have := HSM.out; simp; omega) HRR.out).mono ?_
          rintro e w2 ⟨rfl, hb⟩
          rw [rval, HSS.out]
          have HR2 := Lib.hid ((HR1.out.on hb).on ((Below.refl _ _).alloc (Nat.le_refl _) (.cells #[.int .i64 0, .int .i64 0] 26)))
          have m0 := cell_old (hb.alloc hb.size (.cells #[.int .i64 0, .int .i64 0] 26)) (F := w1.heap.size) (i := 0) (v := .int .i64 0) (by simp) (by rw [World.cell?_alloc_at _ _ _ _ rfl]; rfl)
          have m1 := cell_old (hb.alloc hb.size (.cells #[.int .i64 0, .int .i64 0] 26)) (F := w1.heap.size) (i := 1) (v := .int .i64 0) (by simp) (by rw [World.cell?_alloc_at _ _ _ _ rfl]; rfl)
          clear hb
          go_wp2_with fail
          go_roundw
          case rel => exact ⟨2, by omega, by go_num, HR2.out⟩
          case measure => simp [intOf]
        | bad hf a =>
          rw [rval]
          obtain ⟨C, hC⟩ : ∃ C : Int, (if hf = true then 6 else 3) = C := ⟨_, rfl⟩
          rw [hC]
          have HCC := Lib.hid hC
          have HR1 := Lib.hid ((HR.out.on hb).on ((Below.refl _ _).alloc (Nat.le_refl _) (.cells #[.int .i64 C, .int .i64 a] 26)))
          obtain ⟨_, _, _, d0, d1⟩ := HR1.out
          clear hb hC
          go_wp2_with fail
          refine (rread_is _ H1.out (by have := HS.out; have := HSM.out; simp; omega) HRR.out).mono ?_
          rintro e w2 ⟨rfl, hb⟩
          rw [rval, HCC.out]
          have HR2 := Lib.hid ((HR1.out.on hb).on ((Below.refl _ _).alloc (Nat.le_refl _) (.cells #[.int .i64 C, .int .i64 a] 26)))
          have m0 := cell_old (hb.alloc hb.size (.cells #[.int .i64 C, .int .i64 a] 26)) (F := w1.heap.size) (i := 0) (v := .int .i64 C) (by simp) (by rw [World.cell?_alloc_at _ _ _ _ rfl]; rfl)
          have m1 := cell_old (hb.alloc hb.size (.cells #[.int .i64 C, .int .i64 a] 26)) (F := w1.heap.size) (i := 1) (v := .int .i64 a) (by simp) (by rw [World.cell?_alloc_at _ _ _ _ rfl]; rfl)
          clear hb
          go_wp2_with fail
          go_roundw
          case rel => exact ⟨2, by omega, by go_num, HR2.out⟩
          case measure => simp [intOf]
      · go_wp2_with fail
        refine (HL.out _ (HT.out.below HR.out.1)).mono ?_
        rintro e w1 ⟨rfl, hb⟩
        have HR1 := Lib.hid (HR.out.on hb)
        clear hb
        go_wp2_with fail
        go_ret
        exact ⟨rfl, HR1.out.1⟩
  · have h2 : (2000 : Int) < s.size := by omega
    go_enter Tryd.func3, Tryd.ntmps3
    go_wp2_with fail
    refine (HL.out _ HT.out).mono ?_
    rintro e w1 ⟨rfl, hb⟩
    have HB1 := Lib.hid hb
    clear hb
    go_wp2_with fail
    go_ret
    exact ⟨rfl, HB1.out⟩
end Go.Proofs.YtilokhbhkbikiaaDoor
