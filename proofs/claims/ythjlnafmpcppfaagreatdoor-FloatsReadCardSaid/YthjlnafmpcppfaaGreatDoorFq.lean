/- The laws' own helpers, walked: is, fails, lives; the chapter's examples. -/
import Derived.Test.YthjlnafmpcppfaaGreatDoorFp
namespace Go.Proofs.YthjlnafmpcppfaaGreatDoor
open Go.RowKit
namespace Fl

theorem lis_is {l u : List UInt8} {s W : ByteArray} {x : Bool} (w : World) (hs : s = txt l) (hW : W = txt u) (hl : l.length ≤ 80000) (hx : x = (decide ((rdF l).1 = u) && decide ((rdF l).2 = 0))) (hT : AllT w) :
    Calls Tryz.prog 20 #[.string s, .string W] w fun e w' => e = .returned (.bool x) ∧ Below w.heap.size w w' := by
  have CR := Lib.hid (fread_is w hs hl hT)
  obtain ⟨T, hTT⟩ : ∃ T, T = txt (rdF l).1 := ⟨_, rfl⟩
  obtain ⟨c, hc⟩ : ∃ c, c = (rdF l).2 := ⟨_, rfl⟩
  obtain ⟨c1, h1⟩ : ∃ c1, c1 = decide ((rdF l).1 = u) := ⟨_, rfl⟩
  have q1 := (II.iseq_txt hTT hW).trans h1.symm
  rw [← h1, ← hc] at hx
  rw [← hTT, ← hc] at CR
  clear hs hW hl hT hTT hc h1
  by_cases h0 : c = 0
  · have E := Lib.hid (show x = c1 by rw [hx, h0]; simp)
    subst h0
    clear hx
    cases c1
    · go_enter Tryz.func20, Tryz.ntmps20
      go_wp2_with fail
      refine CR.out.mono ?_
      rintro e w1 ⟨rfl, hb⟩
      have HB := Lib.hid hb
      clear hb
      go_wp2_with fail
      go_ret
      exact ⟨ret_bool E.out.symm, HB.out⟩
    · go_enter Tryz.func20, Tryz.ntmps20
      go_wp2_with fail
      refine CR.out.mono ?_
      rintro e w1 ⟨rfl, hb⟩
      have HB := Lib.hid hb
      clear hb
      go_wp2_with fail
      go_ret
      exact ⟨ret_bool E.out.symm, HB.out⟩
  · have E := Lib.hid (show x = false by rw [hx, decide_eq_false h0]; simp)
    have h0' : (c == 0) = false := by simpa using h0
    clear hx h0
    cases c1
    · go_enter Tryz.func20, Tryz.ntmps20
      go_wp2_with fail
      refine CR.out.mono ?_
      rintro e w1 ⟨rfl, hb⟩
      have HB := Lib.hid hb
      clear hb
      go_wp2_with fail
      go_ret
      exact ⟨ret_bool E.out.symm, HB.out⟩
    · go_enter Tryz.func20, Tryz.ntmps20
      go_wp2_with fail
      refine CR.out.mono ?_
      rintro e w1 ⟨rfl, hb⟩
      have HB := Lib.hid hb
      clear hb
      go_wp2_with fail
      go_ret
      exact ⟨ret_bool E.out.symm, HB.out⟩
/-- What fails with a code that it should. -/
theorem fails_is {l : List UInt8} {s : ByteArray} {c : Int} (w : World) (hs : s = txt l) (hl : l.length ≤ 80000) (hx : rdF l = ([], c)) (hT : AllT w) :
    Calls Tryz.prog 19 #[.string s, .int .i64 c] w fun e w' => e = .returned (.bool true) ∧ Below w.heap.size w w' := by
  have CR := Lib.hid (fread_is w hs hl hT)
  rw [hx] at CR
  replace CR : Hid (Calls Tryz.prog 9 #[.string s] w fun e w' => e = .returned (.tuple #[.string ⟨#[]⟩, .int .i64 c]) ∧ Below w.heap.size w w') := CR
  clear hs hl hT hx
  go_enter Tryz.func19, Tryz.ntmps19
  go_wp2_with fail
  refine CR.out.mono ?_
  rintro e w1 ⟨rfl, hb⟩
  have HB := Lib.hid hb
  clear hb
  go_wp2_with fail
  go_ret
  exact ⟨rfl, HB.out⟩
abbrev BA (a : Array UInt8) : ByteArray := ⟨a⟩
theorem fx0 : rdF [45, 51, 46, 49, 95, 52] = ([45, 51, 49, 52, 101, 45, 50], 0) := by decide +kernel
theorem fx1 : rdF [53, 101, 43, 50, 50] = ([53, 101, 50, 50], 0) := by decide +kernel
theorem fx2 : rdF [54, 46, 54, 50, 54, 101, 45, 51, 52] = ([54, 54, 50, 54, 101, 45, 51, 55], 0) := by decide +kernel
theorem fx3 : rdF [45, 110, 97, 110] = ([110, 97, 110], 0) := by decide +kernel
theorem fy0 : rdF [49] = ([], 3) := by decide +kernel
theorem fy1 : rdF [49, 46] = ([], 3) := by decide +kernel
theorem fy2 : rdF [46, 53] = ([], 3) := by decide +kernel
theorem fy3 : rdF [49, 46, 95, 53] = ([], 3) := by decide +kernel
theorem fy4 : rdF [48, 51, 46, 49, 52] = ([], 3) := by decide +kernel
theorem fy5 : rdF [73, 110, 102] = ([], 3) := by decide +kernel
theorem fy6 : rdF [49, 101, 49, 48, 48, 48, 48, 48, 48, 48, 48, 49] = ([], 7) := by decide +kernel
theorem fz : flLess INF NAN = true := by decide +kernel
theorem is_lit {l u : List UInt8} (s W : ByteArray) (hs : s = txt l) (hW : W = txt u) (hl : l.length ≤ 80000) (hr : rdF l = (u, 0)) (w : World) (hT : AllT w) :
    Calls Tryz.prog 20 #[.string s, .string W] w fun e w' => e = .returned (.bool true) ∧ Below w.heap.size w w' := lis_is w hs hW hl (by rw [hr]; simp) hT
theorem fails_lit {l : List UInt8} (s : ByteArray) (c : Int) (hs : s = txt l) (hl : l.length ≤ 80000) (hr : rdF l = ([], c)) (w : World) (hT : AllT w) :
    Calls Tryz.prog 19 #[.string s, .int .i64 c] w fun e w' => e = .returned (.bool true) ∧ Below w.heap.size w w' := fails_is w hs hl hr hT
theorem less_lit (w : World) (hT : Tab w) : Calls Tryz.prog 13 #[.string (BA #[105, 110, 102]), .string (BA #[110, 97, 110])] w fun e w' => e = .returned (.bool true) ∧ Below w.heap.size w w' :=
  less_is (a := INF) (b := NAN) w rfl rfl (by decide) (by decide) fz.symm hT
set_option maxHeartbeats 4000000 in
set_option maxRecDepth 100000 in
theorem flives_any (w : World) (hT : AllT w) : Calls Tryz.prog 8 #[] w fun e w' => e = .returned (.bool true) ∧ Below w.heap.size w w' := by
  have H1 := Lib.hid (is_lit (BA #[45, 51, 46, 49, 95, 52]) (BA #[45, 51, 49, 52, 101, 45, 50]) rfl rfl (by decide) fx0)
  have H2 := Lib.hid (is_lit (BA #[53, 101, 43, 50, 50]) (BA #[53, 101, 50, 50]) rfl rfl (by decide) fx1)
  have H3 := Lib.hid (is_lit (BA #[54, 46, 54, 50, 54, 101, 45, 51, 52]) (BA #[54, 54, 50, 54, 101, 45, 51, 55]) rfl rfl (by decide) fx2)
  have H4 := Lib.hid (is_lit (BA #[45, 110, 97, 110]) (BA #[110, 97, 110]) rfl rfl (by decide) fx3)
  have H5 := Lib.hid (fails_lit (BA #[49]) 3 rfl (by decide) fy0)
  have H6 := Lib.hid (fails_lit (BA #[49, 46]) 3 rfl (by decide) fy1)
  have H7 := Lib.hid (fails_lit (BA #[46, 53]) 3 rfl (by decide) fy2)
  have H8 := Lib.hid (fails_lit (BA #[49, 46, 95, 53]) 3 rfl (by decide) fy3)
  have H9 := Lib.hid (fails_lit (BA #[48, 51, 46, 49, 52]) 3 rfl (by decide) fy4)
  have H10 := Lib.hid (fails_lit (BA #[73, 110, 102]) 3 rfl (by decide) fy5)
  have H11 := Lib.hid (fails_lit (BA #[49, 101, 49, 48, 48, 48, 48, 48, 48, 48, 48, 49]) 7 rfl (by decide) fy6)
  have H12 := Lib.hid less_lit
  have HB0 := Lib.hid (Below.refl w.heap.size w)
  have HT := Lib.hid hT
  clear hT
  go_enter Tryz.func8, Tryz.ntmps8
  go_wp2_with fail
  refine (H1.out _ (HT.out.below HB0.out)).mono ?_
  rintro e w1 ⟨rfl, hb⟩
  have HB1 := Lib.hid (II.below_tr HB0.out hb)
  clear hb
  go_wp2_with fail
  refine (H2.out _ (HT.out.below HB1.out)).mono ?_
  rintro e w2 ⟨rfl, hb⟩
  have HB2 := Lib.hid (II.below_tr HB1.out hb)
  clear hb
  go_wp2_with fail
  refine (H3.out _ (HT.out.below HB2.out)).mono ?_
  rintro e w3 ⟨rfl, hb⟩
  have HB3 := Lib.hid (II.below_tr HB2.out hb)
  clear hb
  go_wp2_with fail
  refine (H4.out _ (HT.out.below HB3.out)).mono ?_
  rintro e w4 ⟨rfl, hb⟩
  have HB4 := Lib.hid (II.below_tr HB3.out hb)
  clear hb
  go_wp2_with fail
  refine (H5.out _ (HT.out.below HB4.out)).mono ?_
  rintro e w5 ⟨rfl, hb⟩
  have HB5 := Lib.hid (II.below_tr HB4.out hb)
  clear hb
  go_wp2_with fail
  refine (H6.out _ (HT.out.below HB5.out)).mono ?_
  rintro e w6 ⟨rfl, hb⟩
  have HB6 := Lib.hid (II.below_tr HB5.out hb)
  clear hb
  go_wp2_with fail
  refine (H7.out _ (HT.out.below HB6.out)).mono ?_
  rintro e w7 ⟨rfl, hb⟩
  have HB7 := Lib.hid (II.below_tr HB6.out hb)
  clear hb
  go_wp2_with fail
  refine (H8.out _ (HT.out.below HB7.out)).mono ?_
  rintro e w8 ⟨rfl, hb⟩
  have HB8 := Lib.hid (II.below_tr HB7.out hb)
  clear hb
  go_wp2_with fail
  refine (H9.out _ (HT.out.below HB8.out)).mono ?_
  rintro e w9 ⟨rfl, hb⟩
  have HB9 := Lib.hid (II.below_tr HB8.out hb)
  clear hb
  go_wp2_with fail
  refine (H10.out _ (HT.out.below HB9.out)).mono ?_
  rintro e w10 ⟨rfl, hb⟩
  have HB10 := Lib.hid (II.below_tr HB9.out hb)
  clear hb
  go_wp2_with fail
  refine (H11.out _ (HT.out.below HB10.out)).mono ?_
  rintro e w11 ⟨rfl, hb⟩
  have HB11 := Lib.hid (II.below_tr HB10.out hb)
  clear hb
  go_wp2_with fail
  refine (H12.out _ (HT.out.below HB11.out).dec).mono ?_
  rintro e w12 ⟨rfl, hb⟩
  have HB12 := Lib.hid (II.below_tr HB11.out hb)
  clear hb
  go_wp2_with fail
  go_ret
  exact ⟨rfl, HB12.out⟩
end Fl
end Go.Proofs.YthjlnafmpcppfaaGreatDoor
