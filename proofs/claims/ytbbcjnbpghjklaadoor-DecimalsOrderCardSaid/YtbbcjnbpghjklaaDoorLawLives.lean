/- The law's 'lives', walked. -/
import Derived.Test.YtbbcjnbpghjklaaDoorLives
namespace Go.Proofs.YtbbcjnbpghjklaaDoor
open Go.RowKit

abbrev BA (a : Array UInt8) : ByteArray := ⟨a⟩
theorem p_lit (w : World) (htab : Tab w) : Calls Tryd.prog 11 #[.string (BA #[45, 49, 50, 101, 45, 49])] w fun e w' => e = .returned (four true (BA #[49, 50]) (-1) true) ∧ Below w.heap.size w w' := by
  have h := dparts_any (l := [45, 49, 50, 101, 45, 49]) (s := BA #[45, 49, 50, 101, 45, 49]) w htab rfl (by simp)
  have e := ex8
  simp only [Prod.mk.injEq] at e
  rw [e.1, e.2.1, e.2.2.1, e.2.2.2] at h
  exact h
theorem l_lit {l t : List UInt8} {c : Int} (s u : ByteArray) (hs : s = txt l) (hu : u = txt t) (hm : l.length ≤ 1000000) (hr : rd l = (t, c)) (w : World) (htab : Tab w) : Calls Tryd.prog 17 #[.string s, .int .i64 c] w fun e w' => e = .returned (.string u) ∧ Below w.heap.size w w' := by
  rw [hu]; exact lread_any w htab hs hm hr
theorem ls1 (w : World) (htab : Tab w) : Calls Tryd.prog 13 #[.string (BA #[45, 49, 50, 101, 45, 49]), .string (BA #[53, 101, 48])] w fun e w' => e = .returned (.bool true) ∧ Below w.heap.size w w' := by
  have h := dless_any (a := [45, 49, 50, 101, 45, 49]) (b := [53, 101, 48]) (s := BA #[45, 49, 50, 101, 45, 49]) (t := BA #[53, 101, 48]) w htab rfl rfl (by simp) (by simp)
  rw [ex9] at h; exact h
theorem ls2 (w : World) (htab : Tab w) : Calls Tryd.prog 13 #[.string (BA #[53, 101, 48]), .string (BA #[45, 49, 50, 101, 45, 49])] w fun e w' => e = .returned (.bool false) ∧ Below w.heap.size w w' := by
  have h := dless_any (a := [53, 101, 48]) (b := [45, 49, 50, 101, 45, 49]) (s := BA #[53, 101, 48]) (t := BA #[45, 49, 50, 101, 45, 49]) w htab rfl rfl (by simp) (by simp)
  rw [ex10] at h; exact h
set_option maxHeartbeats 2000000 in
set_option maxRecDepth 100000 in
theorem lives_any (w : World) (htab : Tab w) : Calls Tryd.prog 8 #[] w fun e w' => e = .returned (.bool true) ∧ Below w.heap.size w w' := by
  have HP := Lib.hid p_lit
  have H1 := Lib.hid (l_lit (BA #[45, 48, 46, 53, 48, 101, 49]) (BA #[45, 53, 101, 48]) rfl rfl (by simp) ex1)
  have H2 := Lib.hid (l_lit (BA #[49, 50, 48, 48]) (BA #[49, 50, 101, 50]) rfl rfl (by simp) ex2)
  have H3 := Lib.hid (l_lit (BA #[48, 46, 48]) (BA #[48]) rfl rfl (by simp) ex3)
  have H4 := Lib.hid (l_lit (BA #[48, 49]) (BA #[]) rfl rfl (by simp) ex4)
  have H5 := Lib.hid (l_lit (BA #[49, 46]) (BA #[]) rfl rfl (by simp) ex5)
  have H6 := Lib.hid (l_lit (BA #[43, 49]) (BA #[]) rfl rfl (by simp) ex6)
  have H7 := Lib.hid (l_lit (BA #[48, 101, 49, 48, 48, 48, 48, 48, 48, 48, 48, 49]) (BA #[]) rfl rfl (by simp) ex7)
  have H8 := Lib.hid ls1
  have H9 := Lib.hid ls2
  have HB0 := Lib.hid (Below.refl w.heap.size w)
  have HT := Lib.hid htab
  clear htab
  go_enter Tryd.func8, Tryd.ntmps8
  go_wp2_with fail
  refine (HP.out _ (HT.out.on HB0.out)).mono ?_
  rintro e w1 ⟨rfl, hb⟩
  have HB1 := Lib.hid (HB0.out.trans (hb.mono HB0.out.size))
  clear hb
  go_wp2_with fail
  refine (H1.out _ (HT.out.on HB1.out)).mono ?_
  rintro e w2 ⟨rfl, hb⟩
  have HB2 := Lib.hid (HB1.out.trans (hb.mono HB1.out.size))
  clear hb
  go_wp2_with fail
  refine (H2.out _ (HT.out.on HB2.out)).mono ?_
  rintro e w3 ⟨rfl, hb⟩
  have HB3 := Lib.hid (HB2.out.trans (hb.mono HB2.out.size))
  clear hb
  go_wp2_with fail
  refine (H3.out _ (HT.out.on HB3.out)).mono ?_
  rintro e w4 ⟨rfl, hb⟩
  have HB4 := Lib.hid (HB3.out.trans (hb.mono HB3.out.size))
  clear hb
  go_wp2_with fail
  refine (H4.out _ (HT.out.on HB4.out)).mono ?_
  rintro e w5 ⟨rfl, hb⟩
  have HB5 := Lib.hid (HB4.out.trans (hb.mono HB4.out.size))
  clear hb
  go_wp2_with fail
  refine (H5.out _ (HT.out.on HB5.out)).mono ?_
  rintro e w6 ⟨rfl, hb⟩
  have HB6 := Lib.hid (HB5.out.trans (hb.mono HB5.out.size))
  clear hb
  go_wp2_with fail
  refine (H6.out _ (HT.out.on HB6.out)).mono ?_
  rintro e w7 ⟨rfl, hb⟩
  have HB7 := Lib.hid (HB6.out.trans (hb.mono HB6.out.size))
  clear hb
  go_wp2_with fail
  refine (H7.out _ (HT.out.on HB7.out)).mono ?_
  rintro e w8 ⟨rfl, hb⟩
  have HB8 := Lib.hid (HB7.out.trans (hb.mono HB7.out.size))
  clear hb
  go_wp2_with fail
  refine (H8.out _ (HT.out.on HB8.out)).mono ?_
  rintro e w9 ⟨rfl, hb⟩
  have HB9 := Lib.hid (HB8.out.trans (hb.mono HB8.out.size))
  clear hb
  go_wp2_with fail
  refine (H9.out _ (HT.out.on HB9.out)).mono ?_
  rintro e w10 ⟨rfl, hb⟩
  have HB10 := Lib.hid (HB9.out.trans (hb.mono HB9.out.size))
  clear hb
  go_wp2_with fail
  go_ret
  exact ⟨rfl, HB10.out⟩
end Go.Proofs.YtbbcjnbpghjklaaDoor
