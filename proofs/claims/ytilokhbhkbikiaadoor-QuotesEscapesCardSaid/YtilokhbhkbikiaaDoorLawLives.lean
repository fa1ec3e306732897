/- The law's 'lives', walked. -/
import Derived.Test.YtilokhbhkbikiaaDoorHlp
namespace Go.Proofs.YtilokhbhkbikiaaDoor
open Go.RowKit

abbrev BA (a : Array UInt8) : ByteArray := ⟨a⟩
theorem as_txt (s : ByteArray) : s = txt s.data.toList := by apply ByteArray.ext; simp [txt]
theorem as_len (s : ByteArray) : s.data.toList.length = s.size := by rw [Array.length_toList]; rfl
theorem lv1 : isB (Qu.rdq [34, 97, 92, 117, 48, 48, 101, 57, 92, 110, 34]) [97, 195, 169, 10] = true := by decide +kernel
theorem lv2 : isB (Qu.rdq [34, 92, 117, 100, 56, 51, 100, 92, 117, 100, 101, 48, 48, 34]) [240, 159, 152, 128] = true := by decide +kernel
theorem lv3 : flB (Qu.rdq [34, 120, 92, 117, 100, 56, 51, 100, 34]) 6 2 = true := by decide +kernel
theorem lv4 : flB (Qu.rdq [34, 97]) 3 2 = true := by decide +kernel
theorem lv5 : flB (Qu.rdq [34, 92, 120, 34]) 3 2 = true := by decide +kernel
theorem lv6 : Qu.wrq [1] = [34, 92, 117, 48, 48, 48, 49, 34] := by decide +kernel
theorem is_lit {l m : List UInt8} (s t : ByteArray) (hs : s = txt l) (ht : t = txt m) (hl : l.length ≤ 1000000) (h : isB (Qu.rdq l) m = true) (w : World) (hT : Tab w) : Calls Tryd.prog 13 #[.string s, .string t] w fun e w' => e = .returned (.bool true) ∧ Below w.heap.size w w' := is_any w hs ht hl h.symm hT
theorem fl_lit {l : List UInt8} (s : ByteArray) (c a : Int) (hs : s = txt l) (hl : l.length ≤ 1000000) (hc : 0 < c) (h : flB (Qu.rdq l) c a = true) (w : World) (hT : Tab w) : Calls Tryd.prog 16 #[.string s, .int .i64 c, .int .i64 a] w fun e w' => e = .returned (.bool true) ∧ Below w.heap.size w w' := fault_any c a w hs hl hc h.symm hT
theorem wr_lit {l m : List UInt8} (s t : ByteArray) (hs : s = txt l) (ht : t = txt m) (hl : l.length ≤ 1000000) (h : Qu.wrq l = m) (w : World) (hT : Tab w) : Calls Tryd.prog 11 #[.string s] w fun e w' => e = .returned (.string t) ∧ Below w.heap.size w w' := qwrite_is w hs hl (by rw [ht, h]) hT
set_option maxHeartbeats 2000000 in
set_option maxRecDepth 100000 in
theorem lives_any (w : World) (hT : Tab w) : Calls Tryd.prog 8 #[] w fun e w' => e = .returned (.bool true) ∧ Below w.heap.size w w' := by
  have H1 := Lib.hid (is_lit (BA #[34, 97, 92, 117, 48, 48, 101, 57, 92, 110, 34]) (BA #[97, 195, 169, 10]) rfl rfl (by simp) lv1)
  have H2 := Lib.hid (is_lit (BA #[34, 92, 117, 100, 56, 51, 100, 92, 117, 100, 101, 48, 48, 34]) (BA #[240, 159, 152, 128]) rfl rfl (by simp) lv2)
  have H3 := Lib.hid (fl_lit (BA #[34, 120, 92, 117, 100, 56, 51, 100, 34]) 6 2 rfl (by simp) (by omega) lv3)
  have H4 := Lib.hid (fl_lit (BA #[34, 97]) 3 2 rfl (by simp) (by omega) lv4)
  have H5 := Lib.hid (fl_lit (BA #[34, 92, 120, 34]) 3 2 rfl (by simp) (by omega) lv5)
  have H6 := Lib.hid (wr_lit (BA #[1]) (BA #[34, 92, 117, 48, 48, 48, 49, 34]) rfl rfl (by simp) lv6)
  have HB0 := Lib.hid (Below.refl w.heap.size w)
  have HT := Lib.hid hT
  have hlast : ((BA #[34, 92, 117, 48, 48, 48, 49, 34]).toList == (BA #[34, 92, 117, 48, 48, 48, 49, 34]).toList) = true := by simp
  clear hT
  go_enter Tryd.func8, Tryd.ntmps8
  go_wp2_with fail
  refine (H1.out _ (HT.out.below HB0.out)).mono ?_
  rintro e w1 ⟨rfl, hb⟩
  have HB1 := Lib.hid (HB0.out.trans (hb.mono HB0.out.size))
  clear hb
  go_wp2_with fail
  refine (H2.out _ (HT.out.below HB1.out)).mono ?_
  rintro e w2 ⟨rfl, hb⟩
  have HB2 := Lib.hid (HB1.out.trans (hb.mono HB1.out.size))
  clear hb
  go_wp2_with fail
  refine (H3.out _ (HT.out.below HB2.out)).mono ?_
  rintro e w3 ⟨rfl, hb⟩
  have HB3 := Lib.hid (HB2.out.trans (hb.mono HB2.out.size))
  clear hb
  go_wp2_with fail
  refine (H4.out _ (HT.out.below HB3.out)).mono ?_
  rintro e w4 ⟨rfl, hb⟩
  have HB4 := Lib.hid (HB3.out.trans (hb.mono HB3.out.size))
  clear hb
  go_wp2_with fail
  refine (H5.out _ (HT.out.below HB4.out)).mono ?_
  rintro e w5 ⟨rfl, hb⟩
  have HB5 := Lib.hid (HB4.out.trans (hb.mono HB4.out.size))
  clear hb
  go_wp2_with fail
  refine (H6.out _ (HT.out.below HB5.out)).mono ?_
  rintro e w6 ⟨rfl, hb⟩
  have HB6 := Lib.hid (HB5.out.trans (hb.mono HB5.out.size))
  clear hb
  go_wp2_with fail
  go_ret
  exact ⟨rfl, HB6.out⟩
end Go.Proofs.YtilokhbhkbikiaaDoor
