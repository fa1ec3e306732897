/- The law's own questions of integers, and 'lives', walked. -/
import Derived.Test.YtonfaphllpjmpaaDoorInI
namespace Go.Proofs.YtonfaphllpjmpaaDoor
open Go.RowKit

abbrev BA (a : Array UInt8) : ByteArray := ⟨a⟩
theorem as_txt (s : ByteArray) : s = txt s.data.toList := by apply ByteArray.ext; simp [txt]
theorem as_len (s : ByteArray) : s.data.toList.length = s.size := by rw [Array.length_toList]; rfl
theorem iempty_txt {s : ByteArray} {l : List UInt8} (hs : s = txt l) : s.toList.isEmpty = decide (l = []) := by
  rw [hs, toList_txt]; cases l <;> rfl
theorem is_any {l m : List UInt8} {s t : ByteArray} {x : Bool} (w : World) (hs : s = txt l) (ht : t = txt m) (hl : l.length ≤ 100000) (hx : x = decide (In.rd l = .ok m)) (hT : Tab w) :
    Calls Tryd.prog 17 #[.string s, .string t] w fun e w' => e = .returned (.bool x) ∧ Below w.heap.size w w' := by
  obtain ⟨R, hR⟩ : ∃ R, R = In.rd l := ⟨_, rfl⟩
  rw [← hR] at hx
  have HC := Lib.hid (pread_is w hs hl hR hT)
  have HTt := Lib.hid ht
  have HX := Lib.hid hx
  clear hR hs ht hl hx hT
  go_enter Tryd.func17, Tryd.ntmps17
  go_wp2_with fail
  refine HC.out.mono ?_
  rintro e w1 ⟨rfl, hb⟩
  have HB := Lib.hid hb
  clear hb HC
  cases R with
  | ok u =>
    obtain ⟨S, hS⟩ : ∃ S, S = txt u := ⟨_, rfl⟩
    rw [irv, ← hS]
    have hq := iseq_txt hS HTt.out
    have HE : Hid (x = decide (u = m)) := Lib.hid (by rw [HX.out]; simp)
    rw [← HE.out] at hq
    clear hS
    cases x
    all_goals go_wp2_with fail
    all_goals go_ret
    all_goals exact ⟨rfl, HB.out⟩
  | syn =>
    obtain rfl : x = false := by rw [HX.out]; simp
    rw [irv]
    go_wp2_with fail
    all_goals go_ret
    all_goals exact ⟨rfl, HB.out⟩
  | big =>
    obtain rfl : x = false := by rw [HX.out]; simp
    rw [irv]
    go_wp2_with fail
    all_goals go_ret
    all_goals exact ⟨rfl, HB.out⟩
/-- The fault of a number. -/
def flt (c : Int) : In.R := if c = 3 then .syn else .big
theorem fails_any {l : List UInt8} {s : ByteArray} {x : Bool} (c : Int) (hc : c = 3 ∨ c = 8) (w : World) (hs : s = txt l) (hl : l.length ≤ 100000) (hx : x = decide (In.rd l = flt c)) (hT : Tab w) :
    Calls Tryd.prog 18 #[.string s, .int .i64 c] w fun e w' => e = .returned (.bool x) ∧ Below w.heap.size w w' := by
  obtain ⟨R, hR⟩ : ∃ R, R = In.rd l := ⟨_, rfl⟩
  rw [← hR] at hx
  have HC := Lib.hid (pread_is w hs hl hR hT)
  have HX := Lib.hid hx
  clear hR hs hl hx hT
  go_enter Tryd.func18, Tryd.ntmps18
  go_wp2_with fail
  refine HC.out.mono ?_
  rintro e w1 ⟨rfl, hb⟩
  have HB := Lib.hid hb
  clear hb HC
  rcases hc with rfl | rfl
  all_goals cases R with
  | ok u =>
    obtain rfl : x = false := by rw [HX.out]; simp [flt]
    obtain ⟨S, hS⟩ : ∃ S, S = txt u := ⟨_, rfl⟩
    rw [irv, ← hS]
    have hq := iempty_txt hS
    cases hd : decide (u = [])
    all_goals rw [hd] at hq
    all_goals clear hS hd
    all_goals go_wp2_with fail
    all_goals go_ret
    all_goals exact ⟨rfl, HB.out⟩
  | syn =>
    have HE := Lib.hid HX.out
    cases x
    all_goals first
      | (exfalso; have := HX.out; simp [flt] at this; done)
      | (rw [irv]; go_wp2_with fail; go_ret; exact ⟨rfl, HB.out⟩)
  | big =>
    cases x
    all_goals first
      | (exfalso; have := HX.out; simp [flt] at this; done)
      | (rw [irv]; go_wp2_with fail; go_ret; exact ⟨rfl, HB.out⟩)
theorem is_lit {l m : List UInt8} (s t : ByteArray) (hs : s = txt l) (ht : t = txt m) (hl : l.length ≤ 100000) (h : In.rd l = .ok m) (w : World) (hT : Tab w) : Calls Tryd.prog 17 #[.string s, .string t] w fun e w' => e = .returned (.bool true) ∧ Below w.heap.size w w' := is_any w hs ht hl (by simp [h]) hT
theorem fl_lit {l : List UInt8} (s : ByteArray) (c : Int) (hc : c = 3 ∨ c = 8) (hs : s = txt l) (hl : l.length ≤ 100000) (h : In.rd l = flt c) (w : World) (hT : Tab w) : Calls Tryd.prog 18 #[.string s, .int .i64 c] w fun e w' => e = .returned (.bool true) ∧ Below w.heap.size w w' := fails_any c hc w hs hl (by simp [h]) hT
theorem cm_lit {l k : List UInt8} (s t : ByteArray) (x : Int) (hs : s = txt l) (ht : t = txt k) (hl : l.length ≤ 100000) (hk : k.length ≤ 100000) (h : In.cm l k = x) (w : World) (hT : Tab w) : Calls Tryd.prog 11 #[.string s, .string t] w fun e w' => e = .returned (.int .i64 x) ∧ Below w.heap.size w w' := pcmp_is w hs ht hl hk h.symm hT
set_option maxHeartbeats 2000000 in
set_option maxRecDepth 100000 in
theorem lives_any (w : World) (hT : Tab w) : Calls Tryd.prog 8 #[] w fun e w' => e = .returned (.bool true) ∧ Below w.heap.size w w' := by
  have H1 := Lib.hid (is_lit (BA #[43, 49, 95, 48, 48, 48]) (BA #[49, 48, 48, 48]) rfl rfl (by simp) (by decide +kernel))
  have H2 := Lib.hid (is_lit (BA #[48, 120, 102, 70]) (BA #[50, 53, 53]) rfl rfl (by simp) (by decide +kernel))
  have H3 := Lib.hid (is_lit (BA #[45, 48]) (BA #[48]) rfl rfl (by simp) (by decide +kernel))
  have H4 := Lib.hid (is_lit (BA #[48, 111, 49, 55]) (BA #[49, 53]) rfl rfl (by simp) (by decide +kernel))
  have H5 := Lib.hid (fl_lit (BA #[48, 49]) 3 (.inl rfl) rfl (by simp) (by decide +kernel))
  have H6 := Lib.hid (fl_lit (BA #[49, 95, 95, 48]) 3 (.inl rfl) rfl (by simp) (by decide +kernel))
  have H7 := Lib.hid (fl_lit (BA #[95, 49]) 3 (.inl rfl) rfl (by simp) (by decide +kernel))
  have H8 := Lib.hid (fl_lit (BA #[45, 48, 120, 49]) 3 (.inl rfl) rfl (by simp) (by decide +kernel))
  have H9 := Lib.hid (fl_lit (BA #[48, 88, 49]) 3 (.inl rfl) rfl (by simp) (by decide +kernel))
  have H10 := Lib.hid (fl_lit (BA #[57, 50, 50, 51, 51, 55, 50, 48, 51, 54, 56, 53, 52, 55, 55, 53, 56, 48, 56]) 8 (.inr rfl) rfl (by simp) (by decide +kernel))
  have H11 := Lib.hid (cm_lit (BA #[45, 53]) (BA #[51]) (-1) rfl rfl (by simp) (by simp) (by decide +kernel))
  have HB0 := Lib.hid (Below.refl w.heap.size w)
  have HT := Lib.hid hT
  clear hT
  go_enter Tryd.func8, Tryd.ntmps8
  go_wp2_with fail
  refine (H1.out _ (HT.out.below HB0.out)).mono ?_
  rintro e w1 ⟨rfl, hb⟩
  have HB1 := Lib.hid (below_tr HB0.out hb)
  clear hb
  go_wp2_with fail
  refine (H2.out _ (HT.out.below HB1.out)).mono ?_
  rintro e w2 ⟨rfl, hb⟩
  have HB2 := Lib.hid (below_tr HB1.out hb)
  clear hb
  go_wp2_with fail
  refine (H3.out _ (HT.out.below HB2.out)).mono ?_
  rintro e w3 ⟨rfl, hb⟩
  have HB3 := Lib.hid (below_tr HB2.out hb)
  clear hb
  go_wp2_with fail
  refine (H4.out _ (HT.out.below HB3.out)).mono ?_
  rintro e w4 ⟨rfl, hb⟩
  have HB4 := Lib.hid (below_tr HB3.out hb)
  clear hb
  go_wp2_with fail
  refine (H5.out _ (HT.out.below HB4.out)).mono ?_
  rintro e w5 ⟨rfl, hb⟩
  have HB5 := Lib.hid (below_tr HB4.out hb)
  clear hb
  go_wp2_with fail
  refine (H6.out _ (HT.out.below HB5.out)).mono ?_
  rintro e w6 ⟨rfl, hb⟩
  have HB6 := Lib.hid (below_tr HB5.out hb)
  clear hb
  go_wp2_with fail
  refine (H7.out _ (HT.out.below HB6.out)).mono ?_
  rintro e w7 ⟨rfl, hb⟩
  have HB7 := Lib.hid (below_tr HB6.out hb)
  clear hb
  go_wp2_with fail
  refine (H8.out _ (HT.out.below HB7.out)).mono ?_
  rintro e w8 ⟨rfl, hb⟩
  have HB8 := Lib.hid (below_tr HB7.out hb)
  clear hb
  go_wp2_with fail
  refine (H9.out _ (HT.out.below HB8.out)).mono ?_
  rintro e w9 ⟨rfl, hb⟩
  have HB9 := Lib.hid (below_tr HB8.out hb)
  clear hb
  go_wp2_with fail
  refine (H10.out _ (HT.out.below HB9.out)).mono ?_
  rintro e w10 ⟨rfl, hb⟩
  have HB10 := Lib.hid (below_tr HB9.out hb)
  clear hb
  go_wp2_with fail
  refine (H11.out _ (HT.out.below HB10.out)).mono ?_
  rintro e w11 ⟨rfl, hb⟩
  have HB11 := Lib.hid (below_tr HB10.out hb)
  clear hb
  go_wp2_with fail
  go_ret
  exact ⟨rfl, HB11.out⟩
end Go.Proofs.YtonfaphllpjmpaaDoor
