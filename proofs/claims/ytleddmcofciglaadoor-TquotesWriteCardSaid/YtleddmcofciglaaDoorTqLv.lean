/- The law's own questions, answered yes; 'lives' walked (TOML). -/
import Derived.Test.YtleddmcofciglaaDoorTqRd
import Derived.Test.YtleddmcofciglaaDoorTqO
namespace Go.Proofs.YtleddmcofciglaaDoor
open Go.RowKit

abbrev BA (a : Array UInt8) : ByteArray := ⟨a⟩
theorem below_tr {W w w' : World} (h : Below W.heap.size W w) (h' : Below w.heap.size w w') : Below W.heap.size W w' := h.trans (h'.mono h.size)
/-- What the laws find when they are called. -/
def Tab (w : World) : Prop := TShorts w ∧ 0 < w.heap.size
theorem Tab.below {W w : World} (h : Tab W) (hb : Below W.heap.size W w) : Tab w := ⟨h.1.old h.2 hb, Nat.lt_of_lt_of_le h.2 hb.size⟩
theorem tis_of {s t : ByteArray} {a n : Int} (w : World) (hC : Calls Tryd.prog 19 #[.string s, .int .i64 a] w fun e w' => e = .returned (.tuple #[.string t, .int .i64 n, .agg #[.int .i64 0, .int .i64 0]]) ∧ Below w.heap.size w w') :
    Calls Tryd.prog 10 #[.string s, .int .i64 a, .string t, .int .i64 n] w fun e w' => e = .returned (.bool true) ∧ Below w.heap.size w w' := by
  have HC := Lib.hid hC
  have hq : (t.toList == t.toList) = true := by simp
  clear hC
  go_enter Tryd.func10, Tryd.ntmps10
  go_wp2_with fail
  refine HC.out.mono ?_
  rintro e w1 ⟨rfl, hb⟩
  have HB := Lib.hid hb
  clear hb
  go_wp2_with fail
  go_ret
  exact ⟨rfl, HB.out.alloc HB.out.size _⟩
theorem tflt_of {s : ByteArray} {a k : Int} (w : World) (hC : Calls Tryd.prog 19 #[.string s, .int .i64 a] w fun e w' => e = .returned (.tuple #[.string ⟨#[]⟩, .int .i64 0, .agg #[.int .i64 3, .int .i64 k]]) ∧ Below w.heap.size w w') :
    Calls Tryd.prog 13 #[.string s, .int .i64 a, .int .i64 k] w fun e w' => e = .returned (.bool true) ∧ Below w.heap.size w w' := by
  have HC := Lib.hid hC
  clear hC
  go_enter Tryd.func13, Tryd.ntmps13
  go_wp2_with fail
  refine HC.out.mono ?_
  rintro e w1 ⟨rfl, hb⟩
  have HB := Lib.hid hb
  clear hb
  go_wp2_with fail
  go_ret
  exact ⟨rfl, HB.out.alloc HB.out.size _⟩
/-- No rune's number stands anywhere. -/
def noNum (l : List UInt8) : Bool := (List.range l.length).all fun k => [4, 8].all fun m => match Qu.hx m 0 (l.drop k) with | .inl _ => true | .inr x => Tq.sur x.1
theorem hdOk_of {l : List UInt8} (h : noNum l = true) (W : World) : HdOk W l := fun k many n r hm hx hs => by
  rcases Nat.lt_or_ge k l.length with hk | hk
  · have := List.all_eq_true.1 (List.all_eq_true.1 h k (List.mem_range.2 hk)) many (by rcases hm with rfl | rfl <;> simp)
    rw [hx] at this
    simp only at this
    rw [hs] at this
    cases this
  · rw [List.drop_eq_nil_of_le hk] at hx
    rcases hm with rfl | rfl <;> cases hx
theorem no92_of {l : List UInt8} (h : (l.all fun c => c != 92) = true) (k : Nat) : tkC l k 92 = false := by
  rw [tkC, decide_eq_false_iff_not]
  rintro ⟨h1, h2⟩
  obtain ⟨c, hc, hb⟩ := drop_bt h1
  have hm : c ∈ l := List.mem_of_mem_drop (by rw [hc]; exact List.mem_cons_self)
  have := List.all_eq_true.1 h c hm
  have e : c = 92 := UInt8.toNat_inj.1 (by have := hb.symm.trans h2; simp; omega)
  rw [e] at this; cases this
def isR (r : Tq.R) (t : List UInt8) (k : Nat) : Bool := match r with | .ok x j => x == t && j == k | .bad _ => false
def isRb (r : Tq.R) (k : Nat) : Bool := match r with | .ok _ _ => false | .bad j => j == k
theorem isR_eq {r : Tq.R} {t : List UInt8} {k : Nat} (h : isR r t k = true) : r = .ok t k := by
  cases r with
  | ok x j => simp only [isR, Bool.and_eq_true, beq_iff_eq] at h; rw [h.1, h.2]
  | bad j => cases h
theorem isRb_eq {r : Tq.R} {k : Nat} (h : isRb r k = true) : r = .bad k := by
  cases r with
  | ok x j => cases h
  | bad j => simp only [isRb, beq_iff_eq] at h; rw [h]
theorem lv1 (w : World) (hT : Tab w) : Calls Tryd.prog 10 #[.string (BA #[34, 97, 92, 116, 98, 34, 32, 35, 32, 99]), .int .i64 0, .string (BA #[97, 9, 98]), .int .i64 6] w fun e w' => e = .returned (.bool true) ∧ Below w.heap.size w w' :=
  tis_of w (tread_ba (p := 0) (l := [34, 97, 92, 116, 98, 34, 32, 35, 32, 99]) w rfl (by simp) (by simp) (by decide) (by decide) (by decide) (fun W _ => hdOk_of (by decide +kernel) W) hT.1 hT.2 (r := .ok [97, 9, 98] 6) (isR_eq (by decide +kernel)).symm)
theorem lv2 (w : World) : Calls Tryd.prog 10 #[.string (BA #[34, 34, 34, 97, 34, 34, 34, 34, 34]), .int .i64 0, .string (BA #[97, 34, 34]), .int .i64 9] w fun e w' => e = .returned (.bool true) ∧ Below w.heap.size w w' :=
  tis_of w (tread_lb (p := 0) (l := [34, 34, 34, 97, 34, 34, 34, 34, 34]) w rfl (by simp) (by simp) (by decide) (no92_of (by decide +kernel)) (r := .ok [97, 34, 34] 9) (isR_eq (by decide +kernel)).symm)
theorem lv3 (w : World) : Calls Tryd.prog 10 #[.string (BA #[39, 67, 58, 92, 120, 39]), .int .i64 0, .string (BA #[67, 58, 92, 120]), .int .i64 6] w fun e w' => e = .returned (.bool true) ∧ Below w.heap.size w w' :=
  tis_of w (tread_li (p := 0) (l := [39, 67, 58, 92, 120, 39]) w rfl (by simp) (by simp) (by decide) (by decide) (by decide) (by decide) (r := .ok [67, 58, 92, 120] 6) (isR_eq (by decide +kernel)).symm)
theorem lv4 (w : World) (hT : Tab w) : Calls Tryd.prog 13 #[.string (BA #[34, 97]), .int .i64 0, .int .i64 2] w fun e w' => e = .returned (.bool true) ∧ Below w.heap.size w w' :=
  tflt_of w (tread_ba (p := 0) (l := [34, 97]) w rfl (by simp) (by simp) (by decide) (by decide) (by decide) (fun W _ => hdOk_of (by decide +kernel) W) hT.1 hT.2 (r := .bad 2) (isRb_eq (by decide +kernel)).symm)
theorem lv5 (w : World) (hT : Tab w) : Calls Tryd.prog 13 #[.string (BA #[34, 92, 117, 100, 56, 48, 48, 34]), .int .i64 0, .int .i64 3] w fun e w' => e = .returned (.bool true) ∧ Below w.heap.size w w' :=
  tflt_of w (tread_ba (p := 0) (l := [34, 92, 117, 100, 56, 48, 48, 34]) w rfl (by simp) (by simp) (by decide) (by decide) (by decide) (fun W _ => hdOk_of (by decide +kernel) W) hT.1 hT.2 (r := .bad 3) (isRb_eq (by decide +kernel)).symm)
theorem lv6 (w : World) : Calls Tryd.prog 14 #[.string (BA #[39, 39, 39, 97]), .int .i64 0] w fun e w' => e = .returned (.bool true) ∧ Below w.heap.size w w' :=
  tlong_yes (p := 0) (l := [39, 39, 39, 97]) w rfl (by simp) (by simp) (by decide) (by decide)
theorem lv7 (w : World) : Calls Tryd.prog 14 #[.string (BA #[39, 39, 97]), .int .i64 0] w fun e w' => e = .returned (.bool false) ∧ Below w.heap.size w w' :=
  tlong_no (p := 0) (l := [39, 39, 97]) w rfl (by simp) (by simp) (by decide) (by decide) (by decide) (by decide)
set_option maxHeartbeats 2000000 in
set_option maxRecDepth 100000 in
theorem lives_any (w : World) (hT : Tab w) : Calls Tryd.prog 6 #[] w fun e w' => e = .returned (.bool true) ∧ Below w.heap.size w w' := by
  have H1 := Lib.hid lv1
  have H2 := Lib.hid lv2
  have H3 := Lib.hid lv3
  have H4 := Lib.hid lv4
  have H5 := Lib.hid lv5
  have H6 := Lib.hid lv6
  have H7 := Lib.hid lv7
  have HB0 := Lib.hid (Below.refl w.heap.size w)
  have HT := Lib.hid hT
  clear hT
  go_enter Tryd.func6, Tryd.ntmps6
  go_wp2_with fail
  refine (H1.out _ (HT.out.below HB0.out)).mono ?_
  rintro e w1 ⟨rfl, hb⟩
  have HB1 := Lib.hid (below_tr HB0.out hb)
  clear hb
  go_wp2_with fail
  refine (H2.out _).mono ?_
  rintro e w2 ⟨rfl, hb⟩
  have HB2 := Lib.hid (below_tr HB1.out hb)
  clear hb
  go_wp2_with fail
  refine (H3.out _).mono ?_
  rintro e w3 ⟨rfl, hb⟩
  have HB3 := Lib.hid (below_tr HB2.out hb)
  clear hb
  go_wp2_with fail
  refine (H4.out _ (HT.out.below HB3.out)).mono ?_
  rintro e w4 ⟨rfl, hb⟩
  have HB4 := Lib.hid (below_tr HB3.out hb)
  clear hb
  go_wp2_with fail
  refine (H5.out _ (HT.out.below HB4.out)).mono ?_
  rintro e w5 ⟨rfl, hb⟩
  have HB5 := Lib.hid (below_tr HB4.out hb)
  clear hb
  go_wp2_with fail
  refine (H6.out _).mono ?_
  rintro e w6 ⟨rfl, hb⟩
  have HB6 := Lib.hid (below_tr HB5.out hb)
  clear hb
  go_wp2_with fail
  refine (H7.out _).mono ?_
  rintro e w7 ⟨rfl, hb⟩
  have HB7 := Lib.hid (below_tr HB6.out hb)
  clear hb
  go_wp2_with fail
  go_ret
  exact ⟨rfl, HB7.out⟩
end Go.Proofs.YtleddmcofciglaaDoor
