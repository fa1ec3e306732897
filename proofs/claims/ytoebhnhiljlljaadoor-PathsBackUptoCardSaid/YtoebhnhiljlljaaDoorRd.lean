/- What landed of paths: a word behind a mark (the reader of a text, that goes on in it). -/
import Derived.Test.YtoebhnhiljlljaaDoorRc
import Derived.Test.YtoebhnhiljlljaaDoorRk
namespace Go.Proofs.YtoebhnhiljlljaaDoor
open Go.RowKit
namespace Pa
set_option maxRecDepth 100000

theorem stop_has (c : UInt8) : ([47, 91, 61, 93] : List UInt8).contains c = stop c := by
  have h : ∀ n : Fin 256, ([47, 91, 61, 93] : List UInt8).contains (UInt8.ofNat n) = stop (UInt8.ofNat n) := by decide +kernel
  have := h ⟨c.toNat, c.toNat_lt⟩
  simpa using this
theorem ix_wd : ∀ r : Bs, Lib.indexAny r [47, 91, 61, 93] = if (wd r).length = r.length then (-1 : Int) else (((wd r).length : Nat) : Int)
  | [] => rfl
  | c :: r => by
    cases h : stop c with
    | true => rw [Lib.indexAny, stop_has, h, wd, if_pos h]; simp
    | false =>
      have e : wd (c :: r) = c :: wd r := by rw [wd, if_neg (by rw [h]; decide)]
      rw [Lib.indexAny, stop_has, h, if_neg (by decide), ix_wd r, e, List.length_cons, List.length_cons]
      by_cases h2 : (wd r).length = r.length
      · simp [h2]
      · rw [if_neg h2, if_neg (by simp), if_neg (by omega)]; omega
theorem wd_take (r : Bs) : r.take (wd r).length = wd r := by
  have h := (wd_split r).1
  calc r.take (wd r).length = (wd r ++ r.drop (wd r).length).take (wd r).length := by rw [← h]
    _ = wd r := List.take_left' rfl
theorem wd_le (r : Bs) : (wd r).length ≤ r.length := by
  have := congrArg List.length (wd_split r).1
  rw [List.length_append] at this; omega
/-- Where a word ends. -/
theorem marks_any {r : Bs} {s : ByteArray} {x : Int} (w : World) (hs : s = txt r) (hl : r.length ≤ 10000000) (hx : x = Lib.indexAny r [47, 91, 61, 93]) :
    Calls Tryd.prog 37 #[.string s, .string ⟨#[47, 91, 61, 93]⟩] w fun e w' => e = .returned (.int .i64 x) ∧ Below w.heap.size w w' := by
  have hz : s.size = r.length := by rw [hs, txt_size]
  have hd : s.data.toList = r := by rw [hs]; simp [txt]
  by_cases h8 : s.size ≤ 8
  · exact Fl.any_short w h8 (by decide) (by decide) (by intro k h; match k, h with | 0, _ => (show (47 : UInt8).toNat < 128; decide) | 1, _ => (show (91 : UInt8).toNat < 128; decide) | 2, _ => (show (61 : UInt8).toNat < 128; decide) | 3, _ => (show (93 : UInt8).toNat < 128; decide) | k + 4, h => exact absurd h (by show ¬ k + 4 < 4; omega)) (by rw [hd]; exact hx)
  · refine (Tryd.strings_IndexAny_long (zero_of_info (n := 256) (by kernel_rfl)).1 s ⟨#[47, 91, 61, 93]⟩ w (by decide) (by omega) (by omega) (by decide) (by intro j b hb; match j, hb with | 0, hb => (simp at hb; subst hb; decide) | 1, hb => (simp at hb; subst hb; decide) | 2, hb => (simp at hb; subst hb; decide) | 3, hb => (simp at hb; subst hb; decide) | j + 4, hb => simp at hb)).mono ?_
    rintro e w' ⟨rfl, rfl⟩
    exact ⟨by rw [hd, hx], ((Below.refl _ _).alloc (Nat.le_refl _) _).alloc (by simp) _⟩
/-- The reader: where it is, and the text. -/
structure RS (w : World) (ha hs : Nat) (l : Bs) (i : Nat) : Prop where
  at_ : w.heap[ha]? = some (.cells #[.int .i64 i] 3 (0, 0))
  text : w.heap[hs]? = some (.cells #[.string (txt l)] 9 (0, 0))
  ne : hs ≠ ha
theorem RS.kept {w w' : World} {ha hs : Nat} {l : Bs} {i : Nat} (h : RS w ha hs l i) (hb : Below w.heap.size w w') : RS w' ha hs l i :=
  ⟨(hb.block _ (Array.getElem?_eq_some_iff.1 h.at_).1).trans h.at_, (hb.block _ (Array.getElem?_eq_some_iff.1 h.text).1).trans h.text, h.ne⟩
theorem RS.cells {w : World} {ha hs : Nat} {l : Bs} {i : Nat} (h : RS w ha hs l i) : w.cell? ⟨ha, 0, none⟩ = some (.int .i64 i) ∧ w.cell? ⟨hs, 0, none⟩ = some (.string (txt l)) ∧ w.frozen? ⟨ha, 0, none⟩ = false :=
  ⟨by rw [Lib.cell_of_heap h.at_]; rfl, by rw [Lib.cell_of_heap h.text]; rfl, Lib.frozen_of_heap h.at_ 0⟩
theorem gb_tr {w w1 w2 : World} {g : Nat} (h : w.grownBy w1 (some g)) (h' : w1.grownBy w2 (some g)) : w.grownBy w2 (some g) :=
  ⟨h'.os.trans h.os, h'.tape.trans h.tape, h'.output.trans h.output, Nat.le_trans h.size h'.size, fun k hk hn => (h'.block k (Nat.lt_of_lt_of_le hk h.size) hn).trans (h.block k hk hn)⟩
theorem gb_call {w w' : World} (g : Nat) (h : Below w.heap.size w w') : w.grownBy w' (some g) := ⟨h.os, h.tape, h.output, h.size, fun k hk _ => h.block k hk⟩
theorem gb_below {w w' : World} {g b : Nat} (h : w.grownBy w' (some g)) (hg : b ≤ g) (hb : b ≤ w.heap.size) : Below b w w' := ⟨h.os, h.tape, h.output, h.size, fun k hk => h.block k (by omega) (by simp; omega)⟩
theorem gb_set {w : World} {g : Nat} (v : Value) (k : Nat) : w.grownBy (w.setCell ⟨g, k, none⟩ v) (some g) := ⟨rfl, rfl, rfl, by simp, fun j _ hn => Go.RowKit.Below.heap_setCell _ _ _ _ (fun e => hn (by rw [e]))⟩
/-- What a word behind a mark leaves. -/
def WP (ha hs : Nat) (l : Bs) (i : Nat) (m : UInt8) (X : ByteArray) (w' : World) : Prop :=
  (∀ t q, wordL m (l.drop i) = some (t, q) → X = txt t ∧ ∃ j, j ≤ l.length ∧ q = l.drop j ∧ i < j ∧ RS w' ha hs l j) ∧ (wordL m (l.drop i) = none → RS w' ha hs l i)
theorem WP.no {ha hs i : Nat} {l : Bs} {m : UInt8} {X : ByteArray} {w' : World} (h : wordL m (l.drop i) = none) (R : RS w' ha hs l i) : WP ha hs l i m X w' := ⟨fun t q e => (by rw [h] at e; cases e), fun _ => R⟩
theorem WP.yes {ha hs i j : Nat} {l t q : Bs} {m : UInt8} {X : ByteArray} {w' : World} (h : wordL m (l.drop i) = some (t, q)) (hX : X = txt t) (hj : j ≤ l.length) (hq : q = l.drop j) (hij : i < j) (R : RS w' ha hs l j) : WP ha hs l i m X w' :=
  ⟨fun t' q' e => (by rw [h] at e; injection e with e; injection e with e1 e2; subst e1 e2; exact ⟨hX, j, hj, hq, hij, R⟩), fun e => (by rw [h] at e; cases e)⟩
set_option maxHeartbeats 8000000 in
theorem word_any {ha hs i : Nat} {l : Bs} {m : UInt8} {y : Int} (w : World) (hR : RS w ha hs l i) (hi : i ≤ l.length) (hl : l.length ≤ 10000000) (hy : y = (m.toNat : Nat)) :
    Calls Tryd.prog 36 #[.int .u8 y, .pointer (some ⟨ha, 0, none⟩), .pointer (some ⟨hs, 0, none⟩)] w fun e w' => (∃ X, e = .returned (.tuple #[.string X, .bool (wordL m (l.drop i)).isSome]) ∧ WP ha hs l i m X w') ∧ w.grownBy w' (some ha) := by
  have HR := Lib.hid hR
  obtain ⟨S, hS⟩ : ∃ S, S = txt l := ⟨_, rfl⟩
  have HS := Lib.hid hS
  have HZ := Lib.hid (show S.size = l.length by rw [hS, txt_size])
  obtain ⟨x0, x1, f0⟩ := hR.cells
  rw [← hS] at x1
  obtain ⟨b, hb⟩ : ∃ b, b = (wordL m (l.drop i)).isSome := ⟨_, rfl⟩
  rw [← hb]
  have HBB := Lib.hid hb
  have HYM := Lib.hid hy
  have hi2 : i ≤ S.size := by rw [HZ.out]; exact hi
  have hz9 : S.size ≤ 10000000 := by rw [HZ.out]; exact hl
  clear hR hS hb hy hi hl
  by_cases h0 : i = S.size
  · have HW := Lib.hid (show wordL m (l.drop i) = none by rw [List.drop_eq_nil_of_le (by rw [h0, HZ.out]; exact Nat.le_refl _)]; rfl)
    have HE := Lib.hid (show b = false by rw [HBB.out, HW.out]; rfl)
    have h1 : ((i : Int) == S.size) = true := by simp [h0]
    clear h0
    go_enter Tryd.func36, Tryd.ntmps36
    go_wp2_with fail
    refine bodyPost_ret (v := .tuple #[.string ⟨#[]⟩, .bool false]) (by simp [results, Tryd.results36, go_sem, *]) rfl ?_
    exact ⟨⟨_, by rw [HE.out], WP.no HW.out HR.out⟩, World.grownBy.refl _ _⟩
  · have hlt : i < S.size := by omega
    have h1 : ((i : Int) == S.size) = false := by simp; omega
    have hx := _root_.Go.Proofs.YtoebhnhiljlljaaDoor.txt_at HS.out (k := i)
    obtain ⟨c, hc⟩ : ∃ c, l[i]? = some c := ⟨l[i]'(by rw [← HZ.out]; exact hlt), List.getElem?_eq_getElem _⟩
    obtain ⟨z, HY⟩ : ∃ z, Hid (z = bt l i) := ⟨_, rfl⟩
    rw [← HY.out] at hx
    have HYC := Lib.hid (show z = (c.toNat : Nat) by rw [HY.out, bt, List.getD_eq_getElem?_getD, hc]; rfl)
    have HD := Lib.hid (show l.drop i = c :: l.drop (i + 1) by
      have hl := (List.getElem?_eq_some_iff.1 hc).1
      rw [List.drop_eq_getElem_cons hl, (List.getElem?_eq_some_iff.1 hc).2])
    by_cases hm : c = m
    · subst hm
      obtain ⟨r, HRR⟩ : ∃ r, Hid (r = l.drop (i + 1)) := ⟨_, Lib.hid rfl⟩
      have HRL := Lib.hid (show r.length = l.length - (i + 1) by rw [HRR.out, List.length_drop])
      obtain ⟨W, HWD⟩ : ∃ W, Hid (W = (wd r).length) := ⟨_, Lib.hid rfl⟩
      have HWN := Lib.hid (show i + 1 + W ≤ l.length by have := wd_le r; have := HWD.out; have := HRL.out; have := HZ.out; omega)
      have HX := Lib.hid (show S.extract (i + 1) S.size = txt r by rw [HZ.out, HS.out, txt_cut, List.take_length, HRR.out])
      have HXW := Lib.hid (show S.extract (i + 1) (i + 1 + W) = txt (wd r) by
        rw [HS.out, txt_cut, HRR.out, List.drop_take, show i + 1 + W - (i + 1) = W by omega, HWD.out, HRR.out, wd_take])
      have HDR := Lib.hid (show r.drop (wd r).length = l.drop (i + 1 + W) by rw [HRR.out, List.drop_drop, ← HRR.out, HWD.out])
      have HIX := Lib.hid (ix_wd r)
      have HWL0 := Lib.hid (show wordL c (l.drop i) = (uh (wd r)).map fun t => (t, r.drop (wd r).length) by rw [HD.out, wordL, if_pos rfl, HRR.out])
      have CT := Lib.hid (fun w' => told_any (s := txt (wd r)) w' rfl (by have := wd_le r; have := HRL.out; have := HZ.out; omega))
      obtain ⟨x, hx9⟩ : ∃ x, x = Lib.indexAny r [47, 91, 61, 93] := ⟨_, rfl⟩
      have CM := Lib.hid (fun w' => marks_any (s := txt r) w' rfl (by have := HRL.out; have := HZ.out; omega) hx9)
      rw [← hx9] at HIX
      obtain rfl : z = y := by rw [HYC.out, HYM.out]
      have hWz : i + 1 + W ≤ S.size := by rw [HZ.out]; exact HWN.out
      clear h0 hc hx9
      cases hu : uh (wd r) with
      | some t =>
        rw [hu] at CT HWL0
        have HWL := Lib.hid (show wordL c (l.drop i) = some (t, r.drop (wd r).length) from HWL0.out)
        have HBT := Lib.hid (show b = true by rw [HBB.out, HWL.out]; rfl)
        clear hu HWL0
        by_cases hw : (wd r).length = r.length
        · have hxv : x = -1 := by rw [HIX.out, if_pos hw]
          have hWS : S.size = i + 1 + W := by have := HRL.out; have := HWD.out; have := HZ.out; omega
          subst hxv
          rw [← hWS] at HXW
          have HWS := Lib.hid hWS
          clear hw hWS
          go_enter Tryd.func36, Tryd.ntmps36
          go_wp2_with fail
          rw [HX.out]
          refine (CM.out _).mono ?_
          rintro e w2 ⟨rfl, hb2⟩
          have HB2 := Lib.hid hb2
          have R2 := Lib.hid (HR.out.kept hb2)
          obtain ⟨x0, x1, f0⟩ := R2.out.cells
          rw [← HS.out] at x1
          clear hb2
          go_wp2_with fail
          rw [HXW.out]
          refine (CT.out _).mono ?_
          rintro e w3 ⟨⟨X, rfl, hX⟩, hb3⟩
          have HX3 := Lib.hid hX
          have HB3 := Lib.hid (below_tr HB2.out hb3)
          have R3 := Lib.hid (R2.out.kept hb3)
          clear x0 x1 f0 hX hb3
          obtain ⟨x0, x1, f0⟩ := R3.out.cells
          rw [← HS.out] at x1
          go_wp2_with fail
          refine bodyPost_ret (v := .tuple #[.string X, .bool true]) (by simp [results, Tryd.results36, go_sem, *]) rfl ?_
          refine ⟨⟨X, by rw [HBT.out], WP.yes HWL.out (HX3.out _ rfl) (by have := HZ.out; omega : S.size ≤ l.length) (by rw [HWS.out]; exact HDR.out) (by have := HWS.out; omega : i < S.size) ⟨?_, ?_, R3.out.ne⟩⟩, gb_tr (gb_call ha HB3.out) (gb_set _ _)⟩
          · exact Go.heap_setCell_same w3 ha 0 _ _ _ R3.out.at_
          · exact (Go.RowKit.Below.heap_setCell _ _ _ _ R3.out.ne).trans R3.out.text
        · have hxv : x = ((W : Nat) : Int) := by rw [HIX.out, if_neg hw, HWD.out]
          subst hxv
          clear hw
          go_enter Tryd.func36, Tryd.ntmps36
          go_wp2_with fail
          rw [HX.out]
          refine (CM.out _).mono ?_
          rintro e w2 ⟨rfl, hb2⟩
          have HB2 := Lib.hid hb2
          have R2 := Lib.hid (HR.out.kept hb2)
          obtain ⟨x0, x1, f0⟩ := R2.out.cells
          rw [← HS.out] at x1
          clear hb2
          go_wp2_with fail
          rw [HXW.out]
          refine (CT.out _).mono ?_
          rintro e w3 ⟨⟨X, rfl, hX⟩, hb3⟩
          have HX3 := Lib.hid hX
          have HB3 := Lib.hid (below_tr HB2.out hb3)
          have R3 := Lib.hid (R2.out.kept hb3)
          clear x0 x1 f0 hX hb3
          obtain ⟨x0, x1, f0⟩ := R3.out.cells
          rw [← HS.out] at x1
          go_wp2_with fail
          refine bodyPost_ret (v := .tuple #[.string X, .bool true]) (by simp [results, Tryd.results36, go_sem, *]) rfl ?_
          refine ⟨⟨X, by rw [HBT.out], WP.yes HWL.out (HX3.out _ rfl) (by have := HWN.out; omega) HDR.out (by omega : i < i + 1 + W) ⟨?_, ?_, R3.out.ne⟩⟩, gb_tr (gb_call ha HB3.out) (gb_set _ _)⟩
          · rw [show ((i + 1 + W : Nat) : Int) = (i : Int) + 1 + W by omega]; exact Go.heap_setCell_same w3 ha 0 _ _ _ R3.out.at_
          · exact (Go.RowKit.Below.heap_setCell _ _ _ _ R3.out.ne).trans R3.out.text
      | none =>
        rw [hu] at CT HWL0
        have HWL := Lib.hid (show wordL c (l.drop i) = none from HWL0.out)
        have HBT := Lib.hid (show b = false by rw [HBB.out, HWL.out]; rfl)
        clear hu HWL0
        by_cases hw : (wd r).length = r.length
        · have hxv : x = -1 := by rw [HIX.out, if_pos hw]
          have hWS : S.size = i + 1 + W := by have := HRL.out; have := HWD.out; have := HZ.out; omega
          subst hxv
          rw [← hWS] at HXW
          have HWS := Lib.hid hWS
          clear hw hWS
          go_enter Tryd.func36, Tryd.ntmps36
          go_wp2_with fail
          rw [HX.out]
          refine (CM.out _).mono ?_
          rintro e w2 ⟨rfl, hb2⟩
          have HB2 := Lib.hid hb2
          have R2 := Lib.hid (HR.out.kept hb2)
          obtain ⟨x0, x1, f0⟩ := R2.out.cells
          rw [← HS.out] at x1
          clear hb2
          go_wp2_with fail
          rw [HXW.out]
          refine (CT.out _).mono ?_
          rintro e w3 ⟨⟨X, rfl, hX⟩, hb3⟩
          have HX3 := Lib.hid hX
          have HB3 := Lib.hid (below_tr HB2.out hb3)
          have R3 := Lib.hid (R2.out.kept hb3)
          clear x0 x1 f0 hX hb3
          obtain ⟨x0, x1, f0⟩ := R3.out.cells
          rw [← HS.out] at x1
          go_wp2_with fail
          refine bodyPost_ret (v := .tuple #[.string X, .bool false]) (by simp [results, Tryd.results36, go_sem, *]) rfl ?_
          exact ⟨⟨X, by rw [HBT.out], WP.no HWL.out R3.out⟩, gb_call ha HB3.out⟩
        · have hxv : x = ((W : Nat) : Int) := by rw [HIX.out, if_neg hw, HWD.out]
          subst hxv
          clear hw
          go_enter Tryd.func36, Tryd.ntmps36
          go_wp2_with fail
          rw [HX.out]
          refine (CM.out _).mono ?_
          rintro e w2 ⟨rfl, hb2⟩
          have HB2 := Lib.hid hb2
          have R2 := Lib.hid (HR.out.kept hb2)
          obtain ⟨x0, x1, f0⟩ := R2.out.cells
          rw [← HS.out] at x1
          clear hb2
          go_wp2_with fail
          rw [HXW.out]
          refine (CT.out _).mono ?_
          rintro e w3 ⟨⟨X, rfl, hX⟩, hb3⟩
          have HX3 := Lib.hid hX
          have HB3 := Lib.hid (below_tr HB2.out hb3)
          have R3 := Lib.hid (R2.out.kept hb3)
          clear x0 x1 f0 hX hb3
          obtain ⟨x0, x1, f0⟩ := R3.out.cells
          rw [← HS.out] at x1
          go_wp2_with fail
          refine bodyPost_ret (v := .tuple #[.string X, .bool false]) (by simp [results, Tryd.results36, go_sem, *]) rfl ?_
          exact ⟨⟨X, by rw [HBT.out], WP.no HWL.out R3.out⟩, gb_call ha HB3.out⟩
    · have HW := Lib.hid (show wordL m (l.drop i) = none by rw [HD.out]; exact wordL_ne hm)
      have HE := Lib.hid (show b = false by rw [HBB.out, HW.out]; rfl)
      have h2 : (z == y) = false := by
        rw [beq_eq_false_iff_ne, HYC.out, HYM.out]
        intro e
        exact hm (UInt8.toNat_inj.1 (by omega))
      clear h0 hc hm
      go_enter Tryd.func36, Tryd.ntmps36
      go_wp2_with fail
      refine bodyPost_ret (v := .tuple #[.string ⟨#[]⟩, .bool false]) (by simp [results, Tryd.results36, go_sem, *]) rfl ?_
      exact ⟨⟨_, by rw [HE.out], WP.no HW.out HR.out⟩, World.grownBy.refl _ _⟩
end Pa
end Go.Proofs.YtoebhnhiljlljaaDoor
