/- What landed of paths: the step that stands next in a text. -/
import Derived.Test.YtoebhnhiljlljaaDoorRd
import Derived.Test.YtoebhnhiljlljaaDoorRb
namespace Go.Proofs.YtoebhnhiljlljaaDoor
open Go.RowKit
namespace Pa
set_option maxRecDepth 100000

/-- Midway: what is answered lies in a block of its own. -/
structure SG (w wx : World) (ha hs g2 : Nat) (l : Bs) (j : Nat) : Prop where
  gb : w.grownBy wx (some ha)
  rs : RS wx ha hs l j
  cell : wx.heap[g2]? = some (.cells #[.int .u8 0, .string ⟨#[]⟩, .string ⟨#[]⟩, .int .i64 0] 32 (0, 0))
  lo : w.heap.size ≤ g2
  hl : ha < w.heap.size ∧ hs < w.heap.size
section
variable {w wx wy : World} {ha hs g2 : Nat} {l : Bs} {i j : Nat}
theorem gb_block {a b : World} {g k : Nat} {o : Obj} (h : a.grownBy b (some g)) (hk : k ≠ g) (ho : a.heap[k]? = some o) : b.heap[k]? = some o := (h.block k (Array.getElem?_eq_some_iff.1 ho).1 (by simp; omega)).trans ho
theorem SG.next (H : SG w wx ha hs g2 l i) (hb : wx.grownBy wy (some ha)) (R : RS wy ha hs l j) : SG w wy ha hs g2 l j :=
  ⟨gb_tr H.gb hb, R, gb_block hb (by have := H.hl; have := H.lo; omega) H.cell, H.lo, H.hl⟩
theorem gb_far {a b : World} {g k c : Nat} {v : Value} (h : a.grownBy b (some g)) (hk : a.heap.size ≤ k) : a.grownBy (b.setCell ⟨k, c, none⟩ v) (some g) :=
  ⟨h.os, h.tape, h.output, by have := h.size; simp; omega, fun q hq hn => (Go.RowKit.Below.heap_setCell _ _ _ _ (by show q ≠ k; omega)).trans (h.block q hq hn)⟩
theorem RS.far {k c : Nat} {v : Value} (h : RS wx ha hs l j) (h1 : k ≠ ha) (h2 : k ≠ hs) : RS (wx.setCell ⟨k, c, none⟩ v) ha hs l j :=
  ⟨(Go.RowKit.Below.heap_setCell _ _ _ _ (fun e => h1 e.symm)).trans h.at_, (Go.RowKit.Below.heap_setCell _ _ _ _ (fun e => h2 e.symm)).trans h.text, h.ne⟩
theorem SG.four (H : SG w wx ha hs g2 l j) (a b c d : Value) : w.grownBy ((((wx.setCell ⟨g2, 0, none⟩ a).setCell ⟨g2, 1, none⟩ b).setCell ⟨g2, 2, none⟩ c).setCell ⟨g2, 3, none⟩ d) (some ha) ∧ RS ((((wx.setCell ⟨g2, 0, none⟩ a).setCell ⟨g2, 1, none⟩ b).setCell ⟨g2, 2, none⟩ c).setCell ⟨g2, 3, none⟩ d) ha hs l j := by
  have h1 := H.hl
  have h2 := H.lo
  exact ⟨gb_far (gb_far (gb_far (gb_far H.gb h2) h2) h2) h2, (((H.rs.far (by omega) (by omega)).far (by omega) (by omega)).far (by omega) (by omega)).far (by omega) (by omega)⟩
theorem SG.far (H : SG w wx ha hs g2 l j) {k c : Nat} {v : Value} (hk : w.heap.size ≤ k) (hk2 : k ≠ g2) : SG w (wx.setCell ⟨k, c, none⟩ v) ha hs g2 l j :=
  ⟨gb_far H.gb hk, H.rs.far (by have := H.hl; omega) (by have := H.hl; omega), (Go.RowKit.Below.heap_setCell _ _ _ _ (fun e => hk2 e.symm)).trans H.cell, H.lo, H.hl⟩
theorem SG.alloc (H : SG w wx ha hs g2 l j) (o : Obj) : SG w (wx.alloc o) ha hs g2 l j := H.next (gb_call ha (below_new ..)) (H.rs.kept (below_new ..))
end
theorem closeL_of {q u q9 : Bs} (h : wordL 93 q = some (u, q9)) (x : St) : closeL x q = if u = [] then some (x, q9) else none := by
  unfold closeL
  rw [h]
  cases u <;> simp
/-- What a step's reading leaves. -/
def SP (ha hs : Nat) (l : Bs) (i : Nat) (v : Value) (w' : World) : Prop :=
  ∀ x q, stepL (l.drop i) = some (x, q) → v = stV x ∧ ∃ j, j ≤ l.length ∧ q = l.drop j ∧ i < j ∧ RS w' ha hs l j
theorem SP.no {ha hs i : Nat} {l : Bs} {v : Value} {w' : World} (h : stepL (l.drop i) = none) : SP ha hs l i v w' := fun x q e => (by rw [h] at e; cases e)
set_option maxHeartbeats 8000000 in
theorem rstep_any {ha hs i : Nat} {l : Bs} (w : World) (hR : RS w ha hs l i) (hi : i ≤ l.length) (hl : l.length ≤ 10000000) (hT : ∀ w' : World, w.grownBy w' (some ha) → TL w') :
    Calls Tryd.prog 39 #[.func (.func 36) #[] #[.pointer (some ⟨ha, 0, none⟩), .pointer (some ⟨hs, 0, none⟩)]] w fun e w' => (∃ y : St, e = .returned (.tuple #[stV y, .bool (stepL (l.drop i)).isSome]) ∧ SP ha hs l i (stV y) w') ∧ w.grownBy w' (some ha) := by
  obtain ⟨W1, hW1⟩ : ∃ W, W = w.alloc (.cells #[.int .u8 0, .string ⟨#[]⟩, .string ⟨#[]⟩, .int .i64 0] 32) := ⟨_, rfl⟩
  have G1 := Lib.hid (show SG w W1 ha hs w.heap.size l i from by
    rw [hW1]
    exact ⟨gb_call ha (below_new ..), hR.kept (below_new ..), heap_alloc_new .., Nat.le_refl _, (Array.getElem?_eq_some_iff.1 hR.at_).1, (Array.getElem?_eq_some_iff.1 hR.text).1⟩)
  have HL := Lib.hid (And.intro hi hl)
  have HT := Lib.hid hT
  obtain ⟨b, hb⟩ : ∃ b, b = (stepL (l.drop i)).isSome := ⟨_, rfl⟩
  rw [← hb]
  have HB := Lib.hid hb
  have C1 := Lib.hid (word_any (m := 47) (y := 47) W1 G1.out.rs hi hl rfl)
  obtain ⟨g2, hg2⟩ : ∃ g, g = w.heap.size := ⟨_, rfl⟩
  rw [← hg2] at G1
  have HG2 := Lib.hid hg2
  clear hR hi hl hT hb
  cases h47 : wordL 47 (l.drop i) with
  | some kq =>
    obtain ⟨k, q⟩ := kq
    have HST := Lib.hid (show stepL (l.drop i) = some (⟨0, k, 0, []⟩, q) by unfold stepL; rw [h47])
    have HBT := Lib.hid (show b = true by rw [HB.out, HST.out]; rfl)
    have H47 := Lib.hid h47
    rw [h47] at C1
    clear h47
    go_enter Tryd.func39, Tryd.ntmps39
    go_upto_region 1 with fail
    rw [← hW1, ← hg2]
    clear hg2 hW1
    go_wp2_with fail
    refine C1.out.mono ?_
    rintro e w2 ⟨⟨X, rfl, hX⟩, hgb⟩
    obtain ⟨hX1, j, hj, hq, hij, hR2⟩ := hX.1 k q H47.out
    have G2 := Lib.hid (G1.out.next hgb hR2)
    obtain ⟨⟨q0, q1, q2, q3⟩, r0, r1, r2, r3⟩ := vcells G2.out.cell
    have HJ := Lib.hid (And.intro hj (And.intro hq hij))
    subst hX1
    clear hX hgb hR2 hj hq hij
    go_wp2_with fail
    refine bodyPost_ret (v := .tuple #[.agg #[.int .u8 0, .string (txt k), .string ⟨#[]⟩, .int .i64 0], .bool true]) (by simp [results, Tryd.results39, go_sem, *]) rfl ?_
    have F := G2.out.four (.int .u8 0) (.string (txt k)) (.string ⟨#[]⟩) (.int .i64 0)
    refine ⟨⟨⟨0, k, 0, []⟩, by rw [HBT.out]; rfl, fun x q' e => ?_⟩, F.1⟩
    rw [HST.out] at e
    injection e with e
    injection e with e1 e2
    subst e1 e2
    exact ⟨rfl, j, HJ.out.1, HJ.out.2.1, HJ.out.2.2, F.2⟩
  | none =>
    have H47 := Lib.hid h47
    rw [h47] at C1
    go_enter Tryd.func39, Tryd.ntmps39
    go_upto_region 1 with fail
    rw [← hW1, ← hg2]
    clear hg2 hW1
    go_wp2_with fail
    refine C1.out.mono ?_
    rintro e w2 ⟨⟨X, rfl, hX⟩, hgb⟩
    have G2 := Lib.hid (G1.out.next hgb (hX.2 H47.out))
    have C2 := Lib.hid (word_any (m := 91) (y := 91) w2 G2.out.rs HL.out.1 HL.out.2 rfl)
    clear hX hgb C1
    cases h91 : wordL 91 (l.drop i) with
    | none =>
      have HST := Lib.hid (show stepL (l.drop i) = none by unfold stepL; rw [h47, h91])
      have HBT := Lib.hid (show b = false by rw [HB.out, HST.out]; rfl)
      have H91 := Lib.hid h91
      rw [h91] at C2
      clear h47 h91
      go_wp2_with fail
      refine C2.out.mono ?_
      rintro e w3 ⟨⟨X2, rfl, hX⟩, hgb⟩
      have G3 := Lib.hid (G2.out.next hgb (hX.2 H91.out))
      obtain ⟨⟨q0, q1, q2, q3⟩, r0, r1, r2, r3⟩ := vcells G3.out.cell
      clear hX hgb
      go_wp2_with fail
      refine bodyPost_ret (v := .tuple #[.agg #[.int .u8 0, .string ⟨#[]⟩, .string ⟨#[]⟩, .int .i64 0], .bool false]) (by simp [results, Tryd.results39, go_sem, *]) rfl ?_
      have F := G3.out.four (.int .u8 0) (.string ⟨#[]⟩) (.string ⟨#[]⟩) (.int .i64 0)
      exact ⟨⟨⟨0, [], 0, []⟩, by rw [HBT.out]; rfl, SP.no HST.out⟩, F.1⟩
    | some tq =>
      obtain ⟨t, q⟩ := tq
      have HST := Lib.hid (show stepL (l.drop i) = match wordL 61 q with
        | some (i', q2) => closeL ⟨2, t, 0, i'⟩ q2
        | none => match nb t with
          | some n => closeL ⟨1, [], (n : Nat), []⟩ q
          | none => none by unfold stepL; rw [h47, h91]; rfl)
      have H91 := Lib.hid h91
      rw [h91] at C2
      clear h47 h91
      go_wp2_with fail
      refine C2.out.mono ?_
      rintro e w3 ⟨⟨X2, rfl, hX⟩, hgb⟩
      obtain ⟨hX1, j, hj, hq, hij, hR3⟩ := hX.1 t q H91.out
      have G3 := Lib.hid (G2.out.next hgb hR3)
      have HJ := Lib.hid (And.intro hj (And.intro hq hij))
      subst hX1
      obtain ⟨T, hT⟩ : ∃ T, T = txt t := ⟨_, rfl⟩
      rw [← hT]
      have HTT := Lib.hid hT
      obtain ⟨W4, hW4⟩ : ∃ W, W = w3.alloc (.cells #[.int .u8 2, .string T, .string ⟨#[]⟩, .int .i64 0] 32) := ⟨_, rfl⟩
      have G4 := Lib.hid (show SG w W4 ha hs g2 l j from by rw [hW4]; exact G3.out.alloc _)
      have H8 := Lib.hid (show W4.heap[w3.heap.size]? = some (.cells #[.int .u8 2, .string T, .string ⟨#[]⟩, .int .i64 0] 32 (0, 0)) from by rw [hW4]; exact heap_alloc_new ..)
      have H82 := Lib.hid (show w.heap.size ≤ w3.heap.size ∧ w3.heap.size ≠ g2 ∧ w3.heap.size ≠ ha from by
        have h1 := G3.out.gb.size
        have h2 := (Array.getElem?_eq_some_iff.1 G3.out.cell).1
        have h3 := G3.out.hl
        exact ⟨h1, by omega, by omega⟩)
      clear hX hgb hR3 hj hq hij hT
      go_upto_region 8 with fail
      rw [← hW4]
      obtain ⟨g8, hg8⟩ : ∃ g, g = w3.heap.size := ⟨_, rfl⟩
      rw [← hg8] at H8 H82 ⊢
      clear hg8 hW4
      have C3 := Lib.hid (word_any (m := 61) (y := 61) W4 G4.out.rs HJ.out.1 HL.out.2 rfl)
      rw [← HJ.out.2.1] at C3
      cases h61 : wordL 61 q with
      | some iq =>
        obtain ⟨id, q2⟩ := iq
        have HS2 := Lib.hid (show stepL (l.drop i) = closeL ⟨2, t, 0, id⟩ q2 by rw [HST.out, h61])
        have H61 := Lib.hid h61
        rw [h61] at C3
        clear h61
        obtain ⟨⟨q0, q1, q2', q3⟩, r0, r1, r2, r3⟩ := vcells H8.out
        go_wp2_with fail
        refine C3.out.mono ?_
        rintro e w5 ⟨⟨X3, rfl, hX⟩, hgb⟩
        obtain ⟨hX1, j9, hj9, hq2, hij2, hR5⟩ := hX.1 id q2 (by rw [← HJ.out.2.1]; exact H61.out)
        have G5 := Lib.hid (G4.out.next hgb hR5)
        have H85 := Lib.hid (gb_block hgb H82.out.2.2 H8.out)
        subst hX1
        clear hX hgb hR5 q0 q1 q2' q3 r0 r1 r2 r3
        obtain ⟨⟨q0, q1, q2', q3⟩, r0, r1, r2, r3⟩ := vcells H85.out
        obtain ⟨wc, hwc⟩ : ∃ W, W = w5.setCell ⟨g8, 2, none⟩ (.string (txt id)) := ⟨_, rfl⟩
        have hG9 : SG w wc ha hs g2 l j9 := by rw [hwc]; exact G5.out.far H82.out.1 H82.out.2.1
        have hH9 : wc.heap[g8]? = some (.cells #[.int .u8 2, .string (txt t), .string (txt id), .int .i64 0] 32 (0, 0)) := by
          have h9 := Go.heap_setCell_same w5 g8 2 _ _ (.string (txt id)) H85.out
          rw [HTT.out] at h9
          rw [hwc]; exact h9
        have hij9 : i < j9 := by have := HJ.out.2.2; omega
        have hS9 : stepL (l.drop i) = closeL ⟨2, t, 0, id⟩ (l.drop j9) := by rw [HS2.out, hq2]
        go_upto_region 12 with fail
        rw [← hwc]
        clear hwc q0 q1 q2' q3 r0 r1 r2 r3 hq2 hij2
        have G9 := Lib.hid hG9
        have H89 := Lib.hid hH9
        have HJ9 := Lib.hid (And.intro hij9 (And.intro hj9 hS9))
        have C4 := Lib.hid (word_any (m := 93) (y := 93) wc G9.out.rs hj9 HL.out.2 rfl)
        clear hG9 hH9 hij9 hj9 hS9
        cases h93 : wordL 93 (l.drop j9) with
        | none =>
          have HS3 := Lib.hid (show stepL (l.drop i) = none by rw [HJ9.out.2.2]; unfold closeL; rw [h93])
          have HBT := Lib.hid (show b = false by rw [HB.out, HS3.out]; rfl)
          have H93 := Lib.hid h93
          rw [h93] at C4
          clear h93
          go_wp2_with fail
          refine C4.out.mono ?_
          rintro e wd ⟨⟨X4, rfl, hX⟩, hgb⟩
          have GD := Lib.hid (G9.out.next hgb (hX.2 H93.out))
          have H8D := Lib.hid (gb_block hgb H82.out.2.2 H89.out)
          clear hX hgb
          obtain ⟨⟨p0, p1, p2, p3⟩, -⟩ := vcells H8D.out
          obtain ⟨⟨q0, q1, q2, q3⟩, r0, r1, r2, r3⟩ := vcells GD.out.cell
          have F := Lib.hid (GD.out.four (.int .u8 2) (.string (txt t)) (.string (txt id)) (.int .i64 0))
          go_wp2_with fail
          refine bodyPost_ret (v := .tuple #[.agg #[.int .u8 2, .string (txt t), .string (txt id), .int .i64 0], .bool false]) (by simp [results, Tryd.results39, go_sem, *]) rfl ?_
          exact ⟨⟨⟨2, t, 0, id⟩, by rw [HBT.out]; rfl, SP.no HS3.out⟩, F.out.1⟩
        | some uq =>
          obtain ⟨u, q9⟩ := uq
          have H93 := Lib.hid h93
          rw [h93] at C4
          have HCL := Lib.hid (closeL_of h93)
          clear h93
          go_wp2_with fail
          refine C4.out.mono ?_
          rintro e wd ⟨⟨X4, rfl, hX⟩, hgb⟩
          obtain ⟨hX1, jd, hjd, hqd, hijd, hRd⟩ := hX.1 u q9 H93.out
          have GD := Lib.hid (G9.out.next hgb hRd)
          have H8D := Lib.hid (gb_block hgb H82.out.2.2 H89.out)
          have HJD := Lib.hid (And.intro hjd (And.intro hqd hijd))
          clear hX hgb hRd hjd hqd hijd
          obtain ⟨⟨p0, p1, p2, p3⟩, -⟩ := vcells H8D.out
          obtain ⟨⟨q0, q1, q2, q3⟩, r0, r1, r2, r3⟩ := vcells GD.out.cell
          have F := Lib.hid (GD.out.four (.int .u8 2) (.string (txt t)) (.string (txt id)) (.int .i64 0))
          cases u with
          | nil =>
            have HS3 := Lib.hid (show stepL (l.drop i) = some (⟨2, t, 0, id⟩, q9) by rw [HJ9.out.2.2, HCL.out, if_pos rfl])
            have HBT := Lib.hid (show b = true by rw [HB.out, HS3.out]; rfl)
            obtain rfl : X4 = ⟨#[]⟩ := hX1
            go_wp2_with fail
            refine bodyPost_ret (v := .tuple #[.agg #[.int .u8 2, .string (txt t), .string (txt id), .int .i64 0], .bool true]) (by simp [results, Tryd.results39, go_sem, *]) rfl ?_
            refine ⟨⟨⟨2, t, 0, id⟩, by rw [HBT.out]; rfl, fun x q' e => ?_⟩, F.out.1⟩
            rw [HS3.out] at e
            injection e with e
            injection e with e1 e2
            subst e1 e2
            exact ⟨rfl, jd, HJD.out.1, HJD.out.2.1, by have := HJ9.out.1; have := HJD.out.2.2; omega, F.out.2⟩
          | cons d v =>
            have HS3 := Lib.hid (show stepL (l.drop i) = none by rw [HJ9.out.2.2, HCL.out, if_neg (by simp)])
            have HBT := Lib.hid (show b = false by rw [HB.out, HS3.out]; rfl)
            have hemp : X4.toList.isEmpty = false := by rw [hX1, ByteArray.toList_eq]; simp [txt]
            have hemp2 : ¬ X4.toList = [] := by intro e; rw [e] at hemp; cases hemp
            clear hX1
            go_wp2_with fail
            refine bodyPost_ret (v := .tuple #[.agg #[.int .u8 2, .string (txt t), .string (txt id), .int .i64 0], .bool false]) (by simp [results, Tryd.results39, go_sem, *]) rfl ?_
            exact ⟨⟨⟨2, t, 0, id⟩, by rw [HBT.out]; rfl, SP.no HS3.out⟩, F.out.1⟩
      | none =>
        have HS2 := Lib.hid (show stepL (l.drop i) = match nb t with
          | some n => closeL ⟨1, [], (n : Nat), []⟩ q
          | none => none by rw [HST.out, h61])
        have H61 := Lib.hid h61
        rw [h61] at C3
        clear h61
        obtain ⟨⟨q0, q1, q2', q3⟩, r0, r1, r2, r3⟩ := vcells H8.out
        go_wp2_with fail
        refine C3.out.mono ?_
        rintro e w5 ⟨⟨X3, rfl, hX⟩, hgb⟩
        have G5 := Lib.hid (G4.out.next hgb (hX.2 (by rw [← HJ.out.2.1]; exact H61.out)))
        have H85 := Lib.hid (gb_block hgb H82.out.2.2 H8.out)
        clear hX hgb q0 q1 q2' q3 r0 r1 r2 r3
        obtain ⟨⟨q0, q1, q2', q3⟩, r0, r1, r2, r3⟩ := vcells H85.out
        obtain ⟨W6, hW6⟩ : ∃ W, W = ((((w5.setCell ⟨g8, 2, none⟩ (.string X3)).setCell ⟨g8, 0, none⟩ (.int .u8 1)).setCell ⟨g8, 1, none⟩ (.string ⟨#[]⟩)).setCell ⟨g8, 2, none⟩ (.string ⟨#[]⟩)).setCell ⟨g8, 3, none⟩ (.int .i64 0) := ⟨_, rfl⟩
        have G6 := Lib.hid (show SG w W6 ha hs g2 l j from by
          rw [hW6]
          have f := fun {wx : World} {c : Nat} {v : Value} (H : SG w wx ha hs g2 l j) => H.far (c := c) (v := v) H82.out.1 H82.out.2.1
          exact f (f (f (f (f G5.out)))))
        have H86 := Lib.hid (show W6.heap[g8]? = some (.cells #[.int .u8 1, .string ⟨#[]⟩, .string ⟨#[]⟩, .int .i64 0] 32 (0, 0)) from by
          rw [hW6]
          exact Go.heap_setCell_same _ g8 3 _ _ _ (Go.heap_setCell_same _ g8 2 _ _ _ (Go.heap_setCell_same _ g8 1 _ _ _ (Go.heap_setCell_same _ g8 0 _ _ _ (Go.heap_setCell_same w5 g8 2 _ _ _ H85.out)))))
        have CN := Lib.hid (number_any (t := t) (s := T) W6 HTT.out (by
          have := (wordL_some H91.out).1
          have h9 := congrArg List.length this
          rw [List.length_drop, List.length_cons, List.length_append] at h9
          have h10 : t.length ≤ (hide t).length := hide_len t
          have := HL.out.2
          omega) (HT.out W6 G6.out.gb))
        go_upto_region 11 with fail
        rw [← hW6]
        clear hW6 q0 q1 q2' q3 r0 r1 r2 r3
        go_wp2_with fail
        refine CN.out.mono ?_
        rintro e w7 ⟨⟨z, rfl, hz⟩, hb7⟩
        have G7 := Lib.hid (G6.out.next (gb_call ha hb7) (G6.out.rs.kept hb7))
        have H87 := Lib.hid ((hb7.block _ (Array.getElem?_eq_some_iff.1 H86.out).1).trans H86.out)
        have HZ := Lib.hid hz
        clear hb7 hz
        obtain ⟨⟨q0, q1, q2', q3⟩, r0, r1, r2, r3⟩ := vcells H87.out
        obtain ⟨wc, hwc⟩ : ∃ W, W = w7.setCell ⟨g8, 3, none⟩ (.int .i64 z) := ⟨_, rfl⟩
        obtain ⟨j9, hjj⟩ : ∃ j9, j9 = j := ⟨_, rfl⟩
        have hG9 : SG w wc ha hs g2 l j9 := by rw [hwc, hjj]; exact G7.out.far H82.out.1 H82.out.2.1
        have hH9 : wc.heap[g8]? = some (.cells #[.int .u8 1, .string (txt []), .string (txt []), .int .i64 z] 32 (0, 0)) := by
          rw [hwc]; exact Go.heap_setCell_same w7 g8 3 _ _ (.int .i64 z) H87.out
        have hij9 : i < j9 := by rw [hjj]; exact HJ.out.2.2
        have hj9 : j9 ≤ l.length := by rw [hjj]; exact HJ.out.1
        have hqj : q = l.drop j9 := by rw [hjj]; exact HJ.out.2.1
        cases hn : nb t with
        | some n =>
          have hS9 : stepL (l.drop i) = closeL ⟨1, [], z, []⟩ (l.drop j9) := by rw [HS2.out, hn, HZ.out n hn, hqj]
          clear hn
          go_upto_region 12 with fail
          rw [← hwc]
          clear hwc q0 q1 q2' q3 r0 r1 r2 r3 hjj hqj
          have G9 := Lib.hid hG9
          have H89 := Lib.hid hH9
          have HJ9 := Lib.hid (And.intro hij9 (And.intro hj9 hS9))
          have C4 := Lib.hid (word_any (m := 93) (y := 93) wc G9.out.rs hj9 HL.out.2 rfl)
          clear hG9 hH9 hij9 hj9 hS9
          cases h93 : wordL 93 (l.drop j9) with
          | none =>
            have HS3 := Lib.hid (show stepL (l.drop i) = none by rw [HJ9.out.2.2]; unfold closeL; rw [h93])
            have HBT := Lib.hid (show b = false by rw [HB.out, HS3.out]; rfl)
            have H93 := Lib.hid h93
            rw [h93] at C4
            clear h93
            go_wp2_with fail
            refine C4.out.mono ?_
            rintro e wd ⟨⟨X4, rfl, hX⟩, hgb⟩
            have GD := Lib.hid (G9.out.next hgb (hX.2 H93.out))
            have H8D := Lib.hid (gb_block hgb H82.out.2.2 H89.out)
            clear hX hgb
            obtain ⟨⟨p0, p1, p2, p3⟩, -⟩ := vcells H8D.out
            obtain ⟨⟨q0, q1, q2, q3⟩, r0, r1, r2, r3⟩ := vcells GD.out.cell
            have F := Lib.hid (GD.out.four (.int .u8 1) (.string (txt [])) (.string (txt [])) (.int .i64 z))
            go_wp2_with fail
            refine bodyPost_ret (v := .tuple #[.agg #[.int .u8 1, .string (txt []), .string (txt []), .int .i64 z], .bool false]) (by simp [results, Tryd.results39, go_sem, *]) rfl ?_
            exact ⟨⟨⟨1, [], z, []⟩, by rw [HBT.out]; rfl, SP.no HS3.out⟩, F.out.1⟩
          | some uq =>
            obtain ⟨u, q9⟩ := uq
            have H93 := Lib.hid h93
            rw [h93] at C4
            have HCL := Lib.hid (closeL_of h93)
            clear h93
            go_wp2_with fail
            refine C4.out.mono ?_
            rintro e wd ⟨⟨X4, rfl, hX⟩, hgb⟩
            obtain ⟨hX1, jd, hjd, hqd, hijd, hRd⟩ := hX.1 u q9 H93.out
            have GD := Lib.hid (G9.out.next hgb hRd)
            have H8D := Lib.hid (gb_block hgb H82.out.2.2 H89.out)
            have HJD := Lib.hid (And.intro hjd (And.intro hqd hijd))
            clear hX hgb hRd hjd hqd hijd
            obtain ⟨⟨p0, p1, p2, p3⟩, -⟩ := vcells H8D.out
            obtain ⟨⟨q0, q1, q2, q3⟩, r0, r1, r2, r3⟩ := vcells GD.out.cell
            have F := Lib.hid (GD.out.four (.int .u8 1) (.string (txt [])) (.string (txt [])) (.int .i64 z))
            cases u with
            | nil =>
              have HS3 := Lib.hid (show stepL (l.drop i) = some (⟨1, [], z, []⟩, q9) by rw [HJ9.out.2.2, HCL.out, if_pos rfl])
              have HBT := Lib.hid (show b = true by rw [HB.out, HS3.out]; rfl)
              obtain rfl : X4 = ⟨#[]⟩ := hX1
              go_wp2_with fail
              refine bodyPost_ret (v := .tuple #[.agg #[.int .u8 1, .string (txt []), .string (txt []), .int .i64 z], .bool true]) (by simp [results, Tryd.results39, go_sem, *]) rfl ?_
              refine ⟨⟨⟨1, [], z, []⟩, by rw [HBT.out]; rfl, fun x q' e => ?_⟩, F.out.1⟩
              rw [HS3.out] at e
              injection e with e
              injection e with e1 e2
              subst e1 e2
              exact ⟨rfl, jd, HJD.out.1, HJD.out.2.1, by have := HJ9.out.1; have := HJD.out.2.2; omega, F.out.2⟩
            | cons d v =>
              have HS3 := Lib.hid (show stepL (l.drop i) = none by rw [HJ9.out.2.2, HCL.out, if_neg (by simp)])
              have HBT := Lib.hid (show b = false by rw [HB.out, HS3.out]; rfl)
              have hemp : X4.toList.isEmpty = false := by rw [hX1, ByteArray.toList_eq]; simp [txt]
              have hemp2 : ¬ X4.toList = [] := by intro e; rw [e] at hemp; cases hemp
              clear hX1
              go_wp2_with fail
              refine bodyPost_ret (v := .tuple #[.agg #[.int .u8 1, .string (txt []), .string (txt []), .int .i64 z], .bool false]) (by simp [results, Tryd.results39, go_sem, *]) rfl ?_
              exact ⟨⟨⟨1, [], z, []⟩, by rw [HBT.out]; rfl, SP.no HS3.out⟩, F.out.1⟩
        | none =>
          have hS9 : stepL (l.drop i) = none := by rw [HS2.out, hn]
          clear hn
          go_upto_region 12 with fail
          rw [← hwc]
          clear hwc q0 q1 q2' q3 r0 r1 r2 r3 hjj hqj
          have G9 := Lib.hid hG9
          have H89 := Lib.hid hH9
          have HJ9 := Lib.hid (And.intro hij9 (And.intro hj9 hS9))
          have C4 := Lib.hid (word_any (m := 93) (y := 93) wc G9.out.rs hj9 HL.out.2 rfl)
          clear hG9 hH9 hij9 hj9 hS9
          cases h93 : wordL 93 (l.drop j9) with
          | none =>
            have HS3 := Lib.hid (show stepL (l.drop i) = none by rw [HJ9.out.2.2])
            have HBT := Lib.hid (show b = false by rw [HB.out, HS3.out]; rfl)
            have H93 := Lib.hid h93
            rw [h93] at C4
            clear h93
            go_wp2_with fail
            refine C4.out.mono ?_
            rintro e wd ⟨⟨X4, rfl, hX⟩, hgb⟩
            have GD := Lib.hid (G9.out.next hgb (hX.2 H93.out))
            have H8D := Lib.hid (gb_block hgb H82.out.2.2 H89.out)
            clear hX hgb
            obtain ⟨⟨p0, p1, p2, p3⟩, -⟩ := vcells H8D.out
            obtain ⟨⟨q0, q1, q2, q3⟩, r0, r1, r2, r3⟩ := vcells GD.out.cell
            have F := Lib.hid (GD.out.four (.int .u8 1) (.string (txt [])) (.string (txt [])) (.int .i64 z))
            go_wp2_with fail
            refine bodyPost_ret (v := .tuple #[.agg #[.int .u8 1, .string (txt []), .string (txt []), .int .i64 z], .bool false]) (by simp [results, Tryd.results39, go_sem, *]) rfl ?_
            exact ⟨⟨⟨1, [], z, []⟩, by rw [HBT.out]; rfl, SP.no HS3.out⟩, F.out.1⟩
          | some uq =>
            obtain ⟨u, q9⟩ := uq
            have H93 := Lib.hid h93
            rw [h93] at C4
            have HCL := Lib.hid (closeL_of h93)
            clear h93
            go_wp2_with fail
            refine C4.out.mono ?_
            rintro e wd ⟨⟨X4, rfl, hX⟩, hgb⟩
            obtain ⟨hX1, jd, hjd, hqd, hijd, hRd⟩ := hX.1 u q9 H93.out
            have GD := Lib.hid (G9.out.next hgb hRd)
            have H8D := Lib.hid (gb_block hgb H82.out.2.2 H89.out)
            have HJD := Lib.hid (And.intro hjd (And.intro hqd hijd))
            clear hX hgb hRd hjd hqd hijd
            obtain ⟨⟨p0, p1, p2, p3⟩, -⟩ := vcells H8D.out
            obtain ⟨⟨q0, q1, q2, q3⟩, r0, r1, r2, r3⟩ := vcells GD.out.cell
            have F := Lib.hid (GD.out.four (.int .u8 1) (.string (txt [])) (.string (txt [])) (.int .i64 z))
            have HS3 := Lib.hid (show stepL (l.drop i) = none by rw [HJ9.out.2.2])
            have HBT := Lib.hid (show b = false by rw [HB.out, HS3.out]; rfl)
            go_wp2_with fail
            refine bodyPost_ret (v := .tuple #[.agg #[.int .u8 1, .string (txt []), .string (txt []), .int .i64 z], .bool false]) (by simp [results, Tryd.results39, go_sem, *]) rfl ?_
            exact ⟨⟨⟨1, [], z, []⟩, by rw [HBT.out]; rfl, SP.no HS3.out⟩, F.out.1⟩
end Pa
end Go.Proofs.YtoebhnhiljlljaaDoor
