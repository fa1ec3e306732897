/- What landed: a text split, walked. -/
import Derived.Test.YtgmlbcdakblpiaaDoorDr
namespace Go.Proofs.YtgmlbcdakblpiaaDoor
open Go.RowKit
namespace Da

set_option maxHeartbeats 4000000 in
set_option maxRecDepth 100000 in
theorem split_is {l : List UInt8} {s : ByteArray} (w : World) (hs : s = txt l) (hl : l.length ≤ 1000000) :
    Calls Tryd.prog 24 #[.string s] w fun e w' => e = .returned (spv l) ∧ Below w.heap.size w w' := by
  obtain ⟨A, hA⟩ : ∃ A, A = txt (cutL [DF] l).1 := ⟨_, rfl⟩
  obtain ⟨R, hR⟩ : ∃ R, R = txt (cutL [DF] l).2 := ⟨_, rfl⟩
  have C1 := Lib.hid (fun (F : ByteArray) (hF : F = txt DF) (g : Nat) (w : World) (hg : g < w.heap.size) (hc : w.cell? ⟨g, 0, none⟩ = some (.string F)) => cut1_at w hs hl ⟨by decide, fbD⟩ hF hA hR hg hc)
  have P0 := Lib.hid ((PW.start (W := w) (a := ⟨#[]⟩) (b := ⟨#[]⟩) (c := ⟨#[]⟩) (d := ⟨#[]⟩)).alloc (sl1 ⟨#[89, 89, 89, 89, 45, 77, 77, 45, 68, 68]⟩))
  rw [cutL_D] at hA hR
  cases hd : dte l
  · rw [hd, if_neg (by simp)] at hA hR
    obtain ⟨e1, e2, e3, e4, e5⟩ := sp_none hd
    obtain ⟨X, hX⟩ : ∃ X, X = txt (cT l) := ⟨_, rfl⟩
    obtain ⟨Y, hY⟩ : ∃ X, X = txt (cF l) := ⟨_, rfl⟩
    obtain ⟨Z, hZ⟩ : ∃ X, X = txt (cR l) := ⟨_, rfl⟩
    have C2 := Lib.hid (fun w => cutTime_is w hs hl hX hY hZ)
    have hae : A = ⟨#[]⟩ := hA
    have E := Lib.hid (show spv l = .tuple #[wv ⟨#[]⟩ X Y ⟨#[]⟩, .string Z] by rw [spv, e1, e2, e3, e4, e5, hX, hY, hZ]; rfl)
    clear hs hl hA hR hX hY hZ e1 e2 e3 e4 e5 hd
    subst hae
    go_enter Tryd.func24, Tryd.ntmps24
    go_wp2_with fail
    refine (C1.out _ rfl _ _ (by simp) (by simp [go_sem]; rfl)).mono ?_
    rintro e w1 ⟨rfl, hb⟩
    have P1 := Lib.hid (P0.out.below hb)
    obtain ⟨⟨c0, c1, c2, c3⟩, f0, f1, f2, f3⟩ := P1.out.cells
    clear hb
    go_wp2_with fail
    refine (C2.out _).mono ?_
    rintro e w2 ⟨rfl, hb⟩
    have P2 := Lib.hid (P1.out.set0.below hb)
    clear hb c0 c1 c2 c3 f0 f1 f2 f3
    obtain ⟨⟨c0, c1, c2, c3⟩, f0, f1, f2, f3⟩ := P2.out.cells
    have P3 := Lib.hid ((P2.out.set1 (b' := X)).set2 (c' := Y))
    obtain ⟨⟨d0, d1, d2, d3⟩, g0, g1, g2, g3⟩ := P3.out.cells
    go_wp2_with fail
    refine bodyPost_ret (v := .tuple #[wv ⟨#[]⟩ X Y ⟨#[]⟩, .string Z]) (by simp [results, Tryd.results24, go_sem, *]) rfl ?_
    exact ⟨by rw [E.out], P3.out.set.1⟩
  · rw [hd, if_pos rfl] at hA hR
    have hin := dte_in hd
    have hae : A.toList.isEmpty = false := by
      rw [txt_empty hA, decide_eq_false]
      intro e; have := congrArg List.length e; rw [List.length_take, List.length_nil] at this; omega
    have hre := txt_empty hR
    have HAA := Lib.hid (show A = txt (l.take 10) from hA)
    have HRR := Lib.hid (show R = txt (l.drop 10) from hR)
    have hrz : R.size ≤ 1000000 := by rw [HRR.out, txt_size, List.length_drop]; omega
    have NO := Lib.hid (fun (hn : (sp (bt l 10) && clk l 11) = false) => show spv l = .tuple #[wv A ⟨#[]⟩ ⟨#[]⟩ ⟨#[]⟩, .string R] by
      obtain ⟨e1, e2, e3, e4, e5⟩ := sp_date hd hn
      rw [spv, e1, e2, e3, e4, e5, HAA.out, HRR.out]; rfl)
    by_cases hlen : l.length = 10
    · have E := Lib.hid (NO.out (by rw [bt_far (by omega)]; rfl))
      rw [decide_eq_true (show l.drop 10 = [] from List.drop_eq_nil_of_le (by omega))] at hre
      clear hs hl hA hR hd hin HAA HRR NO hlen
      go_enter Tryd.func24, Tryd.ntmps24
      go_wp2_with fail
      refine (C1.out _ rfl _ _ (by simp) (by simp [go_sem]; rfl)).mono ?_
      rintro e w1 ⟨rfl, hb⟩
      have P1 := Lib.hid (P0.out.below hb)
      obtain ⟨⟨c0, c1, c2, c3⟩, f0, f1, f2, f3⟩ := P1.out.cells
      have P3 := Lib.hid (P1.out.set0 (a' := A))
      obtain ⟨⟨d0, d1, d2, d3⟩, g0, g1, g2, g3⟩ := P3.out.cells
      clear hb
      go_wp2_with fail
      refine bodyPost_ret (v := .tuple #[wv A ⟨#[]⟩ ⟨#[]⟩ ⟨#[]⟩, .string R]) (by simp [results, Tryd.results24, go_sem, *]) rfl ?_
      exact ⟨by rw [E.out], P3.out.set.1⟩
    · have hne : ¬ l.drop 10 = [] := fun e => by have := congrArg List.length e; rw [List.length_drop, List.length_nil] at this; omega
      rw [decide_eq_false hne] at hre
      have hr0 : 0 < R.size := by rw [HRR.out, txt_size]; exact List.length_pos_iff.2 hne
      have hx := txt_at HRR.out (k := 0)
      rw [bt_drop] at hx
      obtain ⟨x, hxx⟩ : ∃ x, x = bt l (10 + 0) := ⟨_, rfl⟩
      rw [← hxx] at hx
      obtain ⟨y, ey, y1, y2, hy⟩ := tsp_is (c := x) (by rw [hxx]; exact bt_lo _ _) (by rw [hxx]; exact bt_hi _ _)
      have CI := Lib.hid hy
      have hxb : bt l 10 = x := hxx.symm
      rw [hxb] at NO
      clear hy hne hlen
      cases hsp : sp x
      · have hy0 : y < 0 := by rw [hsp] at ey; have := of_decide_eq_false ey; omega
        have E := Lib.hid (NO.out (by rw [hsp]; rfl))
        clear hs hl hA hR hd hin HAA HRR NO hxx hxb ey hsp
        go_enter Tryd.func24, Tryd.ntmps24
        go_wp2_with fail
        refine (C1.out _ rfl _ _ (by simp) (by simp [go_sem]; rfl)).mono ?_
        rintro e w1 ⟨rfl, hb⟩
        have P1 := Lib.hid (P0.out.below hb)
        obtain ⟨⟨c0, c1, c2, c3⟩, f0, f1, f2, f3⟩ := P1.out.cells
        have P3 := Lib.hid (P1.out.set0 (a' := A))
        obtain ⟨⟨d0, d1, d2, d3⟩, g0, g1, g2, g3⟩ := P3.out.cells
        clear hb
        go_wp2_with (go_at_call 46; refine (CI.out _).mono ?_; rintro e w' ⟨rfl, rfl⟩)
        refine bodyPost_ret (v := .tuple #[wv A ⟨#[]⟩ ⟨#[]⟩ ⟨#[]⟩, .string R]) (by simp [results, Tryd.results24, go_sem, *]) rfl ?_
        exact ⟨by rw [E.out], P3.out.set.1⟩
      · have hy0 : ¬ y < 0 := by rw [hsp] at ey; have := of_decide_eq_true ey; omega
        obtain ⟨Q, hQ⟩ : ∃ Q, Q = txt (l.drop 11) := ⟨_, rfl⟩
        have EQ := Lib.hid (show R.extract 1 R.size = Q by rw [HRR.out, txt_drop, List.drop_drop, hQ])
        obtain ⟨X, hX⟩ : ∃ X, X = txt (cT (l.drop 11)) := ⟨_, rfl⟩
        obtain ⟨Y, hY⟩ : ∃ X, X = txt (cF (l.drop 11)) := ⟨_, rfl⟩
        obtain ⟨Z, hZ⟩ : ∃ X, X = txt (cR (l.drop 11)) := ⟨_, rfl⟩
        have ql : (l.drop 11).length ≤ 1000000 := by rw [List.length_drop]; omega
        have C2 := Lib.hid (fun w => cutTime_is w hQ ql hX hY hZ)
        have hxe := txt_empty hX
        have hr1 : 1 ≤ R.size := hr0
        cases hk : clk l 11
        · have E := Lib.hid (NO.out (by rw [hk, hsp]; rfl))
          rw [decide_eq_true (cT_nil.2 (by rw [clk_dr]; exact hk))] at hxe
          clear hs hl hA hR hd hin HAA HRR NO hxx hxb ey hsp hk hX hY hZ hQ ql
          go_enter Tryd.func24, Tryd.ntmps24
          go_wp2_with fail
          refine (C1.out _ rfl _ _ (by simp) (by simp [go_sem]; rfl)).mono ?_
          rintro e w1 ⟨rfl, hb⟩
          have P1 := Lib.hid (P0.out.below hb)
          obtain ⟨⟨c0, c1, c2, c3⟩, f0, f1, f2, f3⟩ := P1.out.cells
          have P3 := Lib.hid (P1.out.set0 (a' := A))
          obtain ⟨⟨d0, d1, d2, d3⟩, g0, g1, g2, g3⟩ := P3.out.cells
          clear hb
          go_wp2_with (go_at_call 46; refine (CI.out _).mono ?_; rintro e w' ⟨rfl, rfl⟩)
          rw [EQ.out]
          refine (C2.out _).mono ?_
          rintro e w2 ⟨rfl, hb⟩
          have P4 := Lib.hid (P3.out.below hb)
          clear hb c0 c1 c2 c3 f0 f1 f2 f3 d0 d1 d2 d3 g0 g1 g2 g3
          obtain ⟨⟨c0, c1, c2, c3⟩, f0, f1, f2, f3⟩ := P4.out.cells
          go_wp2_with fail
          refine bodyPost_ret (v := .tuple #[wv A ⟨#[]⟩ ⟨#[]⟩ ⟨#[]⟩, .string R]) (by simp [results, Tryd.results24, go_sem, *]) rfl ?_
          exact ⟨by rw [E.out], P4.out.set.1⟩
        · obtain ⟨e1, e2, e3, e4, e5⟩ := sp_both hd (by rw [hxb]; exact hsp) hk
          obtain ⟨V, hV⟩ : ∃ X, X = txt ((cR (l.drop 11)).take (zn (cR (l.drop 11)) 0)) := ⟨_, rfl⟩
          obtain ⟨U, hU⟩ : ∃ X, X = txt ((cR (l.drop 11)).drop (zn (cR (l.drop 11)) 0)) := ⟨_, rfl⟩
          have C3 := Lib.hid (fun w => cutZone_is w hZ (by have := cR_len (l.drop 11); omega) hV hU)
          have E := Lib.hid (show spv l = .tuple #[wv A X Y V, .string U] by rw [spv, e1, e2, e3, e4, e5, HAA.out, hX, hY, hV, hU])
          rw [decide_eq_false (fun h => by have := cT_nil.1 h; rw [clk_dr] at this; rw [hk] at this; cases this)] at hxe
          clear hs hl hA hR hd hin HAA HRR NO hxx hxb ey hsp hk hX hY hZ hQ ql e1 e2 e3 e4 e5 hV hU
          go_enter Tryd.func24, Tryd.ntmps24
          go_wp2_with fail
          refine (C1.out _ rfl _ _ (by simp) (by simp [go_sem]; rfl)).mono ?_
          rintro e w1 ⟨rfl, hb⟩
          have P1 := Lib.hid (P0.out.below hb)
          obtain ⟨⟨c0, c1, c2, c3⟩, f0, f1, f2, f3⟩ := P1.out.cells
          have P3 := Lib.hid (P1.out.set0 (a' := A))
          obtain ⟨⟨d0, d1, d2, d3⟩, g0, g1, g2, g3⟩ := P3.out.cells
          clear hb
          go_wp2_with (go_at_call 46; refine (CI.out _).mono ?_; rintro e w' ⟨rfl, rfl⟩)
          rw [EQ.out]
          refine (C2.out _).mono ?_
          rintro e w2 ⟨rfl, hb⟩
          have P4 := Lib.hid (P3.out.below hb)
          clear hb c0 c1 c2 c3 f0 f1 f2 f3 d0 d1 d2 d3 g0 g1 g2 g3
          obtain ⟨⟨c0, c1, c2, c3⟩, f0, f1, f2, f3⟩ := P4.out.cells
          have P5 := Lib.hid ((P4.out.set1 (b' := X)).set2 (c' := Y))
          obtain ⟨⟨d0, d1, d2, d3⟩, g0, g1, g2, g3⟩ := P5.out.cells
          go_wp2_with fail
          refine (C3.out _).mono ?_
          rintro e w3 ⟨rfl, hb⟩
          have P6 := Lib.hid (P5.out.below hb)
          clear hb c0 c1 c2 c3 f0 f1 f2 f3 d0 d1 d2 d3 g0 g1 g2 g3
          obtain ⟨⟨c0, c1, c2, c3⟩, f0, f1, f2, f3⟩ := P6.out.cells
          have P7 := Lib.hid (P6.out.set3 (d' := V))
          obtain ⟨⟨d0, d1, d2, d3⟩, g0, g1, g2, g3⟩ := P7.out.cells
          go_wp2_with fail
          refine bodyPost_ret (v := .tuple #[wv A X Y V, .string U]) (by simp [results, Tryd.results24, go_sem, *]) rfl ?_
          exact ⟨by rw [E.out], P7.out.set.1⟩
end Da
end Go.Proofs.YtgmlbcdakblpiaaDoor
