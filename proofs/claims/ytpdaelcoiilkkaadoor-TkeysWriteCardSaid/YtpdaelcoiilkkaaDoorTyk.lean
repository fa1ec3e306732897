/- The law TkeysWrite, walked. -/
import Derived.Test.YtpdaelcoiilkkaaDoorTyj
namespace Go.Proofs.YtpdaelcoiilkkaaDoor
open Go.RowKit
namespace Ty

set_option maxHeartbeats 8000000 in
set_option maxRecDepth 100000 in
theorem lives_any {w : World} (hT : Tab w) : Calls Tryd.prog 7 #[] w fun e w' => e = .returned (.bool true) ∧ Below w.heap.size w w' := by
  have HT := Lib.hid hT
  clear hT
  go_enter Tryd.func7, Tryd.ntmps7
  go_wp2_with fail
  refine (read1 w HT.out).mono ?_
  rintro e w1 ⟨hb1, A1, B1, cA, cB, rfl, _, hoB⟩
  have e9 : k1.length = 2 := rfl
  rw [e9] at hoB ⊢
  have HB1 := Lib.hid hb1
  have HOB := Lib.hid hoB
  clear hb1 hoB e9
  go_upto_region 2 with fail
  obtain ⟨W, hW⟩ : ∃ W, W = (w1.alloc (keyO (.slice A1 2 2) (.slice B1 2 2))).alloc (.cells #[.int .i64 0, .int .i64 0] 29) := ⟨_, rfl⟩
  have hbW : Below w1.heap.size w1 W := by rw [hW]; exact ((Below.refl _ _).alloc (Nat.le_refl _) _).alloc (by rw [al_size]; omega) _
  obtain ⟨⟨c0, c1⟩, c2, c3⟩ := two_cells (w := w1) (a := .slice A1 2 2) (b := .slice B1 2 2) (c := .int .i64 0) (d := .int .i64 0)
  rw [← hW] at c0 c1 c2 c3 ⊢
  have HBW := Lib.hid (below_tr HB1.out hbW)
  have HTW := Lib.hid (HT.out.below HBW.out)
  obtain ⟨g, eB, hg, hc⟩ : ∃ g, B1 = some ⟨g, 0, none⟩ ∧ g < w1.heap.size ∧ ∀ j u, (ksC k1)[j]? = some u → w1.cell? ⟨g, j, none⟩ = some u := by
    rcases HOB.out.2 with ⟨e, _⟩ | ⟨g, cap, cur, e, _, hg, _, _, _, h4⟩
    · injection e with _ e _; omega
    · injection e with e _ _
      refine ⟨g, e, lt_of hg, fun j u hu => ?_⟩
      rw [cell_of_row w1 g _ cur _ (0, 0) hg, ← Array.getElem?_toList]
      rw [← h4, List.getElem?_take] at hu
      split at hu
      · exact hu
      · cases hu
  subst eB
  have hgW : g < W.heap.size := Nat.lt_of_lt_of_le hg hbW.size
  have hk1 : w1.heap.size < W.heap.size := by rw [hW, al_size, al_size]; omega
  have s0 := (hbW.cell (p := ⟨g, 0, none⟩) hg).trans (hc 0 _ rfl)
  have s1 := (hbW.cell (p := ⟨g, 1, none⟩) hg).trans (hc 1 _ rfl)
  have s2 := (hbW.cell (p := ⟨g, 2, none⟩) hg).trans (hc 2 _ rfl)
  have s3 := (hbW.cell (p := ⟨g, 3, none⟩) hg).trans (hc 3 _ rfl)
  have H1 := Lib.hid (fun (q n m : Nat) (cs : Array Value) (ty : TypeId) (hg : q = W.heap.size) (hn : n = 2) (hcs : cs = _) => lit_is (W := W) q n m cs ty HTW.out hg hn hcs)
  have H2 := Lib.hid (fun w => fails_of (at_ := 0) (bad := 2) w (read2 w))
  have H3 := Lib.hid (fun w => fails_of (at_ := 0) (bad := 0) w (read3 w))
  have H4 := Lib.hid (fun (W : World) (q n m : Nat) (cs : Array Value) (ty : TypeId) (hT : Tab W) (hg : q = W.heap.size) (hn : n = 3) (hcs : cs = _) => lit_write (W := W) q n m cs ty hT hg hn hcs)
  have hq : ((⟨#[97, 46, 34, 98, 46, 99, 34, 46, 34, 34]⟩ : ByteArray).toList == (⟨#[97, 46, 34, 98, 46, 99, 34, 46, 34, 34]⟩ : ByteArray).toList) = true := by simp
  clear hW hbW hc HOB
  go_wp2_with fail
  refine (H1.out _ _ _ _ _ rfl rfl rfl).mono ?_
  rintro e w2 ⟨rfl, hb2⟩
  have c1' := (hb2.cell (p := ⟨w1.heap.size, 1, none⟩) hk1).trans c1
  have s0' := (hb2.cell (p := ⟨g, 0, none⟩) hgW).trans s0
  have s1' := (hb2.cell (p := ⟨g, 1, none⟩) hgW).trans s1
  have s2' := (hb2.cell (p := ⟨g, 2, none⟩) hgW).trans s2
  have s3' := (hb2.cell (p := ⟨g, 3, none⟩) hgW).trans s3
  have HB2 := Lib.hid (below_tr HBW.out hb2)
  clear c0 c1 c2 c3 s0 s1 s2 s3 hb2
  go_wp2_with fail
  refine (H2.out _).mono ?_
  rintro e w3 ⟨rfl, hb3⟩
  have HB3 := Lib.hid (below_tr HB2.out hb3)
  clear hb3 c1' s0' s1' s2' s3'
  go_wp2_with fail
  refine (H3.out _).mono ?_
  rintro e w4 ⟨rfl, hb4⟩
  have HB4 := Lib.hid (below_tr HB3.out hb4)
  clear hb4
  go_wp2_with fail
  refine (H4.out _ _ _ _ _ _ (HT.out.below HB4.out) rfl rfl rfl).mono ?_
  rintro e w5 ⟨rfl, hb5⟩
  have HB5 := Lib.hid (below_tr HB4.out hb5)
  clear hb5
  go_wp2_with fail
  go_ret
  exact ⟨rfl, HB5.out⟩
end Ty
end Go.Proofs.YtpdaelcoiilkkaaDoor
