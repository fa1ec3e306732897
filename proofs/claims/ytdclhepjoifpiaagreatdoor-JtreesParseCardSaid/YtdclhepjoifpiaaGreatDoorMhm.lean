/- The document's parser: a value. -/
import Derived.Test.YtdclhepjoifpiaaGreatDoorMgm
import Derived.Test.YtdclhepjoifpiaaGreatDoorMnm
import Derived.Test.YtdclhepjoifpiaaGreatDoorAs
import Derived.Deep.CutRange
import Derived.Deep.CutBlock
namespace Go.Proofs.YtdclhepjoifpiaaGreatDoor
open Go.RowKit
namespace Jt
namespace R9
open Jk (lt_blk below_tr TkR fvO)

section
variable {W w w' : World} {P : Nat} {en : Nat × Nat} {l : Bs} {S : List Tok} {A AL : Option Addr} {n c N cL : Nat}
theorem RP.far {w4 : World} {bv lv tv : Value} {a a2 fc fa fc2 fa2 nb : Nat} {lab : Nat → Own} {X : List Nx} (h : RP W w4 P bv lv en a tv fc fa lab X) (R : RP W w P bv lv en a2 tv fc2 fa2 lab X) (hw : w.heap.size ≤ nb) (k : Nat) (u : Value) : RP W (w4.setCell ⟨nb, k, none⟩ u) P bv lv en a tv fc fa lab X := by
  have key : ∀ b, b < w.heap.size → (w4.setCell ⟨nb, k, none⟩ u).heap[b]? = w4.heap[b]? := fun b hb => heap_setCell_other _ _ _ _ (show b ≠ nb by omega)
  have hW := R.size
  have hP := R.plt
  refine ⟨by rw [key P hP]; exact h.obj, ⟨own_keep h.nt.row fun b hb => key b (R.nt.row.lt b hb).2, h.nt.l, fun i x hx j hj => ?_⟩, fun b h1 h2 => by rw [key b (by omega)]; exact h.keep b h1 h2, h.below.setCell (show P ≤ nb by omega) _, h.lt, h.few⟩
  have hE := h.nt.e i x hx j hj
  have hR := (R.nt.e i x hx j hj).r
  exact ⟨hE.r.keep fun b hb => key b (hR.lt b hb).2, fun q => own_keep (hE.o q) fun b hb => key b (hR.lt b hb).2, hE.l⟩
theorem pv_word {a d f : Nat} {t : Tok} (ht : S.drop a = t :: S.drop (a + 1)) (h : t.1 = 2) : pv (envL l en) (f + 1) d (S.drop a) = if Jt.part l t.2 = null then .ok (.sc 0 [] t.2) (S.drop (a + 1)) else .ok (.sc 1 (Jt.part l t.2) t.2) (S.drop (a + 1)) := by
  rw [ht, pv, if_pos h]; rfl
theorem pv_num {a d f : Nat} {t : Tok} (ht : S.drop a = t :: S.drop (a + 1)) (h : t.1 = 3) : pv (envL l en) (f + 1) d (S.drop a) = match rnL (Jt.part l t.2) with | .error c => .bad c t.2.1 | .ok s => .ok (.sc 2 s t.2) (S.drop (a + 1)) := by
  rw [ht, pv, if_neg (by omega), if_pos h]; rfl
theorem pv_str {a d f : Nat} {t : Tok} (ht : S.drop a = t :: S.drop (a + 1)) (h : t.1 = 4) : pv (envL l en) (f + 1) d (S.drop a) = match rqL (Jt.part l t.2) with | .error (c, k) => .bad c (t.2.1 + k) | .ok s => .ok (.sc 3 s t.2) (S.drop (a + 1)) := by
  rw [ht, pv, if_neg (by omega), if_neg (by omega), if_pos h]; rfl
theorem pv_syn {a d f : Nat} {t : Tok} (ht : S.drop a = t :: S.drop (a + 1)) (h2 : t.1 ≠ 2) (h3 : t.1 ≠ 3) (h4 : t.1 ≠ 4) (m1 : mkB l t 91 = false) (m2 : mkB l t 123 = false) : pv (envL l en) (f + 1) d (S.drop a) = .bad 3 t.2.1 := by
  rw [ht, pv, if_neg h2, if_neg h3, if_neg h4, mk_eq, mk_eq, m1, m2]; rfl
theorem pv_deep {a f : Nat} {t : Tok} (ht : S.drop a = t :: S.drop (a + 1)) (h2 : t.1 ≠ 2) (h3 : t.1 ≠ 3) (h4 : t.1 ≠ 4) (m1 : mkB l t 91 = true ∨ mkB l t 123 = true) : pv (envL l en) (f + 1) 256 (S.drop a) = .bad 4 t.2.1 := by
  rw [ht, pv, if_neg h2, if_neg h3, if_neg h4, mk_eq, mk_eq, if_pos m1, if_pos rfl]
theorem pv_box {a d f : Nat} {m : Bool} {t : Tok} (ht : S.drop a = t :: S.drop (a + 1)) (h2 : t.1 ≠ 2) (h3 : t.1 ≠ 3) (h4 : t.1 ≠ 4) (m1 : mkB l t 91 = true ∨ mkB l t 123 = true) (hd : d ≠ 256) (hm : mkB l t 123 = m) :
    pv (envL l en) (f + 1) d (S.drop a) = match pl (envL l en) f d m true [] (S.drop (a + 1)) with
      | .ok (is, e) r2 => .ok (.box m (t.2.1, e) is) r2
      | .bad c a => .bad c a
      | .out => .out := by
  rw [ht, pv, if_neg h2, if_neg h3, if_neg h4, mk_eq, mk_eq, if_pos m1, if_neg hd, hm]
  rfl
theorem box_nds (m : Bool) (is : JI) (F E z : Nat) (N : List Nd) : (N ++ [(⟨kdM m, [], [], [], [], (F, E)⟩ : Nd)]).modify N.length (Nd.fill m is z (N.length + 1)) ++ is.nds (N.length + 1) = N ++ (JV.box m (F, z) is).nds N.length := by
  rw [modify_last rfl, JV.nds, List.append_assoc]
  cases m <;> simp [Nd.fill, kdM]
/-- A node that is to be told, in its block. -/
def NdO (k : Nat) (tx : ByteArray) (F E : Nat) : Obj := .cells #[.int .u8 (k : Nat), .string tx, .slice none 0 0, .slice none 0 0, .slice none 0 0, .int .i64 (F : Nat), .int .i64 (E : Nat)] 44
set_option maxHeartbeats 16000000 in
set_option maxRecDepth 100000 in
theorem value_step (H : RE W P l S A AL n c N cL) {f : Nat} (hV0 : ∀ g, g < f → ValC W P (.slice A n c) (.slice AL N cL) en l S g) : ValC W P (.slice A n c) (.slice AL N cL) en l S f := by
  intro w a tv lab X d hd hfu R
  obtain ⟨f, rfl⟩ : ∃ g, f = g + 1 := ⟨f - 1, by omega⟩
  have hNS := H.len
  have hN6 := H.hsN
  have hn6 := H.hsm
  have hnc := H.hc
  by_cases haN : a < N
  case neg =>
    have HE := Lib.hid (show pv (envL l en) (f + 1) d (S.drop a) = .bad en.1 en.2 by rw [drop_no (by omega), pv]; rfl)
    have HM := Lib.hid (more_no R haN hN6)
    clear R
    go_enter Tryz.func24, Tryz.ntmps24
    go_wp2_with (go_at_call 33; refine HM.out.mono ?_; rintro e w2 ⟨rfl, R2⟩)
    refine bodyPost_ret (v := .tuple #[.int .i64 0, .bool false]) (by simp [results, Tryz.results24, go_sem, *]) rfl ?_
    unfold ValP
    rw [HE.out]
    exact ⟨0, rfl, _, _, _, _, R2⟩
  obtain ⟨i4, hi4, hy0, hy1, hy2⟩ := info_parts (show (Tryz.prog.info? 44).map (fun i => (i.zero, i.size, i.bytes)) = some (some (.agg #[.int .u8 0, .string ⟨#[]⟩, .slice none 0 0, .slice none 0 0, .slice none 0 0, .int .i64 0, .int .i64 0]), 7, 112) by kernel_rfl)
  obtain ⟨t, ht⟩ : ∃ t, S[a]? = some t := ⟨_, List.getElem?_eq_getElem (by omega)⟩
  have HM := Lib.hid (more_yes R haN hN6)
  have HRR := Lib.hid (fun (wx : World) (hb : Below w.heap.size w wx) => R.on hb)
  obtain ⟨b1, off1, rfl, hbP, hby, hpl, hFE, hEn⟩ := H.part R (List.mem_of_getElem? ht)
  have HCV := Lib.hid (fun (wx : World) (hb : Below w.heap.size w wx) => conv_bytes (t.2.2 - t.2.1) (c - t.2.1) (w := wx) hpl.symm (hby.below (hb.mono (Nat.le_of_lt R.plt))))
  obtain ⟨g, eg, hg, hct⟩ := (H.on R).2.at_ (by omega)
  subst eg
  obtain ⟨q1, q2, q3⟩ := hct a t ht
  have HDR := Lib.hid (drop_at ht)
  have HT := Lib.hid ht
  have hXa := R.few.1
  have H0 := Lib.hid H
  have hV := Lib.hid hV0
  have hpl4 : (Jt.part l t.2).length ≤ 10000 := by omega
  have hTQ := Lib.hid (fun (wx : World) (hb : Below w.heap.size w wx) => show (wx.cell? ⟨g, a * 3, none⟩ = some (.int .i64 (t.1 : Nat)) ∧ wx.cell? ⟨g, a * 3 + 1, none⟩ = some (.int .i64 (t.2.1 : Nat)) ∧ wx.cell? ⟨g, a * 3 + 1 + 1, none⟩ = some (.int .i64 (t.2.2 : Nat))) ∧ g < wx.heap.size from
    ⟨⟨(hb.cell (p := ⟨g, a * 3, none⟩) (lt_cell2 q1)).trans q1, (hb.cell (p := ⟨g, a * 3 + 1, none⟩) (lt_cell2 q2)).trans q2, (hb.cell (p := ⟨g, a * 3 + 1 + 1, none⟩) (lt_cell2 q3)).trans q3⟩, by have h1 := lt_cell2 q1; have h2 := hb.size; omega⟩)
  obtain ⟨kd, F, E⟩ := t
  simp only at hTQ hFE hEn HCV hpl4
  obtain ⟨p, hp⟩ : ∃ p, p = Jt.part l (F, E) := ⟨_, rfl⟩
  rw [← hp] at HCV hpl4
  have HP := Lib.hid hp
  have hcF : ¬ c = F := by omega
  obtain ⟨xl, hxl⟩ : ∃ xl, xl = X.length := ⟨_, rfl⟩
  have HXL := Lib.hid hxl
  obtain ⟨tA, tc, htv⟩ : ∃ A c, tv = .slice A xl c := by
    obtain ⟨A, c, e, _⟩ := (Rr.of_own R.nt.row).shape
    exact ⟨A, c, by rw [hxl]; exact e⟩
  subst htv
  have hxl6 : xl ≤ 10000 := by omega
  clear R H hV0 hct ht q1 q2 q3 hg hp hby hpl hbP hxl
  go_enter Tryz.func24, Tryz.ntmps24
  go_upto_region 3 with (go_at_call 33; refine HM.out.mono ?_; rintro e w2 ⟨rfl, hb2⟩)
  obtain ⟨⟨q1, q2, q3⟩, hgl⟩ := hTQ.out _ hb2
  have R2 := HRR.out _ hb2
  obtain ⟨c0, c1, c2, c3, c4, _⟩ := R2.cells
  have hP2 := R2.plt
  have HB2 := Lib.hid hb2
  have c1' : ∀ o, (w2.alloc o).cell? ⟨P, 1, none⟩ = _ := fun o => (World.cell?_alloc_lt _ _ _ hP2).trans c1
  have c4' : ∀ o, (w2.alloc o).cell? ⟨P, 4, none⟩ = _ := fun o => (World.cell?_alloc_lt _ _ _ hP2).trans c4
  have q1' : ∀ o, (w2.alloc o).cell? ⟨g, a * 3, none⟩ = _ := fun o => (World.cell?_alloc_lt _ _ _ hgl).trans q1
  have q2' : ∀ o, (w2.alloc o).cell? ⟨g, a * 3 + 1, none⟩ = _ := fun o => (World.cell?_alloc_lt _ _ _ hgl).trans q2
  have q3' : ∀ o, (w2.alloc o).cell? ⟨g, a * 3 + 1 + 1, none⟩ = _ := fun o => (World.cell?_alloc_lt _ _ _ hgl).trans q3
  clear R2 c0 c2 c3 hb2
  go_region
  clear c1 c4 q1 q2 q3 c1' c4' q1' q2' q3'
  go_upto_region 4 with fail
  obtain ⟨V1, hV1⟩ : ∃ V, V = (w2.alloc (.cells #[.int .i64 (kd : Nat), .int .i64 (F : Nat), .int .i64 (E : Nat)] 72)).drew := ⟨_, rfl⟩
  have hT1 : TB w2 V1 kd F E := by rw [hV1]; exact ⟨TB.start.below.drew, TB.start.o⟩
  rw [← hV1]
  clear hV1
  have HT1 := Lib.hid hT1
  have HBV1 := Lib.hid (below_tr HB2.out hT1.below)
  obtain ⟨z0, z1, z2⟩ := hT1.cells
  have c5 := (HRR.out _ HBV1.out).cells.2.2.2.2.2.1
  clear hT1
  go_upto_region 6 with fail
  obtain ⟨V2, hV2⟩ : ∃ V, V = V1.alloc (.cells #[.int .u8 0, .string ⟨#[]⟩, .slice none 0 0, .slice none 0 0, .slice none 0 0, .int .i64 (F : Nat), .int .i64 (E : Nat)] 44) := ⟨_, rfl⟩
  have hb2 : Below V1.heap.size V1 V2 := by rw [hV2]; exact (Below.refl _ _).alloc (Nat.le_refl _) _
  have hn2 : V2.heap[V1.heap.size]? = some (NdO 0 ⟨#[]⟩ F E) := by rw [hV2]; exact heap_alloc_new _ _
  rw [← hV2]
  clear hV2 c5 z0 z1 z2
  have HBV2 := Lib.hid (below_tr HBV1.out hb2)
  have HT2 := Lib.hid (HT1.out.on hb2)
  have HN2 := Lib.hid hn2
  obtain ⟨z0, z1, z2⟩ := HT2.out.cells
  have c0 := (HRR.out _ HBV2.out).cells.1
  have K0 := fun s : Kept V2 => s.cell c0
  have K1 := fun s : Kept V2 => s.cell z1
  have K2 := fun s : Kept V2 => s.cell z2
  have KC := fun s : Kept V2 => HCV.out s.wx (below_tr HBV2.out s.held)
  clear hb2 hn2 c0 z0 z1 z2
  refine reg_lit (C := fun wx => ∃ s : Kept V2, wx = s.wx) (by kernel_rfl) (by kernel_rfl) ⟨⟨_, (Below.refl _ _).drew⟩, rfl⟩ ?_
  iterate 11 (go_big_quiet_step (fail))
  refine wpQuiet_nil ?_
  rintro V3 ⟨⟨wx, ox⟩, e⟩
  have hb3 : Below V2.heap.size V2 V3 := by rw [e]; exact ox
  clear e ox
  have HBV3 := Lib.hid (below_tr HBV2.out hb3)
  have HT3 := Lib.hid (HT2.out.on hb3)
  have HN3 := Lib.hid (show V3.heap[V1.heap.size]? = some (NdO 0 ⟨#[]⟩ F E) by rw [hb3.block _ (lt_blk HN2.out)]; exact HN2.out)
  have hsz3 : V1.heap.size < V3.heap.size := lt_blk HN3.out
  clear K0 K1 K2 KC hb3
  obtain ⟨z0, z1, z2⟩ := HT3.out.cells
  have HTOP := Lib.hid (show a + 1 ≤ S.length by omega)
  have HWP := Lib.hid (show w.heap.size ≤ V1.heap.size from HBV1.out.size)
  have HNP := Lib.hid (show V1.heap.size ≠ P by have h1 := (HRR.out _ (Below.refl _ _)).plt; have h2 := HBV1.out.size; omega)
  -- stores into the node's own block, and a token more
  have HLF := Lib.hid (show ∀ (wx : World) (k : Nat) (T0 TX : ByteArray), Below w.heap.size w wx → wx.heap[V1.heap.size]? = some (NdO 0 T0 F E) →
      RP W (((wx.setCell ⟨V1.heap.size, 0, none⟩ (.int .u8 (k : Nat))).setCell ⟨V1.heap.size, 1, none⟩ (.string TX)).setCell ⟨P, 4, none⟩ (.int .i64 ((a + 1 : Nat) : Int))) P (.slice (some ⟨b1, off1, none⟩) n c) (.slice (some ⟨g, 0, none⟩) N cL) en (a + 1) (.slice tA xl tc) 0 0 lab X ∧
        (((wx.setCell ⟨V1.heap.size, 0, none⟩ (.int .u8 (k : Nat))).setCell ⟨V1.heap.size, 1, none⟩ (.string TX)).setCell ⟨P, 4, none⟩ (.int .i64 ((a + 1 : Nat) : Int))).heap[V1.heap.size]? = some (NdO k TX F E) from fun wx k T0 TX hb hn => by
    have b1 : Below w.heap.size w ((wx.setCell ⟨V1.heap.size, 0, none⟩ (.int .u8 (k : Nat))).setCell ⟨V1.heap.size, 1, none⟩ (.string TX)) := (hb.setCell HWP.out _).setCell HWP.out _
    refine ⟨(HRR.out _ b1).next, ?_⟩
    rw [heap_setCell_other _ _ _ _ HNP.out]
    exact heap_setCell_same _ _ _ _ _ _ (heap_setCell_same _ _ _ _ _ _ hn))
  have c4 := (HRR.out _ HBV3.out).cells.2.2.2.2.1
  have z4 := (HRR.out _ HBV3.out).free 4
  have zf : ∀ k, V3.frozen? ⟨V1.heap.size, k, none⟩ = false := fun k => by simp [World.frozen?, HN3.out, NdO]
  have HR3 := Lib.hid (HRR.out _ HBV3.out)
  obtain ⟨TP, hTP⟩ : ∃ TP, TP = txt p := ⟨_, rfl⟩
  rw [← hTP]
  have HTP := Lib.hid hTP
  clear hTP
  go_upto_block 0 with fail
  go_cut [10, 11, 12, 13] from 53 to 149 (fun _ _ _ _ wx => ∃ (k : Nat) (tx : Bs), k ≤ 3 ∧ Hid (RP W wx P (.slice (some ⟨b1, off1, none⟩) n c) (.slice (some ⟨g, 0, none⟩) N cL) en (a + 1) (.slice tA xl tc) 0 0 lab X ∧ wx.heap[V1.heap.size]? = some (NdO k (txt tx) F E)) ∧ Hid (pv (envL l en) (f + 1) d (S.drop a) = .ok (.sc k tx (F, E)) (S.drop (a + 1))))
  case first =>
    by_cases hk2 : kd = 2
    case pos =>
      subst hk2
      have hpw := pv_word (en := en) (l := l) (d := d) (f := f) HDR.out rfl
      rw [show Jt.part l ((2 : Nat), F, E).2 = p from HP.out.symm] at hpw
      by_cases hn : p = null
      · rw [if_pos hn] at hpw
        have HE := Lib.hid hpw
        have hnl : TP = ⟨#[110, 117, 108, 108]⟩ := by rw [HTP.out, hn]; rfl
        subst hnl
        have hL := HRR.out _ HBV3.out
        have HL := Lib.hid hL.next
        have HNN := Lib.hid (show (V3.setCell ⟨P, 4, none⟩ (.int .i64 ((a + 1 : Nat) : Int))).heap[V1.heap.size]? = some (NdO 0 (txt []) F E) by
          rw [heap_setCell_other _ _ _ _ HNP.out]; exact HN3.out)
        clear hpw hL hn
        go_wp2_with fail
        go_meet
        exact ⟨0, [], by omega, Lib.hid ⟨HL.out, HNN.out⟩, HE⟩
      · rw [if_neg hn] at hpw
        have HE := Lib.hid hpw
        have hnl : (TP.toList == (⟨#[110, 117, 108, 108]⟩ : ByteArray).toList) = false := beq_eq_false_iff_ne.2 fun h => hn (lst_inj HTP.out (show (⟨#[110, 117, 108, 108]⟩ : ByteArray) = txt null from rfl) h)
        rw [show (⟨#[110, 117, 108, 108]⟩ : ByteArray).toList = [110, 117, 108, 108] from by first | rfl | decide +kernel] at hnl
        have HL := Lib.hid (HLF.out V3 1 _ TP HBV3.out HN3.out)
        clear hpw hn
        have yy0 : V3.cell? ⟨V1.heap.size, 0, none⟩ = some (.int .u8 0) := (cell_of_row V3 _ _ _ _ _ HN3.out).trans rfl
        go_upto_region 11 with fail
        obtain ⟨W4, hW4⟩ : ∃ V, V = V3.setCell ⟨V1.heap.size, 0, none⟩ (.int .u8 1) := ⟨_, rfl⟩
        have n4 : W4.heap[V1.heap.size]? = some (NdO 1 ⟨#[]⟩ F E) := by rw [hW4]; exact heap_setCell_same _ _ _ _ _ _ HN3.out
        rw [← hW4]
        have yy1 : W4.cell? ⟨V1.heap.size, 1, none⟩ = some (.string ⟨#[]⟩) := (cell_of_row W4 _ _ _ _ _ n4).trans rfl
        have zf4 : ∀ k, W4.frozen? ⟨V1.heap.size, k, none⟩ = false := fun k => by simp [World.frozen?, n4, NdO]
        have HW4 := Lib.hid hW4
        clear hW4
        go_upto_region 12 with fail
        obtain ⟨W5, hW5⟩ : ∃ V, V = W4.setCell ⟨V1.heap.size, 1, none⟩ (.string TP) := ⟨_, rfl⟩
        rw [← hW5]
        have b5 : Below w.heap.size w W5 := by rw [hW5, HW4.out]; exact (HBV3.out.setCell HWP.out _).setCell HWP.out _
        have c4 := (HRR.out _ b5).cells.2.2.2.2.1
        have z4 := (HRR.out _ b5).free 4
        rw [HW4.out] at hW5
        rw [hW5] at c4 z4
        rw [hW5]
        clear hW5 n4 zf4 b5 yy1
        go_wp2_with fail
        go_meet
        exact ⟨1, p, by omega, Lib.hid (by rw [← HTP.out]; exact HL.out), HE⟩
    by_cases hk3 : kd = 3
    case pos =>
      subst hk3
      have hpw := pv_num (en := en) (l := l) (d := d) (f := f) HDR.out rfl
      rw [show Jt.part l ((3 : Nat), F, E).2 = p from HP.out.symm] at hpw
      obtain ⟨sR, hsR⟩ : ∃ s, s = (De.rd p).1 := ⟨_, rfl⟩
      obtain ⟨cR, hcR⟩ : ∃ cR : Int, cR = (De.rd p).2 := ⟨_, rfl⟩
      have HRD := Lib.hid (show Calls Tryz.prog 34 #[.string TP] V3 fun e w' => e = .returned (.tuple #[.string (txt sR), .int .i64 cR]) ∧ Below V3.heap.size V3 w' from by
        rw [hsR, hcR]; exact De.read_any V3 HTP.out (by omega))
      have hcc := rd_codes p
      rw [← hcR] at hcc
      unfold rnL at hpw
      rw [← hcR, ← hsR] at hpw
      clear hsR hcR
      go_upto_region 15 with (go_at_call 34; refine HRD.out.mono ?_; rintro e w4 ⟨rfl, hb4⟩)
      have HB4 := Lib.hid (below_tr HBV3.out hb4)
      have hn4 : w4.heap[V1.heap.size]? = some (NdO 0 ⟨#[]⟩ F E) := by rw [hb4.block _ hsz3]; exact HN3.out
      have zf4 : ∀ k, w4.frozen? ⟨V1.heap.size, k, none⟩ = false := fun k => by simp [World.frozen?, hn4, NdO]
      have y1 := ((HT3.out.on hb4).cells).2.1
      have c4 := (HRR.out _ HB4.out).cells.2.2.2.2.1
      have z4 := (HRR.out _ HB4.out).free 4
      have HN4 := Lib.hid hn4
      clear hb4 hn4 zf
      by_cases hc0 : cR = 0
      · subst hc0
        rw [if_pos rfl] at hpw
        have HE := Lib.hid hpw
        have HL := Lib.hid (HLF.out w4 2 _ (txt sR) HB4.out HN4.out)
        obtain ⟨TS, hTS⟩ : ∃ TS, TS = txt sR := ⟨_, rfl⟩
        rw [← hTS] at HL ⊢
        have HTS := Lib.hid hTS
        clear hpw hTS
        have yy0 : w4.cell? ⟨V1.heap.size, 0, none⟩ = some (.int .u8 0) := (cell_of_row w4 _ _ _ _ _ HN4.out).trans rfl
        go_upto_region 18 with fail
        obtain ⟨W4, hW4⟩ : ∃ V, V = w4.setCell ⟨V1.heap.size, 0, none⟩ (.int .u8 2) := ⟨_, rfl⟩
        have n4 : W4.heap[V1.heap.size]? = some (NdO 2 ⟨#[]⟩ F E) := by rw [hW4]; exact heap_setCell_same _ _ _ _ _ _ HN4.out
        rw [← hW4]
        have yy1 : W4.cell? ⟨V1.heap.size, 1, none⟩ = some (.string ⟨#[]⟩) := (cell_of_row W4 _ _ _ _ _ n4).trans rfl
        have zf4 : ∀ k, W4.frozen? ⟨V1.heap.size, k, none⟩ = false := fun k => by simp [World.frozen?, n4, NdO]
        have HW4 := Lib.hid hW4
        clear hW4
        go_upto_region 19 with fail
        obtain ⟨W5, hW5⟩ : ∃ V, V = W4.setCell ⟨V1.heap.size, 1, none⟩ (.string TS) := ⟨_, rfl⟩
        rw [← hW5]
        have b5 : Below w.heap.size w W5 := by rw [hW5, HW4.out]; exact (HB4.out.setCell HWP.out _).setCell HWP.out _
        have c4 := (HRR.out _ b5).cells.2.2.2.2.1
        have z4 := (HRR.out _ b5).free 4
        rw [HW4.out] at hW5
        rw [hW5] at c4 z4
        rw [hW5]
        clear hW5 n4 zf4 b5 yy1
        go_wp2_with fail
        go_meet
        exact ⟨2, sR, by omega, Lib.hid (by rw [← HTS.out]; exact HL.out), HE⟩
      · rw [if_neg hc0] at hpw
        have HE := Lib.hid hpw
        have HF := Lib.hid (wrong_any (k1 := cR.toNat) (k2 := F) (HRR.out _ HB4.out) (y1 := cR) (y2 := (F : Nat)) (by omega) rfl)
        clear hpw
        go_wp2_with (go_at_call 25; refine HF.out.mono ?_; rintro e w8 ⟨rfl, R8⟩)
        refine bodyPost_ret (v := .tuple #[.int .i64 0, .bool false]) (by simp [results, Tryz.results24, go_sem, *]) rfl ?_
        unfold ValP
        rw [HE.out]
        exact ⟨0, rfl, _, _, _, _, R8⟩
    by_cases hk4 : kd = 4
    case pos =>
      subst hk4
      have hpw := pv_str (en := en) (l := l) (d := d) (f := f) HDR.out rfl
      have HQ := Lib.hid (quoted_any H0.out HR3.out HT.out)
      clear zf
      go_wp2_with fail
      refine HQ.out.mono ?_
      rintro e w4 hq
      unfold QP at hq
      cases hrq : rqL (Jt.part l ((4 : Nat), F, E).2) with
      | error ck =>
        obtain ⟨cc, kk⟩ := ck
        rw [hrq] at hq hpw
        obtain ⟨rfl, R4⟩ := hq
        have HE := Lib.hid hpw
        clear hpw hrq
        go_wp2_with fail
        refine bodyPost_ret (v := .tuple #[.int .i64 0, .bool false]) (by simp [results, Tryz.results24, go_sem, *]) rfl ?_
        unfold ValP
        rw [HE.out]
        exact ⟨0, rfl, _, _, _, _, R4⟩
      | ok s =>
        rw [hrq] at hq hpw
        obtain ⟨rfl, R4, hfr⟩ := hq
        have HE := Lib.hid hpw
        have hn4 : w4.heap[V1.heap.size]? = some (NdO 0 ⟨#[]⟩ F E) := by rw [hfr _ hsz3 HNP.out]; exact HN3.out
        have zf4 : ∀ k, w4.frozen? ⟨V1.heap.size, k, none⟩ = false := fun k => by simp [World.frozen?, hn4, NdO]
        obtain ⟨TS, hTS⟩ : ∃ TS, TS = txt s := ⟨_, rfl⟩
        rw [← hTS]
        have HTS := Lib.hid hTS
        have HNN := Lib.hid (show ((w4.setCell ⟨V1.heap.size, 0, none⟩ (.int .u8 ((3 : Nat) : Int))).setCell ⟨V1.heap.size, 1, none⟩ (.string TS)).heap[V1.heap.size]? = some (NdO 3 TS F E) from heap_setCell_same _ _ _ _ _ _ (heap_setCell_same _ _ _ _ _ _ hn4))
        have HL := Lib.hid ((R4.far (HRR.out _ (Below.refl _ _)) HWP.out 0 (.int .u8 ((3 : Nat) : Int))).far (HRR.out _ (Below.refl _ _)) HWP.out 1 (.string TS))
        have HN4 := Lib.hid hn4
        clear hpw hrq hfr hn4 hTS R4
        have yy0 : w4.cell? ⟨V1.heap.size, 0, none⟩ = some (.int .u8 0) := (cell_of_row w4 _ _ _ _ _ HN4.out).trans rfl
        go_upto_region 25 with fail
        obtain ⟨W4, hW4⟩ : ∃ V, V = w4.setCell ⟨V1.heap.size, 0, none⟩ (.int .u8 3) := ⟨_, rfl⟩
        have n4 : W4.heap[V1.heap.size]? = some (NdO 3 ⟨#[]⟩ F E) := by rw [hW4]; exact heap_setCell_same _ _ _ _ _ _ HN4.out
        rw [← hW4]
        have yy1 : W4.cell? ⟨V1.heap.size, 1, none⟩ = some (.string ⟨#[]⟩) := (cell_of_row W4 _ _ _ _ _ n4).trans rfl
        have zf4 : ∀ k, W4.frozen? ⟨V1.heap.size, k, none⟩ = false := fun k => by simp [World.frozen?, n4, NdO]
        have HW4 := Lib.hid hW4
        clear hW4
        rw [HW4.out] at zf4 yy1 n4 ⊢
        go_wp2_with fail
        go_meet
        exact ⟨3, s, by omega, Lib.hid (by rw [← HTS.out]; exact ⟨HL.out, HNN.out⟩), HE⟩
    have hkI2 : ¬ ((kd : Nat) : Int) = 2 := by omega
    have hkI3 : ¬ ((kd : Nat) : Int) = 3 := by omega
    have hkI4 : ¬ ((kd : Nat) : Int) = 4 := by omega
    have hk3' := hk3
    have HM1 := Lib.hid (mark_any H0.out HR3.out HT.out 91)
    have HM2 := Lib.hid (fun (wx : World) (hb : Below V3.heap.size V3 wx) => mark_any H0.out (HR3.out.on hb) HT.out 123)
    clear zf c4 z4
    go_wp2_with fail
    refine HM1.out.mono ?_
    rintro e w4 ⟨rfl, hb4⟩
    cases hm91 : mkB l (kd, F, E) 91 with
    | false =>
      go_wp2_with fail
      refine (HM2.out _ hb4).mono ?_
      rintro e w5 ⟨rfl, hb5⟩
      have HB3B := Lib.hid (below_tr hb4 hb5)
      have HBB := Lib.hid (below_tr HBV3.out HB3B.out)
      clear hb4 hb5
      cases hmk0 : mkB l (kd, F, E) 123 with
      | false =>
        have HE := Lib.hid (pv_syn (en := en) (l := l) (d := d) (f := f) HDR.out hk2 hk3 hk4 hm91 hmk0)
        have HF := Lib.hid (wrong_any (k1 := 3) (k2 := F) (HRR.out _ HBB.out) (y1 := 3) (y2 := (F : Nat)) rfl rfl)
        have y1 := ((HT3.out.on HB3B.out).cells).2.1
        go_wp2_with (go_at_call 25; refine HF.out.mono ?_; rintro e w8 ⟨rfl, R8⟩)
        refine bodyPost_ret (v := .tuple #[.int .i64 0, .bool false]) (by simp [results, Tryz.results24, go_sem, *]) rfl ?_
        unfold ValP
        rw [HE.out]
        exact ⟨0, rfl, _, _, _, _, R8⟩
      | true =>
        have hor : mkB l (kd, F, E) 91 = true ∨ mkB l (kd, F, E) 123 = true := .inr hmk0
        have hmk : mkB l (kd, F, E) 123 = true := hmk0
        by_cases hd6 : d = 256
        case pos =>
          subst hd6
          have HE := Lib.hid (pv_deep (en := en) (l := l) (f := f) HDR.out hk2 hk3 hk4 hor)
          have HF := Lib.hid (wrong_any (k1 := 4) (k2 := F) (HRR.out _ HBB.out) (y1 := 4) (y2 := (F : Nat)) rfl rfl)
          have y1 := ((HT3.out.on HB3B.out).cells).2.1
          go_wp2_with (go_at_call 25; refine HF.out.mono ?_; rintro e w8 ⟨rfl, R8⟩)
          refine bodyPost_ret (v := .tuple #[.int .i64 0, .bool false]) (by simp [results, Tryz.results24, go_sem, *]) rfl ?_
          unfold ValP
          rw [HE.out]
          exact ⟨0, rfl, _, _, _, _, R8⟩
        have hd6I : ¬ ((d : Nat) : Int) = 256 := by omega
        have nB : w5.heap[V1.heap.size]? = some (NdO 0 ⟨#[]⟩ F E) := by rw [HB3B.out.block _ hsz3]; exact HN3.out
        have zfB : ∀ k, w5.frozen? ⟨V1.heap.size, k, none⟩ = false := fun k => by simp [World.frozen?, nB, NdO]
        have yyB : w5.cell? ⟨V1.heap.size, 0, none⟩ = some (.int .u8 0) := (cell_of_row w5 _ _ _ _ _ nB).trans rfl
        go_upto_region 30 with fail
        obtain ⟨W4, hW4⟩ : ∃ V, V = w5.setCell ⟨V1.heap.size, 0, none⟩ (.int .u8 7) := ⟨_, rfl⟩
        have n4 : W4.heap[V1.heap.size]? = some (NdO 7 ⟨#[]⟩ F E) := by rw [hW4]; exact heap_setCell_same _ _ _ _ _ _ nB
        have b4 : Below w.heap.size w W4 := by rw [hW4]; exact HBB.out.setCell HWP.out _
        rw [← hW4]
        clear hW4 zfB yyB nB
        have HM3 := Lib.hid (mark_any H0.out (HRR.out _ b4) HT.out 123)
        rw [hmk] at HM3
        have HB4 := Lib.hid b4
        have HN4 := Lib.hid n4
        clear b4 n4
        go_wp2_with fail
        refine HM3.out.mono ?_
        rintro e w6 ⟨rfl, hb6⟩
        have HB6 := Lib.hid (below_tr HB4.out hb6)
        have n6 : w6.heap[V1.heap.size]? = some (NdO 7 ⟨#[]⟩ F E) := by rw [hb6.block _ (lt_blk HN4.out)]; exact HN4.out
        clear hb6
        have zf6 : ∀ k, w6.frozen? ⟨V1.heap.size, k, none⟩ = false := fun k => by simp [World.frozen?, n6, NdO]
        have yy6 : w6.cell? ⟨V1.heap.size, 0, none⟩ = some (.int .u8 7) := (cell_of_row w6 _ _ _ _ _ n6).trans rfl
        go_upto_region 32 with fail
        obtain ⟨W7, hW7⟩ : ∃ V, V = w6.setCell ⟨V1.heap.size, 0, none⟩ (.int .u8 8) := ⟨_, rfl⟩
        have n7 : W7.heap[V1.heap.size]? = some (NdO 8 ⟨#[]⟩ F E) := by rw [hW7]; exact heap_setCell_same _ _ _ _ _ _ n6
        have b7 : Below w.heap.size w W7 := by rw [hW7]; exact HB6.out.setCell HWP.out _
        rw [← hW7]
        clear hW7 zf6 yy6
        have c4 := (HRR.out _ b7).cells.2.2.2.2.1
        have z4 := (HRR.out _ b7).free 4
        have HB7 := Lib.hid b7
        have HN7 := Lib.hid n7
        clear n6 b7 n7
        go_upto_region 33 with fail
        obtain ⟨W8, hW8⟩ : ∃ V, V = W7.setCell ⟨P, 4, none⟩ (.int .i64 ((a + 1 : Nat) : Int)) := ⟨_, rfl⟩
        have hW8' : W8 = W7.setCell ⟨P, 4, none⟩ (.int .i64 ((a : Int) + 1)) := by rw [hW8]; rfl
        obtain ⟨kk, hkk⟩ : ∃ kk, kk = kdM true := ⟨_, rfl⟩
        obtain ⟨tx, htx⟩ : ∃ tx : Bs, tx = [] := ⟨_, rfl⟩
        obtain ⟨TX, hTX⟩ : ∃ TX : ByteArray, TX = txt tx := ⟨_, rfl⟩
        have HTX := Lib.hid hTX
        have HRZ := Lib.hid (show RP W W8 P (.slice (some ⟨b1, off1, none⟩) n c) (.slice (some ⟨g, 0, none⟩) N cL) en (a + 1) (.slice tA xl tc) 0 0 lab X by rw [hW8]; exact (HRR.out _ HB7.out).next)
        have HNZ := Lib.hid (show W8.heap[V1.heap.size]? = some (.cells #[.int .u8 (kk : Nat), .string TX, .slice none 0 0, .slice none 0 0, .slice none 0 0, .int .i64 (F : Nat), .int .i64 (E : Nat)] 44) by
          rw [hW8, heap_setCell_other _ _ _ _ HNP.out, hkk, hTX, htx]; exact HN7.out)
        have hk3 : kk ≤ 8 := by rw [hkk]; decide
        have HKK := Lib.hid hkk
        have HTX2 := Lib.hid htx
        first | rw [← hW8] | rw [← hW8']
        clear hW8 hW8' hkk htx hTX c4 z4
        have c5 := HRZ.out.cells.2.2.2.2.2.1
        have hPz := HRZ.out.plt
        have hNz : V1.heap.size < W8.heap.size := lt_blk HNZ.out
        have c5a : ∀ o, (W8.alloc o).cell? ⟨P, 5, none⟩ = some (.slice tA xl tc) := fun o => by rw [World.cell?_alloc_lt _ _ _ hPz]; exact c5
        have y0 : W8.cell? ⟨V1.heap.size, 0, none⟩ = some (.int .u8 (kk : Nat)) := (cell_of_row W8 _ _ _ _ _ HNZ.out).trans rfl
        have y0a : ∀ o, (W8.alloc o).cell? ⟨V1.heap.size, 0, none⟩ = some (.int .u8 (kk : Nat)) := fun o => by rw [World.cell?_alloc_lt _ _ _ hNz]; exact y0
        have y1 : W8.cell? ⟨V1.heap.size, 1, none⟩ = some (.string TX) := (cell_of_row W8 _ _ _ _ _ HNZ.out).trans rfl
        have y1a : ∀ o, (W8.alloc o).cell? ⟨V1.heap.size, 1, none⟩ = some (.string TX) := fun o => by rw [World.cell?_alloc_lt _ _ _ hNz]; exact y1
        have y2 : W8.cell? ⟨V1.heap.size, 2, none⟩ = some (.slice none 0 0) := (cell_of_row W8 _ _ _ _ _ HNZ.out).trans rfl
        have y2a : ∀ o, (W8.alloc o).cell? ⟨V1.heap.size, 2, none⟩ = some (.slice none 0 0) := fun o => by rw [World.cell?_alloc_lt _ _ _ hNz]; exact y2
        have y3 : W8.cell? ⟨V1.heap.size, 3, none⟩ = some (.slice none 0 0) := (cell_of_row W8 _ _ _ _ _ HNZ.out).trans rfl
        have y3a : ∀ o, (W8.alloc o).cell? ⟨V1.heap.size, 3, none⟩ = some (.slice none 0 0) := fun o => by rw [World.cell?_alloc_lt _ _ _ hNz]; exact y3
        have y4 : W8.cell? ⟨V1.heap.size, 4, none⟩ = some (.slice none 0 0) := (cell_of_row W8 _ _ _ _ _ HNZ.out).trans rfl
        have y4a : ∀ o, (W8.alloc o).cell? ⟨V1.heap.size, 4, none⟩ = some (.slice none 0 0) := fun o => by rw [World.cell?_alloc_lt _ _ _ hNz]; exact y4
        have y5 : W8.cell? ⟨V1.heap.size, 5, none⟩ = some (.int .i64 (F : Nat)) := (cell_of_row W8 _ _ _ _ _ HNZ.out).trans rfl
        have y5a : ∀ o, (W8.alloc o).cell? ⟨V1.heap.size, 5, none⟩ = some (.int .i64 (F : Nat)) := fun o => by rw [World.cell?_alloc_lt _ _ _ hNz]; exact y5
        have y6 : W8.cell? ⟨V1.heap.size, 6, none⟩ = some (.int .i64 (E : Nat)) := (cell_of_row W8 _ _ _ _ _ HNZ.out).trans rfl
        have y6a : ∀ o, (W8.alloc o).cell? ⟨V1.heap.size, 6, none⟩ = some (.int .i64 (E : Nat)) := fun o => by rw [World.cell?_alloc_lt _ _ _ hNz]; exact y6
        have HTB := Lib.hid (show ∀ w6 o, (W8.alloc o).grownBy w6 (Value.slice tA xl tc).ownBlock → w6.cell? ⟨P, 5, none⟩ = some (.slice tA xl tc) ∧ w6.frozen? ⟨P, 5, none⟩ = false from fun w6 o hg => by
          have e : w6.heap[P]? = W8.heap[P]? := by
            rw [hg.block P (by rw [alloc_size]; omega) (fun e => by have h1 := (HRZ.out.nt.lt P e.symm).1; have h2 := HRZ.out.lt; omega)]
            exact (World.grownBy_alloc W8 o none).block P hPz (by simp)
          exact ⟨(World.cell?_of_block (a := ⟨P, 5, none⟩) e).trans c5, (World.frozen?_of_block (a := ⟨P, 5, none⟩) e).trans (HRZ.out.free 5)⟩)
        have hR3 := Lib.hid (show W8.ownsRow W.heap.size 44 7 (.slice tA xl tc) xl (ndL X) by rw [HXL.out]; have := HRZ.out.nt.row; rw [HXL.out] at this; exact this)
        have hbs3 : W.heap.size ≤ W8.heap.size := HRZ.out.size
        have hndc : ndC ⟨⟨kk, tx, [], [], [], (F, E)⟩, nil0⟩ = [.int .u8 (kk : Nat), .string TX, .slice none 0 0, .slice none 0 0, .slice none 0 0, .int .i64 (F : Nat), .int .i64 (E : Nat)] := by rw [HTX.out]; rfl
        have HNDC := Lib.hid hndc
        clear hndc
        go_region_law (refine step_own rfl (.tmp 138) (.tmp 140) 25 rfl W.heap.size 44 i4 _ 7 112 Tryz.underlying25 hi4 hy0 hy1 hy2 zc7 (by decide) _ xl (ndL X) rfl (hR3.out.alloc _) ⟨W8.heap.size, 0, none⟩ 1 1 (ndC ⟨⟨kk, tx, [], [], [], (F, E)⟩, nil0⟩) rfl rfl (Jk.cells_new _ _ (by rw [HNDC.out])) (one7 _ (fun _ => rfl)) (by unfold maxLen; omega) (by omega) (by simp; omega) ?_; intro v' w6 hown6 hg6 hl6; obtain ⟨c6, f6⟩ := HTB.out _ _ (by first | exact hg6 | exact gDrew hg6); obtain ⟨vA, vc, rfl, _⟩ := (Rr.of_own hown6).shape)
        all_goals
          have HR6 := Lib.hid (HRZ.out.push (n0 := ⟨kk, tx, [], [], [], (F, E)⟩) (by first | exact hg6 | exact gDrew hg6) (by rw [← HXL.out]; exact hown6) hl6 rfl rfl rfl (by omega))
          clear hown6 hg6 hl6 c6 f6 c5 c5a y0 y1 y2 y3 y4 y5 y6 y0a y1a y2a y3a y4a y5a y6a
          have HIN := Lib.hid (inside_map H0.out (f0 := f) (me := X.length) (d := d) (fun g hg => hV.out g (by omega)) HR6.out (x0 := ⟨⟨kk, tx, [], [], [], (F, E)⟩, nil0⟩) (by rw [List.getElem?_append_right (Nat.le_refl _), Nat.sub_self]; rfl) HKK.out rfl (by omega) (by
            have h9 := congrArg List.length HDR.out
            rw [List.length_cons] at h9; omega))
          rw [← HXL.out] at HIN
          go_wp2_with fail
          refine HIN.out.mono ?_
          rintro e w9 hin
          unfold InsG at hin
          have hpv := pv_box (en := en) (l := l) (d := d) (f := f) HDR.out hk2 hk3' hk4 hor hd6 hmk
          cases hpl : pl (envL l en) f d true true [] (S.drop (a + 1)) with
          | out => exact absurd hpl (pl_in _ _ _ _ _ _ (by
              have h9 := congrArg List.length HDR.out
              rw [List.length_cons] at h9; omega))
          | bad cc ck =>
            rw [hpl] at hin hpv
            obtain ⟨rfl, _, _, _, _, R9⟩ := hin
            have HE := Lib.hid hpv
            clear hpv hpl
            go_wp2_with fail
            refine bodyPost_ret (v := .tuple #[.int .i64 (xl : Nat), .bool false]) (by simp [results, Tryz.results24, go_sem, *]) rfl ?_
            unfold ValP
            rw [HE.out]
            exact ⟨_, rfl, _, _, _, _, R9⟩
          | ok q r2 =>
            obtain ⟨is, ze⟩ := q
            rw [hpl] at hin hpv
            obtain ⟨rfl, a9, tv9, lab9, X9, R9, hd9, hm9, hlt9, hle9⟩ := hin
            have HE := Lib.hid hpv
            have HM9 := Lib.hid (show X9.map Nx.nd = X.map Nx.nd ++ (JV.box true (F, ze) is).nds X.length by
              rw [hm9, List.map_append, List.length_append, HXL.out]
              have h8 := box_nds true is F E ze (X.map Nx.nd)
              rw [List.length_map] at h8
              rw [← h8, HKK.out, HTX2.out]; rfl)
            clear hpv hpl hm9
            go_wp2_with fail
            refine bodyPost_ret (v := .tuple #[.int .i64 (xl : Nat), .bool true]) (by simp [results, Tryz.results24, go_sem, *]) rfl ?_
            unfold ValP
            rw [HE.out]
            exact ⟨by rw [HXL.out], a9, _, _, _, R9, hd9, HM9.out, by omega, hle9⟩
    | true =>
      have HB3B := Lib.hid hb4
      have HBB := Lib.hid (below_tr HBV3.out HB3B.out)
      clear hb4
      have hor : mkB l (kd, F, E) 91 = true ∨ mkB l (kd, F, E) 123 = true := .inl hm91
      have hmk0 : mkB l (kd, F, E) 123 = false := mk_one (E := envL l en) (c' := 123) hm91 (by decide)
      have hmk : mkB l (kd, F, E) 123 = false := hmk0
      by_cases hd6 : d = 256
      case pos =>
        subst hd6
        have HE := Lib.hid (pv_deep (en := en) (l := l) (f := f) HDR.out hk2 hk3 hk4 hor)
        have HF := Lib.hid (wrong_any (k1 := 4) (k2 := F) (HRR.out _ HBB.out) (y1 := 4) (y2 := (F : Nat)) rfl rfl)
        have y1 := ((HT3.out.on HB3B.out).cells).2.1
        go_wp2_with (go_at_call 25; refine HF.out.mono ?_; rintro e w8 ⟨rfl, R8⟩)
        refine bodyPost_ret (v := .tuple #[.int .i64 0, .bool false]) (by simp [results, Tryz.results24, go_sem, *]) rfl ?_
        unfold ValP
        rw [HE.out]
        exact ⟨0, rfl, _, _, _, _, R8⟩
      have hd6I : ¬ ((d : Nat) : Int) = 256 := by omega
      have nB : w4.heap[V1.heap.size]? = some (NdO 0 ⟨#[]⟩ F E) := by rw [HB3B.out.block _ hsz3]; exact HN3.out
      have zfB : ∀ k, w4.frozen? ⟨V1.heap.size, k, none⟩ = false := fun k => by simp [World.frozen?, nB, NdO]
      have yyB : w4.cell? ⟨V1.heap.size, 0, none⟩ = some (.int .u8 0) := (cell_of_row w4 _ _ _ _ _ nB).trans rfl
      go_upto_region 30 with fail
      obtain ⟨W4, hW4⟩ : ∃ V, V = w4.setCell ⟨V1.heap.size, 0, none⟩ (.int .u8 7) := ⟨_, rfl⟩
      have n4 : W4.heap[V1.heap.size]? = some (NdO 7 ⟨#[]⟩ F E) := by rw [hW4]; exact heap_setCell_same _ _ _ _ _ _ nB
      have b4 : Below w.heap.size w W4 := by rw [hW4]; exact HBB.out.setCell HWP.out _
      rw [← hW4]
      clear hW4 zfB yyB nB
      have HM3 := Lib.hid (mark_any H0.out (HRR.out _ b4) HT.out 123)
      rw [hmk] at HM3
      have HB4 := Lib.hid b4
      have HN4 := Lib.hid n4
      clear b4 n4
      go_wp2_with fail
      refine HM3.out.mono ?_
      rintro e w6 ⟨rfl, hb6⟩
      have HB6 := Lib.hid (below_tr HB4.out hb6)
      have n6 : w6.heap[V1.heap.size]? = some (NdO 7 ⟨#[]⟩ F E) := by rw [hb6.block _ (lt_blk HN4.out)]; exact HN4.out
      clear hb6
      obtain ⟨W7, hW7⟩ : ∃ V, V = w6 := ⟨_, rfl⟩
      have n7 : W7.heap[V1.heap.size]? = some (NdO 7 ⟨#[]⟩ F E) := by rw [hW7]; exact n6
      have b7 : Below w.heap.size w W7 := by rw [hW7]; exact HB6.out
      rw [← hW7]
      clear hW7
      have c4 := (HRR.out _ b7).cells.2.2.2.2.1
      have z4 := (HRR.out _ b7).free 4
      have HB7 := Lib.hid b7
      have HN7 := Lib.hid n7
      clear n6 b7 n7
      go_upto_region 33 with fail
      obtain ⟨W8, hW8⟩ : ∃ V, V = W7.setCell ⟨P, 4, none⟩ (.int .i64 ((a + 1 : Nat) : Int)) := ⟨_, rfl⟩
      have hW8' : W8 = W7.setCell ⟨P, 4, none⟩ (.int .i64 ((a : Int) + 1)) := by rw [hW8]; rfl
      obtain ⟨kk, hkk⟩ : ∃ kk, kk = kdM false := ⟨_, rfl⟩
      obtain ⟨tx, htx⟩ : ∃ tx : Bs, tx = [] := ⟨_, rfl⟩
      obtain ⟨TX, hTX⟩ : ∃ TX : ByteArray, TX = txt tx := ⟨_, rfl⟩
      have HTX := Lib.hid hTX
      have HRZ := Lib.hid (show RP W W8 P (.slice (some ⟨b1, off1, none⟩) n c) (.slice (some ⟨g, 0, none⟩) N cL) en (a + 1) (.slice tA xl tc) 0 0 lab X by rw [hW8]; exact (HRR.out _ HB7.out).next)
      have HNZ := Lib.hid (show W8.heap[V1.heap.size]? = some (.cells #[.int .u8 (kk : Nat), .string TX, .slice none 0 0, .slice none 0 0, .slice none 0 0, .int .i64 (F : Nat), .int .i64 (E : Nat)] 44) by
        rw [hW8, heap_setCell_other _ _ _ _ HNP.out, hkk, hTX, htx]; exact HN7.out)
      have hk3 : kk ≤ 8 := by rw [hkk]; decide
      have HKK := Lib.hid hkk
      have HTX2 := Lib.hid htx
      first | rw [← hW8] | rw [← hW8']
      clear hW8 hW8' hkk htx hTX c4 z4
      have c5 := HRZ.out.cells.2.2.2.2.2.1
      have hPz := HRZ.out.plt
      have hNz : V1.heap.size < W8.heap.size := lt_blk HNZ.out
      have c5a : ∀ o, (W8.alloc o).cell? ⟨P, 5, none⟩ = some (.slice tA xl tc) := fun o => by rw [World.cell?_alloc_lt _ _ _ hPz]; exact c5
      have y0 : W8.cell? ⟨V1.heap.size, 0, none⟩ = some (.int .u8 (kk : Nat)) := (cell_of_row W8 _ _ _ _ _ HNZ.out).trans rfl
      have y0a : ∀ o, (W8.alloc o).cell? ⟨V1.heap.size, 0, none⟩ = some (.int .u8 (kk : Nat)) := fun o => by rw [World.cell?_alloc_lt _ _ _ hNz]; exact y0
      have y1 : W8.cell? ⟨V1.heap.size, 1, none⟩ = some (.string TX) := (cell_of_row W8 _ _ _ _ _ HNZ.out).trans rfl
      have y1a : ∀ o, (W8.alloc o).cell? ⟨V1.heap.size, 1, none⟩ = some (.string TX) := fun o => by rw [World.cell?_alloc_lt _ _ _ hNz]; exact y1
      have y2 : W8.cell? ⟨V1.heap.size, 2, none⟩ = some (.slice none 0 0) := (cell_of_row W8 _ _ _ _ _ HNZ.out).trans rfl
      have y2a : ∀ o, (W8.alloc o).cell? ⟨V1.heap.size, 2, none⟩ = some (.slice none 0 0) := fun o => by rw [World.cell?_alloc_lt _ _ _ hNz]; exact y2
      have y3 : W8.cell? ⟨V1.heap.size, 3, none⟩ = some (.slice none 0 0) := (cell_of_row W8 _ _ _ _ _ HNZ.out).trans rfl
      have y3a : ∀ o, (W8.alloc o).cell? ⟨V1.heap.size, 3, none⟩ = some (.slice none 0 0) := fun o => by rw [World.cell?_alloc_lt _ _ _ hNz]; exact y3
      have y4 : W8.cell? ⟨V1.heap.size, 4, none⟩ = some (.slice none 0 0) := (cell_of_row W8 _ _ _ _ _ HNZ.out).trans rfl
      have y4a : ∀ o, (W8.alloc o).cell? ⟨V1.heap.size, 4, none⟩ = some (.slice none 0 0) := fun o => by rw [World.cell?_alloc_lt _ _ _ hNz]; exact y4
      have y5 : W8.cell? ⟨V1.heap.size, 5, none⟩ = some (.int .i64 (F : Nat)) := (cell_of_row W8 _ _ _ _ _ HNZ.out).trans rfl
      have y5a : ∀ o, (W8.alloc o).cell? ⟨V1.heap.size, 5, none⟩ = some (.int .i64 (F : Nat)) := fun o => by rw [World.cell?_alloc_lt _ _ _ hNz]; exact y5
      have y6 : W8.cell? ⟨V1.heap.size, 6, none⟩ = some (.int .i64 (E : Nat)) := (cell_of_row W8 _ _ _ _ _ HNZ.out).trans rfl
      have y6a : ∀ o, (W8.alloc o).cell? ⟨V1.heap.size, 6, none⟩ = some (.int .i64 (E : Nat)) := fun o => by rw [World.cell?_alloc_lt _ _ _ hNz]; exact y6
      have HTB := Lib.hid (show ∀ w6 o, (W8.alloc o).grownBy w6 (Value.slice tA xl tc).ownBlock → w6.cell? ⟨P, 5, none⟩ = some (.slice tA xl tc) ∧ w6.frozen? ⟨P, 5, none⟩ = false from fun w6 o hg => by
        have e : w6.heap[P]? = W8.heap[P]? := by
          rw [hg.block P (by rw [alloc_size]; omega) (fun e => by have h1 := (HRZ.out.nt.lt P e.symm).1; have h2 := HRZ.out.lt; omega)]
          exact (World.grownBy_alloc W8 o none).block P hPz (by simp)
        exact ⟨(World.cell?_of_block (a := ⟨P, 5, none⟩) e).trans c5, (World.frozen?_of_block (a := ⟨P, 5, none⟩) e).trans (HRZ.out.free 5)⟩)
      have hR3 := Lib.hid (show W8.ownsRow W.heap.size 44 7 (.slice tA xl tc) xl (ndL X) by rw [HXL.out]; have := HRZ.out.nt.row; rw [HXL.out] at this; exact this)
      have hbs3 : W.heap.size ≤ W8.heap.size := HRZ.out.size
      have hndc : ndC ⟨⟨kk, tx, [], [], [], (F, E)⟩, nil0⟩ = [.int .u8 (kk : Nat), .string TX, .slice none 0 0, .slice none 0 0, .slice none 0 0, .int .i64 (F : Nat), .int .i64 (E : Nat)] := by rw [HTX.out]; rfl
      have HNDC := Lib.hid hndc
      clear hndc
      go_region_law (refine step_own rfl (.tmp 138) (.tmp 140) 25 rfl W.heap.size 44 i4 _ 7 112 Tryz.underlying25 hi4 hy0 hy1 hy2 zc7 (by decide) _ xl (ndL X) rfl (hR3.out.alloc _) ⟨W8.heap.size, 0, none⟩ 1 1 (ndC ⟨⟨kk, tx, [], [], [], (F, E)⟩, nil0⟩) rfl rfl (Jk.cells_new _ _ (by rw [HNDC.out])) (one7 _ (fun _ => rfl)) (by unfold maxLen; omega) (by omega) (by simp; omega) ?_; intro v' w6 hown6 hg6 hl6; obtain ⟨c6, f6⟩ := HTB.out _ _ (by first | exact hg6 | exact gDrew hg6); obtain ⟨vA, vc, rfl, _⟩ := (Rr.of_own hown6).shape)
      all_goals
        have HR6 := Lib.hid (HRZ.out.push (n0 := ⟨kk, tx, [], [], [], (F, E)⟩) (by first | exact hg6 | exact gDrew hg6) (by rw [← HXL.out]; exact hown6) hl6 rfl rfl rfl (by omega))
        clear hown6 hg6 hl6 c6 f6 c5 c5a y0 y1 y2 y3 y4 y5 y6 y0a y1a y2a y3a y4a y5a y6a
        have HIN := Lib.hid (inside_list H0.out (f0 := f) (me := X.length) (d := d) (fun g hg => hV.out g (by omega)) HR6.out (x0 := ⟨⟨kk, tx, [], [], [], (F, E)⟩, nil0⟩) (by rw [List.getElem?_append_right (Nat.le_refl _), Nat.sub_self]; rfl) HKK.out rfl (by omega) (by
          have h9 := congrArg List.length HDR.out
          rw [List.length_cons] at h9; omega))
        rw [← HXL.out] at HIN
        go_wp2_with fail
        refine HIN.out.mono ?_
        rintro e w9 hin
        unfold InsG at hin
        have hpv := pv_box (en := en) (l := l) (d := d) (f := f) HDR.out hk2 hk3' hk4 hor hd6 hmk
        cases hpl : pl (envL l en) f d false true [] (S.drop (a + 1)) with
        | out => exact absurd hpl (pl_in _ _ _ _ _ _ (by
            have h9 := congrArg List.length HDR.out
            rw [List.length_cons] at h9; omega))
        | bad cc ck =>
          rw [hpl] at hin hpv
          obtain ⟨rfl, _, _, _, _, R9⟩ := hin
          have HE := Lib.hid hpv
          clear hpv hpl
          go_wp2_with fail
          refine bodyPost_ret (v := .tuple #[.int .i64 (xl : Nat), .bool false]) (by simp [results, Tryz.results24, go_sem, *]) rfl ?_
          unfold ValP
          rw [HE.out]
          exact ⟨_, rfl, _, _, _, _, R9⟩
        | ok q r2 =>
          obtain ⟨is, ze⟩ := q
          rw [hpl] at hin hpv
          obtain ⟨rfl, a9, tv9, lab9, X9, R9, hd9, hm9, hlt9, hle9⟩ := hin
          have HE := Lib.hid hpv
          have HM9 := Lib.hid (show X9.map Nx.nd = X.map Nx.nd ++ (JV.box false (F, ze) is).nds X.length by
            rw [hm9, List.map_append, List.length_append, HXL.out]
            have h8 := box_nds false is F E ze (X.map Nx.nd)
            rw [List.length_map] at h8
            rw [← h8, HKK.out, HTX2.out]; rfl)
          clear hpv hpl hm9
          go_wp2_with fail
          refine bodyPost_ret (v := .tuple #[.int .i64 (xl : Nat), .bool true]) (by simp [results, Tryz.results24, go_sem, *]) rfl ?_
          unfold ValP
          rw [HE.out]
          exact ⟨by rw [HXL.out], a9, _, _, _, R9, hd9, HM9.out, by omega, hle9⟩
  case rest =>
    obtain ⟨kk, tx, hk3, HZ, HE⟩ := hcut
    obtain ⟨wz, hwz⟩ : ∃ wz, wz = wc := ⟨_, rfl⟩
    subst hwz
    have HRZ := Lib.hid HZ.out.1
    obtain ⟨TX, hTX⟩ : ∃ TX, TX = txt tx := ⟨_, rfl⟩
    have HNZ := Lib.hid (show wz.heap[V1.heap.size]? = some (.cells #[.int .u8 (kk : Nat), .string TX, .slice none 0 0, .slice none 0 0, .slice none 0 0, .int .i64 (F : Nat), .int .i64 (E : Nat)] 44) by rw [hTX]; exact HZ.out.2)
    have HTX := Lib.hid hTX
    clear HZ hTX c4 z4 zf z0 z1 z2
    go_upto_region 35 with fail
    have c5 := HRZ.out.cells.2.2.2.2.2.1
    have hPz := HRZ.out.plt
    have hNz : V1.heap.size < wz.heap.size := lt_blk HNZ.out
    have c5a : ∀ o, (wz.alloc o).cell? ⟨P, 5, none⟩ = some (.slice tA xl tc) := fun o => by rw [World.cell?_alloc_lt _ _ _ hPz]; exact c5
    have y0 : wz.cell? ⟨V1.heap.size, 0, none⟩ = some (.int .u8 (kk : Nat)) := (cell_of_row wz _ _ _ _ _ HNZ.out).trans rfl
    have y0a : ∀ o, (wz.alloc o).cell? ⟨V1.heap.size, 0, none⟩ = some (.int .u8 (kk : Nat)) := fun o => by rw [World.cell?_alloc_lt _ _ _ hNz]; exact y0
    have y1 : wz.cell? ⟨V1.heap.size, 1, none⟩ = some (.string TX) := (cell_of_row wz _ _ _ _ _ HNZ.out).trans rfl
    have y1a : ∀ o, (wz.alloc o).cell? ⟨V1.heap.size, 1, none⟩ = some (.string TX) := fun o => by rw [World.cell?_alloc_lt _ _ _ hNz]; exact y1
    have y2 : wz.cell? ⟨V1.heap.size, 2, none⟩ = some (.slice none 0 0) := (cell_of_row wz _ _ _ _ _ HNZ.out).trans rfl
    have y2a : ∀ o, (wz.alloc o).cell? ⟨V1.heap.size, 2, none⟩ = some (.slice none 0 0) := fun o => by rw [World.cell?_alloc_lt _ _ _ hNz]; exact y2
    have y3 : wz.cell? ⟨V1.heap.size, 3, none⟩ = some (.slice none 0 0) := (cell_of_row wz _ _ _ _ _ HNZ.out).trans rfl
    have y3a : ∀ o, (wz.alloc o).cell? ⟨V1.heap.size, 3, none⟩ = some (.slice none 0 0) := fun o => by rw [World.cell?_alloc_lt _ _ _ hNz]; exact y3
    have y4 : wz.cell? ⟨V1.heap.size, 4, none⟩ = some (.slice none 0 0) := (cell_of_row wz _ _ _ _ _ HNZ.out).trans rfl
    have y4a : ∀ o, (wz.alloc o).cell? ⟨V1.heap.size, 4, none⟩ = some (.slice none 0 0) := fun o => by rw [World.cell?_alloc_lt _ _ _ hNz]; exact y4
    have y5 : wz.cell? ⟨V1.heap.size, 5, none⟩ = some (.int .i64 (F : Nat)) := (cell_of_row wz _ _ _ _ _ HNZ.out).trans rfl
    have y5a : ∀ o, (wz.alloc o).cell? ⟨V1.heap.size, 5, none⟩ = some (.int .i64 (F : Nat)) := fun o => by rw [World.cell?_alloc_lt _ _ _ hNz]; exact y5
    have y6 : wz.cell? ⟨V1.heap.size, 6, none⟩ = some (.int .i64 (E : Nat)) := (cell_of_row wz _ _ _ _ _ HNZ.out).trans rfl
    have y6a : ∀ o, (wz.alloc o).cell? ⟨V1.heap.size, 6, none⟩ = some (.int .i64 (E : Nat)) := fun o => by rw [World.cell?_alloc_lt _ _ _ hNz]; exact y6
    have HTB := Lib.hid (show ∀ w6 o, (wz.alloc o).grownBy w6 (Value.slice tA xl tc).ownBlock → w6.cell? ⟨P, 5, none⟩ = some (.slice tA xl tc) ∧ w6.frozen? ⟨P, 5, none⟩ = false from fun w6 o hg => by
      have e : w6.heap[P]? = wz.heap[P]? := by
        rw [hg.block P (by rw [alloc_size]; omega) (fun e => by have h1 := (HRZ.out.nt.lt P e.symm).1; have h2 := HRZ.out.lt; omega)]
        exact (World.grownBy_alloc wz o none).block P hPz (by simp)
      exact ⟨(World.cell?_of_block (a := ⟨P, 5, none⟩) e).trans c5, (World.frozen?_of_block (a := ⟨P, 5, none⟩) e).trans (HRZ.out.free 5)⟩)
    have hR3 := Lib.hid (show wz.ownsRow W.heap.size 44 7 (.slice tA xl tc) xl (ndL X) by rw [HXL.out]; have := HRZ.out.nt.row; rw [HXL.out] at this; exact this)
    have hbs3 : W.heap.size ≤ wz.heap.size := HRZ.out.size
    have hndc : ndC ⟨⟨kk, tx, [], [], [], (F, E)⟩, nil0⟩ = [.int .u8 (kk : Nat), .string TX, .slice none 0 0, .slice none 0 0, .slice none 0 0, .int .i64 (F : Nat), .int .i64 (E : Nat)] := by rw [HTX.out]; rfl
    have HNDC := Lib.hid hndc
    clear hndc
    go_region_law (refine step_own rfl (.tmp 155) (.tmp 157) 25 rfl W.heap.size 44 i4 _ 7 112 Tryz.underlying25 hi4 hy0 hy1 hy2 zc7 (by decide) _ xl (ndL X) rfl (hR3.out.alloc _) ⟨wz.heap.size, 0, none⟩ 1 1 (ndC ⟨⟨kk, tx, [], [], [], (F, E)⟩, nil0⟩) rfl rfl (Jk.cells_new _ _ (by rw [HNDC.out])) (one7 _ (fun _ => rfl)) (by unfold maxLen; omega) (by omega) (by simp; omega) ?_; intro v' w6 hown6 hg6 hl6; obtain ⟨c6, f6⟩ := HTB.out _ _ (by first | exact hg6 | exact gDrew hg6); obtain ⟨vA, vc, rfl, _⟩ := (Rr.of_own hown6).shape)
    all_goals
      have HR6 := Lib.hid (HRZ.out.push (n0 := ⟨kk, tx, [], [], [], (F, E)⟩) (by first | exact hg6 | exact gDrew hg6) (by rw [← HXL.out]; exact hown6) hl6 rfl rfl rfl (by omega))
      clear hown6 hg6 hl6 c6 f6 c5 c5a y0 y1 y2 y3 y4 y5 y6 y0a y1a y2a y3a y4a y5a y6a
      go_wp2_with fail
      refine bodyPost_ret (v := .tuple #[.int .i64 (xl : Nat), .bool true]) (by simp [results, Tryz.results24, go_sem, *]) rfl ?_
      unfold ValP
      rw [HE.out]
      exact ⟨by rw [HXL.out], a + 1, _, _, _, HR6.out, rfl, by rw [JV.nds, List.map_append]; rfl, by omega, HTOP.out⟩
end
end R9
end Jt
end Go.Proofs.YtdclhepjoifpiaaGreatDoor
