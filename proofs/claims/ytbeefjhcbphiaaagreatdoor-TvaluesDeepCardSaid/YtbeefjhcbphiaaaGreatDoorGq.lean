/- The chapter's examples of values, which each law asks: walked. -/
import Derived.Test.YtbeefjhcbphiaaaGreatDoorGp
namespace Go.Proofs.YtbeefjhcbphiaaaGreatDoor
open Go.RowKit
namespace Tv
open Ty (WR1 KR Ky Bs blK endP)

theorem lt_blk2 {w : World} {b k : Nat} {v : Value} (h : w.cell? ⟨b, k, none⟩ = some v) : b < w.heap.size := World.block_lt_of_cell? _ _ h
theorem sameA {V4 : World} {B g gk ck gs cs gk1 ck1 n F T : Nat} {x1 : Nx} {A : Option Addr} {k m : Nat} (hB : TB V4 B g gk ck gs cs gk1 ck1 x1) (_q2 : V4.cell? ⟨F, 0, none⟩ = some (.int .i64 0)) (n4 : V4.cell? ⟨n, 4, none⟩ = some (.slice (some ⟨gs, 0, none⟩) 1 cs)) (t0 : V4.cell? ⟨T, 0, none⟩ = some (.slice A k m)) {wz : World} (hz : Below V4.heap.size V4 wz) (hc : wz.cell? ⟨V4.heap.size, 0, none⟩ = some (.string ⟨#[97]⟩)) :
    Calls Tryz.prog 21 #[.slice (some ⟨gk, 0, none⟩) 1 ck, .slice (some ⟨V4.heap.size, 0, none⟩) 1 1] wz fun e w' => e = .returned (.bool true) ∧ Hid (Below V4.heap.size V4 w') ∧ w'.cell? ⟨n, 4, none⟩ = some (.slice (some ⟨gs, 0, none⟩) 1 cs) ∧ w'.cell? ⟨gs, 0, none⟩ = some (.int .i64 1) ∧ w'.cell? ⟨T, 0, none⟩ = some (.slice A k m) := by
  have hb := hB.on hz
  refine (Ty.same_yes (L := [[97]]) (n := 1) rfl (by decide) (fun _ _ => ⟨gk, 0, rfl, fun j hj => ?_⟩) (fun _ _ => ⟨V4.heap.size, 0, rfl, fun j hj => ?_⟩)).mono ?_
  · obtain rfl : j = 0 := by omega
    exact hb.k0
  · obtain rfl : j = 0 := by omega
    exact hc
  · rintro e w' ⟨rfl, h⟩
    have h2 := below_tr hz h
    exact ⟨rfl, Lib.hid h2, cell_old h2 (lt_blk2 n4) n4, cell_old h2 hB.l0 hB.s0, cell_old h2 (lt_blk2 t0) t0⟩
theorem sameB {V : World} {B g gk ck gs cs gk1 ck1 : Nat} {x1 : Nx} (hB : TB V B g gk ck gs cs gk1 ck1 x1) (o : Array Value) (ty : TypeId) (n : Nat) (hn : n = V.heap.size) (ho : o = #[.string ⟨#[98]⟩, .string ⟨#[99]⟩]) :
    Calls Tryz.prog 21 #[.slice (some ⟨gk1, 0, none⟩) 2 ck1, .slice (some ⟨n, 0, none⟩) 2 2] (V.alloc (.cells o ty)) fun e w' => e = .returned (.bool true) ∧ Hid (Below V.heap.size V w') := by
  subst hn ho
  have hz : Below V.heap.size V (V.alloc (.cells #[.string ⟨#[98]⟩, .string ⟨#[99]⟩] ty)) := (Below.refl _ _).alloc (Nat.le_refl _) _
  have hb := hB.on hz
  refine (Ty.same_yes (L := [[98], [99]]) (n := 2) rfl (by decide) (fun _ _ => ⟨gk1, 0, rfl, fun j hj => ?_⟩) (fun _ _ => ⟨V.heap.size, 0, rfl, fun j hj => ?_⟩)).mono ?_
  · rcases (show j = 0 ∨ j = 1 by omega) with rfl | rfl
    · exact hb.q0
    · exact hb.q1
  · rw [World.cell?_alloc_at _ _ _ _ rfl]
    rcases (show j = 0 ∨ j = 1 by omega) with rfl | rfl <;> rfl
  · rintro e w' ⟨rfl, h⟩
    exact ⟨rfl, Lib.hid (below_tr hz h)⟩
set_option maxHeartbeats 16000000 in
set_option maxRecDepth 100000 in
theorem lives_any {w : World} (hT : Fl.AllT w) : Calls Tryz.prog 8 #[] w fun e w' => e = .returned (.bool true) ∧ Below w.heap.size w w' := by
  have HTB := Lib.hid hT
  clear hT
  go_enter Tryz.func8, Tryz.ntmps8
  go_wp2_with fail
  refine (readA w HTB.out).mono ?_
  rintro e w0 ⟨g, gs, cs, A0, b0, A1, b1, x, x1, x2, rfl, hn, hk, hv, hA, hb0⟩
  have HN0 := Lib.hid hn
  have HK := Lib.hid hk
  have HV := Lib.hid hv
  have HA0 := Lib.hid hA
  have HU0 := Lib.hid hb0
  have HWS := Lib.hid (show w.heap.size ≤ w0.heap.size from hb0.size)
  clear hn hk hv hA hb0
  go_upto_region 2 with fail
  have HF0 := Lib.hid (PB.start (w := w0) (sv := .slice (some ⟨g, 0, none⟩) 3 3) (c := 0) (a := 0))
  obtain ⟨V0, hV0⟩ : ∃ V, V = (w0.alloc (trV (.slice (some ⟨g, 0, none⟩) 3 3))).alloc (tgO (.slice (some ⟨g, 0, none⟩) 3 3) 0 0) := ⟨_, rfl⟩
  rw [← hV0] at HF0 ⊢
  have HV0 := Lib.hid (below_tr HU0.out HF0.out.below)
  have HN1 := Lib.hid (HN0.out.on HF0.out.below)
  have HA1 := Lib.hid (HA0.out.on HF0.out.below)
  obtain ⟨a0, a1, a2, a3⟩ := HF0.out.cells
  clear hV0
  have CR := Lib.hid (root_of (n := 3) (k := 7) (y := 7) HN1.out (by decide) (by unfold maxLen; decide) HK.out rfl)
  rw [HV.out] at CR
  go_wp2_with fail
  refine CR.out.mono ?_
  rintro e w1 ⟨rfl, hb1⟩
  have HF1 := Lib.hid (HF0.out.on hb1)
  have HU1 := Lib.hid (below_tr HV0.out hb1)
  have HA2 := Lib.hid (HA1.out.on hb1)
  clear hb1 a0 a1 a2 a3 CR
  go_upto_region 3 with fail
  obtain ⟨V1, hV1⟩ : ∃ V, V = w1.alloc (.cells #[.int .u8 7, .string ⟨#[]⟩, .slice A0 0 b0, .slice A1 0 b1, .slice (some ⟨gs, 0, none⟩) 2 cs, .int .i64 0, .int .i64 10] 42) := ⟨_, rfl⟩
  have hbV1 : Below w1.heap.size w1 V1 := by rw [hV1]; exact (Below.refl _ _).alloc (Nat.le_refl _) _
  have hh1 : V1.heap[w1.heap.size]? = some (.cells #[.int .u8 7, .string ⟨#[]⟩, .slice A0 0 b0, .slice A1 0 b1, .slice (some ⟨gs, 0, none⟩) 2 cs, .int .i64 0, .int .i64 10] 42) := by rw [hV1]; exact heap_alloc_new _ _
  rw [← hV1]
  have HF2 := Lib.hid (HF1.out.on hbV1)
  have HUV := Lib.hid (below_tr HU1.out hbV1)
  have HA3 := Lib.hid (HA2.out.on hbV1)
  clear hV1 hbV1
  obtain ⟨a0, a1, a2, a3⟩ := HF2.out.cells
  have K0 := fun s : Kept V1 => s.cell a0
  have K1 := fun s : Kept V1 => s.cell a1
  have K2 := fun s : Kept V1 => s.cell a2
  have K3 := fun s : Kept V1 => s.cell a3
  have K4 := fun s : Kept V1 => s.cell (p := ⟨w1.heap.size, 4, none⟩) (v := .slice (some ⟨gs, 0, none⟩) 2 cs) (by simp [World.cell?, hh1])
  have K5 := fun s : Kept V1 => s.cell HA3.out.s0
  have K6 := fun s : Kept V1 => s.cell HA3.out.s1
  obtain ⟨B1, c1, e1⟩ := HA3.out.n1.sh 2 (by decide)
  obtain ⟨B2, c2, e2⟩ := HA3.out.n2.sh 2 (by decide)
  rw [HA3.out.k1] at e1
  rw [HA3.out.k2] at e2
  have S1 := Lib.hid (fun s : Kept V1 => scalar_of (n := 3) (i := 1) (y := 1) (z := 4) (t := ⟨#[49]⟩) (HA3.out.n1.on s.held) (by decide) (by decide) (by rw [HA3.out.k1]; rfl) (by rw [HA3.out.k1]; rfl) e1 rfl)
  have S2 := Lib.hid (fun s : Kept V1 => scalar_of (n := 3) (i := 2) (y := 2) (z := 3) (t := ⟨#[97]⟩) (HA3.out.n2.on s.held) (by decide) (by decide) (by rw [HA3.out.k2]; rfl) (by rw [HA3.out.k2]; rfl) e2 rfl)
  have hcs := HA3.out.cs.1
  have hcm : cs ≤ 2 ^ 63 - 1 := HA3.out.cs.2
  clear e1 e2 a0 a1 a2 a3 hh1
  refine reg_lit (C := fun wx => ∃ s : Kept V1, wx = s.wx) (by kernel_rfl) (by kernel_rfl) ⟨⟨_, (Below.refl _ _).drew⟩, rfl⟩ ?_
  iterate 19 (go_big_quiet_step (fail))
  go_big_quiet_want
  go_big_quiet_op
  refine ⟨.bool true, fun s => (S1.out s).mono ?_, ?_⟩
  · rintro e w3 ⟨rfl, hb⟩; exact Kept.out hb
  go_big_quiet_on
  iterate 8 (go_big_quiet_step (fail))
  go_big_quiet_want
  go_big_quiet_op
  refine ⟨.bool true, fun s => (S2.out s).mono ?_, ?_⟩
  · rintro e w3 ⟨rfl, hb⟩; exact Kept.out hb
  go_big_quiet_on
  iterate 2 (go_big_quiet_step (fail))
  refine wpQuiet_nil ?_
  rintro wc ⟨⟨wx, ox0⟩, e⟩
  have ox : Below V1.heap.size V1 wc := by rw [e]; exact ox0
  have HF3 := Lib.hid (HF2.out.on ox)
  have HC := Lib.hid (below_tr HUV.out ox)
  clear e ox0 ox K0 K1 K2 K3 K4 K5 K6 S1 S2 hcs hcm HF0 HF1 HF2 HUV HU1 HU0 HV0 HN0 HN1 HA0 HA1 HA2 HA3 HK HV
  go_wp2_with fail
  refine (readB wc (HTB.out.below HC.out)).mono ?_
  rintro e w2 ⟨h, gk, ck, hs, hc, gq, cq, A2, b2, B1, d1, B2, d2, y, y1, rfl, hn, hk, hv, hy, hB, hb2⟩
  have HN0 := Lib.hid hn
  have HK := Lib.hid hk
  have HV := Lib.hid hv
  have HY := Lib.hid hy
  have HB0 := Lib.hid hB
  have HU2 := Lib.hid (below_tr HC.out hb2)
  have HF4 := Lib.hid (HF3.out.on hb2)
  have hb2 := Lib.hid hb2
  obtain ⟨V2, hV2⟩ : ∃ V, V = w2.alloc (trV (.slice (some ⟨h, 0, none⟩) 4 4)) := ⟨_, rfl⟩
  have hbV2 : Below w2.heap.size w2 V2 := by rw [hV2]; exact (Below.refl _ _).alloc (Nat.le_refl _) _
  have HF5 := Lib.hid (HF4.out.on hbV2)
  have HT2 := Lib.hid (show V2.heap[w2.heap.size]? = some (trV (.slice (some ⟨h, 0, none⟩) 4 4)) by rw [hV2]; exact heap_alloc_new _ _)
  have HU3 := Lib.hid (below_tr HU2.out hbV2)
  have HN1 := Lib.hid (HN0.out.on hbV2)
  have HB1 := Lib.hid (HB0.out.on hbV2)
  have hC0 : w0.heap.size + 1 < wc.heap.size := lt_blk HF3.out.f
  have HC0 := Lib.hid hC0
  have HVW := Lib.hid (show wc.heap.size ≤ w2.heap.size from hb2.out.size)
  obtain ⟨_, _, a2, a3⟩ := HF5.out.cells
  have f2 : V2.frozen? ⟨w0.heap.size + 1, 0, none⟩ = false := by simp [World.frozen?, HF5.out.f]
  have f3 : V2.frozen? ⟨w0.heap.size + 1, 1, none⟩ = false := by simp [World.frozen?, HF5.out.f]
  rw [hV2] at a2 a3 f2 f3
  clear hn hk hv hy hB HF3 hbV2 hC0
  go_upto_region 6 with fail
  obtain ⟨V3, hV3⟩ : ∃ V, V = ((w2.alloc (trV (.slice (some ⟨h, 0, none⟩) 4 4))).setCell ⟨w0.heap.size + 1, 0, none⟩ (.int .i64 0)).setCell ⟨w0.heap.size + 1, 1, none⟩ (.int .i64 0) := ⟨_, rfl⟩
  have q2 : V3.cell? ⟨w0.heap.size + 1, 0, none⟩ = some (.int .i64 0) := by rw [hV3]; simp [go_sem, *]
  have q3 : V3.cell? ⟨w0.heap.size + 1, 1, none⟩ = some (.int .i64 0) := by rw [hV3]; simp [go_sem, *]
  rw [← hV3]
  rw [← hV2] at hV3
  have oth : ∀ k, k ≠ w0.heap.size + 1 → V3.heap[k]? = V2.heap[k]? := fun k hk => by
    rw [hV3, heap_setCell_other _ _ _ _ (show k ≠ w0.heap.size + 1 from hk), heap_setCell_other _ _ _ _ (show k ≠ w0.heap.size + 1 from hk)]
  have HU4 := Lib.hid (show Below w.heap.size w V3 by rw [hV3]; exact (HU3.out.setCell (by have := HWS.out; show w.heap.size ≤ w0.heap.size + 1; omega) _).setCell (by have := HWS.out; show w.heap.size ≤ w0.heap.size + 1; omega) _)
  have HN2 := Lib.hid (HN1.out.same (oth h (by have := HB1.out.lo.1; have := HC0.out; omega)))
  have HB2 := Lib.hid (HB1.out.same fun k hk _ => oth k (by have := HC0.out; omega))
  have ht := (oth w2.heap.size (by have := HVW.out; have := HC0.out; omega)).trans HT2.out
  have t0 : V3.cell? ⟨w2.heap.size, 0, none⟩ = some (.slice (some ⟨h, 0, none⟩) 4 4) := by simp [World.cell?, ht]
  have t1 : V3.cell? ⟨w2.heap.size, 1, none⟩ = some (.int .i64 0) := by simp [World.cell?, ht]
  have CR := Lib.hid (root_of (n := 4) (k := 8) (y := 8) HN2.out (by decide) (by unfold maxLen; decide) HK.out rfl)
  rw [HV.out] at CR
  clear hV2 hV3 a2 a3 f2 f3 ht oth
  go_wp2_with fail
  refine CR.out.mono ?_
  rintro e w3 ⟨rfl, hb3⟩
  have l2 : w2.heap.size < V3.heap.size := lt_blk2 t0
  have l0 : w0.heap.size + 1 < V3.heap.size := lt_blk2 q2
  have HU5 := Lib.hid (below_tr HU4.out hb3)
  have HB3 := Lib.hid (HB2.out.on hb3)
  have q2' := cell_old hb3 l0 q2
  have q3' := cell_old hb3 l0 q3
  have t0' := cell_old hb3 l2 t0
  clear q2 q3 t0 t1 hb3 l2 l0 CR
  go_upto_region 7 with fail
  obtain ⟨V4, hV4⟩ : ∃ V, V = w3.alloc (.cells #[.int .u8 8, .string ⟨#[]⟩, .slice (some ⟨gk, 0, none⟩) 1 ck, .slice A2 1 b2, .slice (some ⟨hs, 0, none⟩) 1 hc, .int .i64 0, .int .i64 18] 42) := ⟨_, rfl⟩
  have hbV4 : Below w3.heap.size w3 V4 := by rw [hV4]; exact (Below.refl _ _).alloc (Nat.le_refl _) _
  have hh4 : V4.heap[w3.heap.size]? = some (.cells #[.int .u8 8, .string ⟨#[]⟩, .slice (some ⟨gk, 0, none⟩) 1 ck, .slice A2 1 b2, .slice (some ⟨hs, 0, none⟩) 1 hc, .int .i64 0, .int .i64 18] 42) := by rw [hV4]; exact heap_alloc_new _ _
  rw [← hV4]
  have HU6 := Lib.hid (below_tr HU5.out hbV4)
  have HB4 := Lib.hid (HB3.out.on hbV4)
  have q2 := cell_old hbV4 (lt_blk2 q2') q2'
  have q3 := cell_old hbV4 (lt_blk2 q3') q3'
  have t0 := cell_old hbV4 (lt_blk2 t0') t0'
  have n2 : V4.cell? ⟨w3.heap.size, 2, none⟩ = some (.slice (some ⟨gk, 0, none⟩) 1 ck) := by simp [World.cell?, hh4]
  have n4 : V4.cell? ⟨w3.heap.size, 4, none⟩ = some (.slice (some ⟨hs, 0, none⟩) 1 hc) := by simp [World.cell?, hh4]
  have p0 := HB4.out.s0
  clear q2' q3' t0' hV4 hbV4 hh4 HU2 HU3 HU4 HU5 HB0 HB1 HB2 HB3 HN0 HN1 HN2 HF4 HF5 HT2 HVW HC hb2 HV HK HC0
  have SM := Lib.hid (fun (wz : World) (hz : Below V4.heap.size V4 wz) (hc : wz.cell? ⟨V4.heap.size, 0, none⟩ = some (.string ⟨#[97]⟩)) => sameA HB4.out (_q2 := q2) (n4 := n4) (t0 := t0) hz hc)
  have hck := HB4.out.ck.1
  have hcm : ck ≤ 2 ^ 63 - 1 := HB4.out.ck.2
  have hdk := HB4.out.cs.1
  have hdm : hc ≤ 2 ^ 63 - 1 := HB4.out.cs.2
  have m2 : ∀ o, (V4.alloc o).cell? ⟨w3.heap.size, 2, none⟩ = some (.slice (some ⟨gk, 0, none⟩) 1 ck) := fun o => by rw [World.cell?_alloc_lt _ _ _ (lt_blk2 n2)]; exact n2
  go_cut [86] from 54 to 86 (fun v wx => v = .bool false ∧ Hid (Below V4.heap.size V4 wx))
  case first =>
    go_region_with (go_at_call 21; refine (SM.out _ (by first | exact ((Below.refl _ _).alloc (Nat.le_refl _) _).drew | exact (Below.refl _ _).drew.alloc (Nat.le_refl _) _ | exact (Below.refl _ _).alloc (Nat.le_refl _) _) (by simp [go_sem])).mono ?_; rintro e w5 ⟨rfl, hu5, n4', p0', t0'⟩)
    all_goals
      go_wp2_with fail
      go_meet
      first
      | exact ⟨rfl, hu5⟩
      | exact ⟨rfl, Lib.hid hu5.out.drew⟩
  case rest =>
    obtain ⟨rfl, HG⟩ := hcut
    have HU7 := Lib.hid (below_tr HU6.out HG.out)
    have HB5 := Lib.hid (HB4.out.on HG.out)
    have r4 := cell_old HG.out (lt_blk2 n4) n4
    have r0 := cell_old HG.out (lt_blk2 t0) t0
    have r1 := HB5.out.s0
    clear q2 q3 n2 n4 t0 p0 m2 SM HG HU6 HB4
    go_wp2_with fail
    go_upto_region 9 with fail
    obtain ⟨hk1, hk2, hk3, hk4, hk5, hk6, hk7⟩ := HY.out
    have N := HB5.out.n1
    have c0 : wc.cell? ⟨h, 7, none⟩ = some (.int .u8 8) := by have := N.c0; rw [hk2] at this; exact this
    have c1 : wc.cell? ⟨h, 8, none⟩ = some (.string ⟨#[]⟩) := by have := N.c1; rw [hk1] at this; exact this
    have c2 : wc.cell? ⟨h, 9, none⟩ = some (.slice (some ⟨gq, 0, none⟩) 2 cq) := by have := N.c2; rw [hk3] at this; exact this
    have c3 : wc.cell? ⟨h, 10, none⟩ = some (.slice B1 2 d1) := by have := N.c3; rw [hk4] at this; exact this
    have c4 : wc.cell? ⟨h, 11, none⟩ = some (.slice B2 2 d2) := by have := N.c4; rw [hk5] at this; exact this
    have c5 : wc.cell? ⟨h, 12, none⟩ = some (.int .i64 (-1)) := by have := N.c5; rw [hk6] at this; exact this
    have c6 : wc.cell? ⟨h, 13, none⟩ = some (.int .i64 (-1)) := by have := N.c6; rw [hk7] at this; exact this
    have al : ∀ {p : Addr} {v : Value}, wc.cell? p = some v → ∀ o, (wc.alloc o).cell? p = some v := fun hc o => by rw [World.cell?_alloc_lt _ _ _ (World.block_lt_of_cell? _ _ hc)]; exact hc
    have e0 := al c0
    have e1 := al c1
    have e2 := al c2
    have e3 := al c3
    have e4 := al c4
    have e5 := al c5
    have e6 := al c6
    have e7 := al r0
    have e8 := al r1
    have e9 := al r4
    clear hk1 hk2 hk3 hk4 hk5 hk6 hk7 N al HY
    go_upto_region 10 with fail
    go_region
    obtain ⟨V6, hV6⟩ : ∃ V, V = (wc.alloc (.cells #[.int .u8 8, .string ⟨#[]⟩, .slice (some ⟨gq, 0, none⟩) 2 cq, .slice B1 2 d1, .slice B2 2 d2, .int .i64 (-1), .int .i64 (-1)] 42)).drew := ⟨_, rfl⟩
    have hb6 : Below wc.heap.size wc V6 := by rw [hV6]; exact ((Below.refl _ _).alloc (Nat.le_refl _) _).drew
    have hh6 : V6.heap[wc.heap.size]? = some (.cells #[.int .u8 8, .string ⟨#[]⟩, .slice (some ⟨gq, 0, none⟩) 2 cq, .slice B1 2 d1, .slice B2 2 d2, .int .i64 (-1), .int .i64 (-1)] 42) := by rw [hV6]; exact heap_alloc_new wc _
    have HB6 := Lib.hid (HB5.out.on hb6)
    have HU8 := Lib.hid (below_tr HU7.out hb6)
    have z2 : V6.cell? ⟨wc.heap.size, 2, none⟩ = some (.slice (some ⟨gq, 0, none⟩) 2 cq) := by simp [World.cell?, hh6]
    have z5 : V6.cell? ⟨wc.heap.size, 5, none⟩ = some (.int .i64 (-1)) := by simp [World.cell?, hh6]
    have z6 : V6.cell? ⟨wc.heap.size, 6, none⟩ = some (.int .i64 (-1)) := by simp [World.cell?, hh6]
    rw [← hV6]
    have S3 := Lib.hid (sameB HB6.out)
    have HT6 := Lib.hid (HTB.out.below HU8.out)
    clear hV6 hb6 hh6 c0 c1 c2 c3 c4 c5 c6 e0 e1 e2 e3 e4 e5 e6 e7 e8 e9 r0 r1 r4 HB5 HU7 HB6
    go_wp2_with fail
    refine (S3.out _ _ _ rfl rfl).mono ?_
    rintro e w7 ⟨rfl, hb7⟩
    have H7 := Lib.hid (below_tr HU8.out hb7.out)
    have FC := Lib.hid (fails_of (x := 5) (y := 8) w7 (lit_read (s := ⟨#[123, 97, 32, 61, 32, 49, 44, 32, 97, 32, 61, 32, 50, 125]⟩) w7 (HTB.out.below H7.out) sC rfl (by decide) vC) rfl rfl)
    clear hb7 z2 z5 z6
    go_wp2_with fail
    refine FC.out.mono ?_
    rintro e w8 ⟨rfl, hb8⟩
    have H8 := Lib.hid (below_tr H7.out hb8)
    have FD := Lib.hid (fails_of (x := 3) (y := 8) w8 (lit_read (s := ⟨#[123, 97, 32, 61, 32, 49, 44, 32, 125]⟩) w8 (HTB.out.below H8.out) sD rfl (by decide) vD) rfl rfl)
    clear hb8
    go_wp2_with fail
    refine FD.out.mono ?_
    rintro e w9 ⟨rfl, hb9⟩
    have H9 := Lib.hid (below_tr H8.out hb9)
    have FE := Lib.hid (fails_of (x := 3) (y := 0) w9 (lit_read (s := ⟨#[48, 55]⟩) w9 (HTB.out.below H9.out) sE rfl (by decide) vE) rfl rfl)
    clear hb9
    go_wp2_with fail
    refine FE.out.mono ?_
    rintro e wA ⟨rfl, hbA⟩
    have HA := Lib.hid (below_tr H9.out hbA)
    clear hbA
    go_wp2_with fail
    go_ret
    exact ⟨rfl, HA.out⟩
end Tv
end Go.Proofs.YtbeefjhcbphiaaaGreatDoor
