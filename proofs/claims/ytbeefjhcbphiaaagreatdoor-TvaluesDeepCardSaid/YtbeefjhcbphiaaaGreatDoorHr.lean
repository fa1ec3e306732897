/- The reader: a node hung into a table, by a word. -/
import Derived.Test.YtbeefjhcbphiaaaGreatDoorHq
import Derived.Deep.CutRange
namespace Go.Proofs.YtbeefjhcbphiaaaGreatDoor
open Go.RowKit
namespace Tv
open Ty (WR1 KR Ky Bs blK endP endP_on endP_no endP_far)

theorem OkS.set1 {s : St} {b t : Nat} {x nd' : Nd} {m' : Nm} {k : Nat × Bs} (h : OkS s 0 b) (hx : s.X[t]? = some x) (h1 : nd'.keys.length ≤ x.keys.length + 1 ∧ nd'.spots.length ≤ x.spots.length + 1 ∧ nd'.subs.length ≤ x.subs.length + 1) (hm : m' = (k, s.X.length) :: s.m) : OkS ⟨s.a, s.X.set t nd', m'⟩ 1 b := by
  have hl : (s.X.set t nd').length = s.X.length := List.length_set ..
  have hr := h.rows x (List.mem_of_getElem? hx)
  refine ⟨by show (s.X.set t nd').length ≤ b; rw [hl]; exact h.len, fun y hy => ?_, fun y hy => ?_, ?_⟩
  · show _ ≤ (s.X.set t nd').length + 1 ∧ _ ≤ (s.X.set t nd').length + 1 ∧ _ ≤ (s.X.set t nd').length + 1
    rw [hl]
    rcases List.mem_or_eq_of_mem_set hy with h2 | rfl
    · have := h.rows y h2; omega
    · omega
  · show y.2 < (s.X.set t nd').length + 1
    rw [hl]
    have hy : y ∈ m' := hy
    rw [hm] at hy
    rcases List.mem_cons.1 hy with rfl | h2
    · exact Nat.lt_succ_self _
    · have := h.nm y h2; omega
  · show m'.length ≤ (s.X.set t nd').length + 1
    rw [hl, hm]
    have := h.ml
    show s.m.length + 1 ≤ _; omega
theorem OkS.name {s : St} {b : Nat} {k : Nat × Bs} (h : OkS s 0 b) : OkS { s with m := (k, s.X.length) :: s.m } 1 b := by
  refine ⟨h.len, fun x hx => by have := h.rows x hx; show _ ≤ s.X.length + 1 ∧ _ ≤ s.X.length + 1 ∧ _ ≤ s.X.length + 1; omega, fun y hy => ?_, by have := h.ml; show s.m.length + 1 ≤ s.X.length + 1; omega⟩
  rcases List.mem_cons.1 hy with rfl | h2
  · exact Nat.lt_succ_self _
  · have := h.nm y h2; show y.2 < s.X.length + 1; omega
theorem set_modify {X : List Nd} {t : Nat} {x : Nd} {f : Nd → Nd} (hx : X[t]? = some x) : X.set t (f x) = X.modify t f := by
  apply List.ext_getElem?
  intro i
  have ht : t < X.length := (List.getElem?_eq_some_iff.1 hx).1
  rw [List.getElem?_modify, List.getElem?_set]
  by_cases e : t = i
  · subst e; rw [if_pos rfl, if_pos ht, hx]; simp
  · rw [if_neg e]; cases X[i]? <;> simp [e]
section
variable {G : List (Nat × Obj)} {W w w' : World} {B P M : Nat} {S : ByteArray} {s : St} {tv : Value} {lab : Nat → Own} {X : List Nx} {p b : Nat} {x : Nx}
/-- A node's row, as an append finds it. -/
theorem VP.fld {g xl c t j : Nat} (h : VP G W w B P M S s tv 0 0 lab X p b) (htv : tv = .slice (some ⟨g, 0, none⟩) xl c) (hx : X[t]? = some x) (hj : j < 3) :
    ∃ A n cap, x.v j = .slice A n cap ∧ n = ecn x.nd j ∧ w.cell? ⟨g, t * 7 + (2 + j), none⟩ = some (.slice A n cap) ∧ w.frozen? ⟨g, t * 7 + (2 + j), none⟩ = false ∧ w.ownsRow W.heap.size (ety j) (esz j) (.slice A n cap) n (ecs x.nd j) ∧
      ∀ w5 o, (w.alloc o).grownBy w5 (Value.slice A n cap).ownBlock → w5.cell? ⟨g, t * 7 + (2 + j), none⟩ = some (.slice A n cap) ∧ w5.frozen? ⟨g, t * 7 + (2 + j), none⟩ = false := by
  have ht : t < X.length := (List.getElem?_eq_some_iff.1 hx).1
  obtain ⟨g', c', et, _, hg, _, _, hfree, hcells⟩ := h.nt.shape (by omega)
  rw [htv] at et
  injection et with e1 _ e3
  injection e1 with e1
  injection e1 with e1
  subst e1
  have hE := h.nt.e t x hx j hj
  have ho := hE.o trivial
  obtain ⟨A, cap, ev, _⟩ := (Rr.of_own ho).shape
  have hgb : tv.ownBlock = some g := by rw [htv]; rfl
  have hz : w.cell? ⟨g, t * 7 + (2 + j), none⟩ = some (x.v j) := by
    refine hcells t x hx (2 + j) _ ?_
    have : j = 0 ∨ j = 1 ∨ j = 2 := by omega
    rcases this with rfl | rfl | rfl <;> rfl
  have hf := hfree (t * 7 + (2 + j))
  rw [ev] at ho hz
  refine ⟨A, _, cap, ev, rfl, hz, hf, ho, fun w5 o hg5 => ?_⟩
  have e : w5.heap[g]? = w.heap[g]? := by
    rw [hg5.block g (by rw [alloc_size]; omega) (fun e => by
      have l1 := hE.l g (by rw [ev]; exact e.symm)
      rw [h.nt.l g hgb] at l1; cases l1)]
    exact (World.grownBy_alloc w o none).block g hg (by simp)
  exact ⟨(World.cell?_of_block (a := ⟨g, t * 7 + (2 + j), none⟩) e).trans hz, (World.frozen?_of_block (a := ⟨g, t * 7 + (2 + j), none⟩) e).trans hf⟩
theorem zcS : (Value.agg #[.int .i64 0, .int .i64 0]).cells.size = 2 := by simp [Value.cells]
theorem oneSpan (p q : Int) : ∀ u ∈ [Value.int .i64 p, .int .i64 q], u.oneCell' = true := by
  intro u hu
  simp at hu
  rcases hu with rfl | rfl <;> rfl
set_option maxHeartbeats 16000000 in
set_option maxRecDepth 100000 in
theorem hang_any (h : VP G W w B P M S s tv 0 0 lab X 0 b) {t : Nat} (ht : t < s.X.length) (hb : b ≤ 1000000) {k : Bs} (hk : k.length ≤ 1000000) {Q : ByteArray} (hQ : Q = txt k) {y : Int} (hy : y = t) (f0 t0 : Nat) :
    Calls Tryz.prog 139 #[.pointer (some ⟨P, 0, none⟩), .int .i64 y, .string Q, .agg #[.int .i64 (f0 : Nat), .int .i64 (t0 : Nat)]] w fun e w' => e = .returned (.int .i64 (s.X.length : Nat)) ∧ ∃ tv' lab' X', VP G W w' B P M S (s.hang t k (f0, t0)) tv' 0 0 lab' X' 1 b := by
  subst hy
  obtain ⟨i9, h9, h90, h91, h92⟩ := info_parts (show (Tryz.prog.info? 9).map (fun i => (i.zero, i.size, i.bytes)) = some (some (.string ⟨#[]⟩), 1, 16) by kernel_rfl)
  obtain ⟨iS, hS, hS0, hS1, hS2⟩ := info_parts (show (Tryz.prog.info? 40).map (fun i => (i.zero, i.size, i.bytes)) = some (some (.agg #[.int .i64 0, .int .i64 0]), 2, 16) by kernel_rfl)
  obtain ⟨i0, hi, hz0, hz1, hz2⟩ := info_parts (show (Tryz.prog.info? 3).map (fun i => (i.zero, i.size, i.bytes)) = some (some (.int .i64 0), 1, 8) by kernel_rfl)
  have hxl := h.xlen
  have hX6 : s.X.length ≤ 1000000 := by have := h.ok.len; omega
  obtain ⟨x, hx⟩ : ∃ x, X[t]? = some x := ⟨_, List.getElem?_eq_getElem (by omega)⟩
  have hxn : s.X[t]? = some x.nd := by rw [← h.nds, List.getElem?_map, hx]; rfl
  obtain ⟨g, c, htv, hgb, _, _⟩ := h.nt.blk (by omega)
  obtain ⟨xl, hxl2⟩ : ∃ xl, xl = s.X.length := ⟨_, rfl⟩
  rw [hxl, ← hxl2] at htv
  rw [← hxl2] at ht hX6 ⊢
  obtain ⟨w1, hw1⟩ : ∃ w1, w1 = w.alloc (.cells #[.int .i64 (f0 : Nat), .int .i64 (t0 : Nat)] 40) := ⟨_, rfl⟩
  have hb1 : Below w.heap.size w w1 := by rw [hw1]; exact (Below.refl _ _).alloc (Nat.le_refl _) _
  have hbox : w1.heap[w.heap.size]? = some (.cells #[.int .i64 (f0 : Nat), .int .i64 (t0 : Nat)] 40) := by rw [hw1]; exact heap_alloc_new _ _
  have hv1 := h.on hb1
  have HOK := Lib.hid h.ok
  have hr := h.ok.rows x.nd (List.mem_of_getElem? hxn)
  have HROW := Lib.hid hr
  have hmn : s.m.length ≤ 1000000 := by have := h.ok.ml; omega
  obtain ⟨mn, hmn2⟩ : ∃ mn, mn = s.m.length := ⟨_, rfl⟩
  have HMN := Lib.hid hmn2
  rw [← hmn2] at hmn
  have hkey : keyOf Tryz.prog 196 (.agg #[.int .i64 (t : Nat), .string Q]) = some (klit (t, k)) := by rw [hQ]; exact key_is (by omega) (by omega)
  have hpe : plainElem (H := Unit) Tryz.prog 3 (.int .i64 (xl : Nat)) = some (.lit (.int .i64 (xl : Nat)), []) := plainElem_int Tryz.underlying3 (by
    have h1 : IntKind.i64.min ≤ ((xl : Nat) : Int) := by show (-9223372036854775808 : Int) ≤ _; omega
    have h2 : ((xl : Nat) : Int) ≤ IntKind.i64.max := by show _ ≤ (9223372036854775807 : Int); omega
    rw [Lit.wf, Bool.and_eq_true]; exact ⟨decide_eq_true h1, decide_eq_true h2⟩)
  have hmap := Lib.hid hv1.map
  rw [← hmn2] at hmap
  have HV1 := Lib.hid hv1
  have HBX := Lib.hid hbox
  have c0 := hv1.cells.1
  have c4 := hv1.cells.2.2.2.2.1
  rw [htv] at c0
  have HX := Lib.hid hx
  have HXN := Lib.hid hxn
  have HXL := Lib.hid hxl2
  have HTV := Lib.hid htv
  have HGB := Lib.hid hgb
  have HQ := Lib.hid hQ
  have HK := Lib.hid hk
  have HWS := Lib.hid (And.intro h.size hb1.size)
  have hwl : w.heap.size < w1.heap.size := by rw [hw1]; simp
  have hgl := (h.nt.lt g hgb)
  have HGW0 := Lib.hid (show ∀ b, (x.v 0).ownBlock = some b → b < w.heap.size from fun b hb => ((h.nt.e t x hx 0 (by omega)).r.lt b hb).2)
  have HGL := Lib.hid hgl
  have HLT := Lib.hid h.lt
  have hbx0 : ∀ b, b < w.heap.size → w1.heap[b]? = w.heap[b]? := fun b hb => hb1.block b hb
  clear h hb1 hbox hv1 hr hmn2 hxl hx hxn hgb hxl2 hQ hk hgl htv
  go_enter Tryz.func139, Tryz.ntmps139
  go_upto_region 1 with fail
  rw [← hw1]
  clear hw1
  go_upto_region 3 with (at_mapUpdate; refine wpList_mapUpdate_in _ rfl _ _ _ 65 rfl 196 3 nmLaw Tryz.underlying65 (plainElem Tryz.prog 3) M mn (mpD s.m) rfl hmap.out (by unfold maxLen; omega) _ _ _ rfl rfl hkey _ [] hpe ?_; intro w2 hown2 hturn2)
  have hg2 := hturn2.grown
  have HV2 := Lib.hid (VP.put (n := xl) HV1.out hg2 (by rw [← HMN.out]; exact hown2) (by omega) (by have := HK.out; omega) (p' := 1) (b' := b) (by rw [HXL.out]; exact HOK.out.name))
  have HBX2 := Lib.hid (show w2.heap[w.heap.size]? = _ from (hg2.block w.heap.size hwl (fun e => by injection e with e; have := HLT.out.2.2.2.1; have := HWS.out.1; omega)).trans HBX.out)
  have HWS2 := Lib.hid (show w.heap.size < w2.heap.size from Nat.lt_of_lt_of_le hwl hg2.size)
  obtain ⟨A0, n0, c0k, e0, hn0, z0, f0', hr0, hc0⟩ := VP.fld (j := 0) HV2.out HTV.out HX.out (by omega)
  have HC0 := Lib.hid hc0
  have HR0 := Lib.hid hr0
  have E0 := Lib.hid e0
  have HN0 := Lib.hid hn0
  have hn06 : n0 ≤ 1000000 := by have h1 := HROW.out.1; have h2 := HXL.out; have h3 : n0 = x.nd.keys.length := hn0; omega
  have c0' := HV2.out.cells.1
  rw [HTV.out] at c0'
  have hbs : W.heap.size ≤ w2.heap.size := HV2.out.size
  clear hown2 hturn2 hg2 hn0 hr0 hc0 e0 c0 c4 hmap hwl hbx0
  go_wp2_with (at_builtin; refine wpList_append_own_at _ rfl (.tmp 35) (.tmp 37) 36 rfl W.heap.size 9 i9 (.string ⟨#[]⟩) 1 16 Tryz.underlying36 h9 h90 h91 h92 rfl (by decide) _ n0 (x.nd.keys.flatMap strC) rfl (HR0.out.alloc _) ⟨w2.heap.size, 0, none⟩ 1 1 [.string Q] rfl rfl (cell_one_new _ _ _) (by intro u hu; simp at hu; subst hu; rfl) (by unfold maxLen; omega) (by omega) (by simp; omega) ?_; intro v' w3 hown3 hg3 hnil3 hl3; obtain ⟨c7, f7⟩ := HC0.out _ _ hg3; obtain ⟨vA, vc, rfl, _⟩ := (Rr.of_own hown3).shape; clear hnil3)
  obtain ⟨nk, hnk⟩ : ∃ nk : Nd, nk = { x.nd with keys := x.nd.keys ++ [k] } := ⟨_, rfl⟩
  obtain ⟨x8, hx8⟩ : ∃ x8 : Nx, x8 = ⟨nk, upV x.v 0 (.slice vA (n0 + 1) vc)⟩ := ⟨_, rfl⟩
  have HF := Lib.hid (VP.field (j := 0) (nd' := nk) (s' := ⟨s.a, s.X.set t nk, ((t, k), xl) :: s.m⟩) (p' := 1) HV2.out HX.out (by omega) (by rw [E0.out]; exact hg3) (by
      rw [hnk]
      show w3.ownsRow W.heap.size 9 1 _ (x.nd.keys ++ [k]).length ((x.nd.keys ++ [k]).flatMap strC)
      rw [List.length_append, List.flatMap_append, ← show n0 = x.nd.keys.length from HN0.out]
      have e : strC k = [.string Q] := by rw [HQ.out]; rfl
      rw [show [k].flatMap strC = strC k from by simp, e]
      exact hown3) (by rw [E0.out]; exact hl3) (by rw [hnk]; exact ⟨rfl, rfl, rfl⟩) (fun j hj hj2 => by
      rw [hnk]
      have : j = 1 ∨ j = 2 := by omega
      rcases this with rfl | rfl <;> exact ⟨rfl, rfl⟩) (by rw [HTV.out]; rfl) ⟨rfl, rfl, rfl⟩ (by
      rw [HXL.out]
      exact HOK.out.set1 HXN.out (by rw [hnk]; simp) rfl))
  rw [← hx8] at HF
  have HBX3 : Hid ((w3.setCell ⟨g, t * 7 + (2 + 0), none⟩ (.slice vA (n0 + 1) vc)).heap[w.heap.size]? = some (.cells #[.int .i64 (f0 : Nat), .int .i64 (t0 : Nat)] 40)) := Lib.hid (by
    rw [heap_setCell_other _ _ _ _ (show w.heap.size ≠ g by have := HGL.out.2; omega), hg3.block _ (by rw [alloc_size]; have := HWS2.out; omega) (fun e => by
      have h1 := HGW0.out w.heap.size (by rw [E0.out]; exact e.symm)
      omega)]
    exact ((World.grownBy_alloc w2 _ none).block _ HWS2.out (by simp)).trans HBX2.out)
  obtain ⟨w4, hw4⟩ : ∃ w4, w4 = w3.setCell ⟨g, t * 7 + (2 + 0), none⟩ (.slice vA (n0 + 1) vc) := ⟨_, rfl⟩
  rw [show (w3.setCell ⟨g, t * 7 + 2, none⟩ (.slice vA (n0 + 1) vc)) = w4 from hw4.symm]
  rw [← hw4] at HF HBX3
  clear hown3 hg3 hl3 c7 f7 z0 f0' HC0 HR0 hw4 c0' hbs
  have hx8s : (X.set t x8)[t]? = some x8 := by rw [List.getElem?_set, if_pos rfl, if_pos (List.getElem?_eq_some_iff.1 HX.out).1]
  obtain ⟨A1, n1, c1k, e1, hn1, z1, f1', hr1, hc1⟩ := VP.fld (j := 1) HF.out HTV.out hx8s (by omega)
  have HC1 := Lib.hid hc1
  have hn1s : n1 = x.nd.spots.length := by rw [hn1, hx8, hnk]; rfl
  have HR1 := Lib.hid (show w4.ownsRow W.heap.size 40 2 (.slice A1 n1 c1k) n1 (x.nd.spots.flatMap spC) by
    have h : ecs x8.nd 1 = x.nd.spots.flatMap spC := by rw [hx8, hnk]; rfl
    rw [← h]; exact hr1)
  have E1 := Lib.hid e1
  have HN1 := Lib.hid hn1s
  have hn16 : n1 ≤ 1000000 := by have h1 := HROW.out.2.1; have h2 := HXL.out; omega
  have HX8S := Lib.hid hx8s
  have hbs : W.heap.size ≤ w4.heap.size := HF.out.size
  have hzb : w.heap.size < w4.heap.size := lt_blk HBX3.out
  have q0 : w4.cell? ⟨w.heap.size, 0, none⟩ = some (.int .i64 (f0 : Nat)) := by simp [World.cell?, HBX3.out]
  have q1 : w4.cell? ⟨w.heap.size, 1, none⟩ = some (.int .i64 (t0 : Nat)) := by simp [World.cell?, HBX3.out]
  have q0a : ∀ o, (w4.alloc o).cell? ⟨w.heap.size, 0, none⟩ = some (.int .i64 (f0 : Nat)) := fun o => by rw [World.cell?_alloc_lt _ _ _ hzb]; exact q0
  have q1a : ∀ o, (w4.alloc o).cell? ⟨w.heap.size, 1, none⟩ = some (.int .i64 (t0 : Nat)) := fun o => by rw [World.cell?_alloc_lt _ _ _ hzb]; exact q1
  have z1a : ∀ o, (w4.alloc o).cell? ⟨g, t * 7 + (2 + 1), none⟩ = some (.slice A1 n1 c1k) := fun o => by rw [World.cell?_alloc_lt _ _ _ (World.block_lt_of_cell? _ _ z1)]; exact z1
  have HX8 := Lib.hid hx8
  have HNK := Lib.hid hnk
  clear hn1 hr1 hc1 e1 hn1s hx8s hzb hx8 hnk
  go_region_law (refine step_own rfl (.tmp 45) (.tmp 47) 37 rfl W.heap.size 40 iS _ 2 16 Tryz.underlying37 hS hS0 hS1 hS2 zcS (by decide) _ n1 (x.nd.spots.flatMap spC) rfl (HR1.out.alloc _) ⟨w4.heap.size, 0, none⟩ 1 1 [.int .i64 (f0 : Nat), .int .i64 (t0 : Nat)] rfl rfl (Ty.cells_new _ _ rfl) (oneSpan _ _) (by unfold maxLen; omega) (by omega) (by simp; omega) ?_; intro v' w5 hown5 hg5 hl5; obtain ⟨c9, f9⟩ := HC1.out _ _ (by first | exact hg5 | exact gDrew hg5); obtain ⟨vB, vd, rfl, _⟩ := (Rr.of_own hown5).shape)
  all_goals
    obtain ⟨ns, hns⟩ : ∃ ns : Nd, ns = Nd.addKey k (f0, t0) x.nd := ⟨_, rfl⟩
    obtain ⟨x9, hx9⟩ : ∃ x9 : Nx, x9 = ⟨ns, upV x8.v 1 (.slice vB (n1 + 1) vd)⟩ := ⟨_, rfl⟩
    have HG := Lib.hid (VP.field (j := 1) (nd' := ns) (s' := ⟨s.a, s.X.set t ns, ((t, k), xl) :: s.m⟩) (p' := 1) HF.out HX8S.out (by omega) (by rw [E1.out]; first | exact hg5 | exact gDrew hg5) (by
        rw [hns]
        show w5.ownsRow W.heap.size 40 2 _ (x.nd.spots ++ [(f0, t0)]).length ((x.nd.spots ++ [(f0, t0)]).flatMap spC)
        rw [List.length_append, List.flatMap_append, ← HN1.out]
        exact hown5) (by rw [E1.out]; exact hl5) (by rw [hns, HX8.out, HNK.out]; exact ⟨rfl, rfl, rfl⟩) (fun j hj hj2 => by
        rw [hns, HX8.out, HNK.out]
        have : j = 0 ∨ j = 2 := by omega
        rcases this with rfl | rfl <;> exact ⟨rfl, rfl⟩) (by rw [HTV.out]; rfl) ⟨by show s.X.set t ns = (s.X.set t nk).set t ns; rw [List.set_set], rfl, rfl⟩ (by
        rw [HXL.out]
        exact HOK.out.set1 HXN.out (by rw [hns]; simp [Nd.addKey]) rfl))
    rw [← hx9, List.set_set] at HG
    obtain ⟨w6, hw6⟩ : ∃ w6, w6 = w5.setCell ⟨g, t * 7 + (2 + 1), none⟩ (.slice vB (n1 + 1) vd) := ⟨_, rfl⟩
    rw [show (w5.setCell ⟨g, t * 7 + 3, none⟩ (.slice vB (n1 + 1) vd)) = w6 from hw6.symm]
    rw [← hw6] at HG
    clear hown5 hg5 hl5 c9 f9 z1 f1' hw6 q0 q1 q0a q1a z1a hbs
    have hx9s : (X.set t x9)[t]? = some x9 := by rw [List.getElem?_set, if_pos rfl, if_pos (List.getElem?_eq_some_iff.1 HX.out).1]
    obtain ⟨A2, n2, c2k, e2, hn2, z2, f2', hr2, hc2⟩ := VP.fld (j := 2) HG.out HTV.out hx9s (by omega)
    have HC2 := Lib.hid hc2
    have hn2s : n2 = x.nd.subs.length := by rw [hn2, hx9, hns]; rfl
    have HR2 := Lib.hid (show w6.ownsRow W.heap.size 3 1 (.slice A2 n2 c2k) n2 (x.nd.subs.flatMap inC) by
      have h : ecs x9.nd 2 = x.nd.subs.flatMap inC := by rw [hx9, hns]; rfl
      rw [← h]; exact hr2)
    have E2 := Lib.hid e2
    have HN2 := Lib.hid hn2s
    have hn26 : n2 ≤ 1000000 := by have h1 := HROW.out.2.2; have h2 := HXL.out; omega
    have HX9S := Lib.hid hx9s
    have hbs : W.heap.size ≤ w6.heap.size := HG.out.size
    have HX9 := Lib.hid hx9
    have HNS := Lib.hid hns
    clear hn2 hr2 hc2 e2 hn2s hx9s hx9 hns
    go_wp2_with (at_builtin; refine wpList_append_own_at _ rfl (.tmp 55) (.tmp 57) 38 rfl W.heap.size 3 i0 (.int .i64 0) 1 8 Tryz.underlying38 hi hz0 hz1 hz2 rfl (by decide) _ n2 (x.nd.subs.flatMap inC) rfl (HR2.out.alloc _) ⟨w6.heap.size, 0, none⟩ 1 1 [.int .i64 (xl : Nat)] rfl rfl (cell_one_new _ _ _) (by intro u hu; simp at hu; subst hu; rfl) (by unfold maxLen; omega) (by omega) (by simp; omega) ?_; intro v' w7 hown7 hg7 hnil7 hl7; obtain ⟨c11, f11⟩ := HC2.out _ _ hg7; obtain ⟨vC, ve, rfl, _⟩ := (Rr.of_own hown7).shape; clear hnil7)
    have HH := VP.field (j := 2) (nd' := Nd.addSub xl (Nd.addKey k (f0, t0) x.nd)) (s' := s.hang t k (f0, t0)) (p' := 1) HG.out HX9S.out (by omega) (by rw [E2.out]; exact hg7) (by
        show w7.ownsRow W.heap.size 3 1 _ (x.nd.subs ++ [xl]).length ((x.nd.subs ++ [xl]).flatMap inC)
        rw [List.length_append, List.flatMap_append, ← HN2.out]
        exact hown7) (by rw [E2.out]; exact hl7) (by rw [HX9.out, HNS.out]; exact ⟨rfl, rfl, rfl⟩) (fun j hj hj2 => by
        rw [HX9.out, HNS.out]
        have : j = 0 ∨ j = 1 := by omega
        rcases this with rfl | rfl <;> exact ⟨rfl, rfl⟩) (by rw [HTV.out]; rfl) ⟨by
          show s.X.modify t _ = (s.X.set t ns).set t _
          rw [List.set_set, HXL.out]
          exact (set_modify (f := fun x => Nd.addSub s.X.length (Nd.addKey k (f0, t0) x)) HXN.out).symm, rfl, by show _ :: s.m = _ :: s.m; rw [HXL.out]⟩ (HOK.out.hang t)
    go_ret
    exact ⟨rfl, _, _, _, HH⟩
end
end Tv
end Go.Proofs.YtbeefjhcbphiaaaGreatDoor
