/- The chapter's examples, which each law asks: they come out true. -/
import Derived.Test.YtdclhepjoifpiaaGreatDoorKqm
import Derived.Test.YtdclhepjoifpiaaGreatDoorAy
import Derived.Lib.SlBytesConst
namespace Go.Proofs.YtdclhepjoifpiaaGreatDoor
open Go.RowKit
namespace Jt
open Jk (lt_blk below_tr fvO)

theorem byt_new {w : World} (g : Nat) (l : List UInt8) (cs : Array Value) (fz : Nat × Nat) (hg : g = w.heap.size) (h : cs.toList = l.map (fun c => Value.int .u8 (c.toNat : Int))) : Byt (w.alloc (.cells cs 5 fz)) (w.heap.size + 1) (some ⟨g, 0, none⟩) l := fun _ =>
  ⟨g, 0, rfl, by omega, fun k hk => by
    subst hg
    have e : (w.alloc (.cells cs 5 fz)).cell? ⟨w.heap.size, 0 + k, none⟩ = cs[0 + k]? := cell_of_row _ _ _ cs 5 fz (heap_alloc_new w _)
    rw [e, ← Array.getElem?_toList, h, Nat.zero_add]
    simp [hk, bt]⟩
theorem alloc_size (w : World) (o : Obj) : (w.alloc o).heap.size = w.heap.size + 1 := by show (w.heap.push o).size = _; simp
/-- What a parse answers, as a law keeps it: the tree's value and its root, the fault. -/
abbrev trO (sv : Value) : Obj := .cells #[sv, .int .i64 0] 27
structure PB (w wx : World) (sv : Value) (c a : Int) : Prop where
  below : Below w.heap.size w wx
  t : wx.heap[w.heap.size]? = some (trO sv)
  f : wx.heap[w.heap.size + 1]? = some (fvO c a)
section
variable {w wx wy : World} {sv : Value} {c a : Int}
theorem PB.start : PB w ((w.alloc (trO sv)).alloc (fvO c a)) sv c a := by
  refine ⟨((Below.refl _ _).alloc (Nat.le_refl _) _).alloc (by rw [alloc_size]; omega) _, ?_, ?_⟩
  · show ((w.heap.push _).push _)[w.heap.size]? = _
    rw [Array.getElem?_push_lt (by simp)]; simp
  · show ((w.heap.push _).push _)[w.heap.size + 1]? = _
    rw [Array.getElem?_push, if_pos (by simp)]
theorem PB.on (H : PB w wx sv c a) (hb : Below wx.heap.size wx wy) : PB w wy sv c a :=
  ⟨below_tr H.below hb, by rw [hb.block _ (lt_blk H.t)]; exact H.t, by rw [hb.block _ (lt_blk H.f)]; exact H.f⟩
theorem PB.cells (H : PB w wx sv c a) : wx.cell? ⟨w.heap.size, 0, none⟩ = some sv ∧ wx.cell? ⟨w.heap.size, 1, none⟩ = some (.int .i64 0) ∧ wx.cell? ⟨w.heap.size + 1, 0, none⟩ = some (.int .i64 c) ∧ wx.cell? ⟨w.heap.size + 1, 1, none⟩ = some (.int .i64 a) := by
  simp [World.cell?, H.t, H.f]
end
theorem lt_cell {w : World} {b k : Nat} {v : Value} (h : w.cell? ⟨b, k, none⟩ = some v) : b < w.heap.size := by
  by_cases hb : b < w.heap.size
  · exact hb
  · simp [World.cell?, hb] at h
/-- A row's cells. -/
theorem Rr.cells {w : World} {base : Nat} {e : TypeId} {size : Nat} {v : Value} {n : Nat} {xs : List Value} (h : Rr w base e size v n xs) (h0 : 0 < n) :
    ∃ g c, v = .slice (some ⟨g, 0, none⟩) n c ∧ base ≤ g ∧ g < w.heap.size ∧ n ≤ c ∧ c ≤ maxLen ∧ ∀ k u, xs[k]? = some u → w.cell? ⟨g, k, none⟩ = some u := by
  rcases h.2 with ⟨_, e⟩ | ⟨g, cap, cur, rfl, hb, hg, h1, h2, h3, h4⟩
  · omega
  · refine ⟨g, cap, rfl, hb, lt_blk hg, h1, h2, fun k u hu => ?_⟩
    rw [cell_of_row w g _ cur _ (0, 0) hg, ← Array.getElem?_toList]
    rw [← h4, List.getElem?_take] at hu
    split at hu
    · exact hu
    · cases hu
theorem Tr.cells {w : World} {base : Nat} {lab : Nat → Own} {v : Value} {X : List Nx} (h : Tr w base lab v X) (h0 : 0 < X.length) :
    ∃ g c, v = .slice (some ⟨g, 0, none⟩) X.length c ∧ base ≤ g ∧ g < w.heap.size ∧ X.length ≤ c ∧ c ≤ maxLen ∧ ∀ i x, X[i]? = some x → ∀ r u, (ndC x)[r]? = some u → w.cell? ⟨g, i * 7 + r, none⟩ = some u := by
  obtain ⟨g, c, e, h1, h2, h3, h4, h5⟩ := h.row.cells h0
  refine ⟨g, c, e, h1, h2, h3, h4, fun i x hx r u hu => h5 _ _ ?_⟩
  have hr : r < 7 := (List.getElem?_eq_some_iff.1 hu).1
  rw [ndL_at X i x r hx hr]; exact hu
theorem nd_in {X : List Nx} {nd : List Nd} (h : X.map Nx.nd = nd) {i : Nat} {n : Nd} (hi : nd[i]? = some n) : ∃ x, X[i]? = some x ∧ x.nd = n := by
  subst h
  rw [List.getElem?_map] at hi
  cases hx : X[i]? with
  | none => rw [hx] at hi; cases hi
  | some x => rw [hx] at hi; exact ⟨x, rfl, by injection hi⟩
/-- A literal, parsed: a fault. -/
theorem lit_bad {L : Bs} {cc aa : Nat} (c2 a2 : Int) (g n : Nat) (cs : Array Value) (fz : Nat × Nat) {W : World} (hT : parseR L = .bad cc aa) (e1 : (cc : Int) = c2) (e2 : (aa : Int) = a2) (hg : g = W.heap.size) (hn : n = L.length) (h6 : n ≤ 1000) (hcs : cs.toList = L.map (fun c => Value.int .u8 (c.toNat : Int))) (hW : Tabs0 W) :
    Calls Tryz.prog 9 #[.slice (some ⟨g, 0, none⟩) n n] (W.alloc (.cells cs 5 fz)) fun e w' => e = .returned (.tuple #[.agg #[.slice none 0 0, .int .i64 0], .agg #[.int .i64 c2, .int .i64 a2]]) ∧ Below W.heap.size W w' := by
  have hB := byt_new g L cs fz hg hcs
  have hb := (Below.refl W.heap.size W).alloc (Nat.le_refl _) (.cells cs 5 fz)
  refine (parse_any (l := L) hn (Nat.le_refl _) hB (by rw [alloc_size]; exact Nat.le_refl _) (by unfold maxLen; omega) (by omega) (hW.below hb)).mono ?_
  rintro e w' ⟨hbe, h⟩
  subst e1
  subst e2
  rw [hT] at h
  exact ⟨h, below_tr hb hbe⟩
theorem nil_bad {cc aa : Nat} (c2 a2 : Int) {W : World} (hT : parseR [] = .bad cc aa) (e1 : (cc : Int) = c2) (e2 : (aa : Int) = a2) (hW : Tabs0 W) :
    Calls Tryz.prog 9 #[.slice none 0 0] W fun e w' => e = .returned (.tuple #[.agg #[.slice none 0 0, .int .i64 0], .agg #[.int .i64 c2, .int .i64 a2]]) ∧ Below W.heap.size W w' := by
  refine (parse_any (l := []) (N := 0) rfl (Nat.le_refl _) (B := 0) (fun h => absurd h (by simp)) (Nat.zero_le _) (by unfold maxLen; omega) (by omega) hW).mono ?_
  rintro e w' ⟨hbe, h⟩
  subst e1
  subst e2
  rw [hT] at h
  exact ⟨h, hbe⟩
theorem lit_ok {L : Bs} {nd : List Nd} (N g n : Nat) (cs : Array Value) (fz : Nat × Nat) {W : World} (hT : parseR L = .ok nd) (hN : N = nd.length) (hg : g = W.heap.size) (hn : n = L.length) (h6 : n ≤ 1000) (hcs : cs.toList = L.map (fun c => Value.int .u8 (c.toNat : Int))) (hW : Tabs0 W) :
    Calls Tryz.prog 9 #[.slice (some ⟨g, 0, none⟩) n n] (W.alloc (.cells cs 5 fz)) fun e w' => ∃ A lab X, e = .returned (.tuple #[.agg #[.slice A N N, .int .i64 0], .agg #[.int .i64 0, .int .i64 0]]) ∧ Tr w' W.heap.size lab (.slice A N N) X ∧ X.map Nx.nd = nd ∧ Below W.heap.size W w' := by
  have hB := byt_new g L cs fz hg hcs
  have hb := (Below.refl W.heap.size W).alloc (Nat.le_refl _) (.cells cs 5 fz)
  refine (parse_any (l := L) hn (Nat.le_refl _) hB (by rw [alloc_size]; exact Nat.le_refl _) (by unfold maxLen; omega) (by omega) (hW.below hb)).mono ?_
  rintro e w' ⟨hbe, h⟩
  rw [hT] at h
  obtain ⟨A, M, lab, X, h1, h2, h3⟩ := h
  have hl : X.length = N := by rw [hN, ← h3, List.length_map]
  have hM : M = X.length := by
    rcases h2.row.2 with ⟨h, h'⟩ | ⟨g, cap, cur, h, _⟩
    · injection h with _ h _; omega
    · injection h
  obtain rfl : M = N := hM.trans hl
  refine ⟨A, lab, X, h1, ?_, h3, below_tr hb hbe⟩
  have lo : ∀ k, (W.alloc (.cells cs 5 fz)).heap.size ≤ k → W.heap.size ≤ k := fun k hk => by rw [alloc_size] at hk; omega
  exact ⟨⟨h2.row.1, h2.row.2.imp id fun ⟨g, cap, cur, e, hb, r⟩ => ⟨g, cap, cur, e, lo _ hb, r⟩⟩, h2.l, fun i x hx j hj => ⟨⟨(h2.e i x hx j hj).1.1, (h2.e i x hx j hj).1.2.imp id fun ⟨g, cap, cur, e, hb, r⟩ => ⟨g, cap, cur, e, lo _ hb, r⟩⟩, (h2.e i x hx j hj).2⟩⟩
set_option maxHeartbeats 8000000 in
set_option maxRecDepth 100000 in
theorem lives_any {w : World} (hT : Tabs0 w) : Calls Tryz.prog 7 #[] w fun e w' => e = .returned (.bool true) ∧ Below w.heap.size w w' := by
  have HTB := Lib.hid hT
  have kc := fun (w : World) (C : Array Value) (n c : Nat) => Lib.run_convert_bytes_const (P := Tryz.prog) w 22 5 C n c Tryz.underlying22 Tryz.underlying5
  clear hT
  go_enter Tryz.func7, Tryz.ntmps7
  go_wp2_with fail
  refine (lit_ok (W := w) 4 _ 19 _ _ ex0 rfl rfl rfl (by decide) rfl HTB.out).mono ?_
  rintro e w0 ⟨A0, lab, X, rfl, hX, hx, hb0⟩
  have HX := Lib.hid hX
  have HN := Lib.hid hx
  have HU0 := Lib.hid hb0
  clear hb0 hX hx
  go_upto_region 2 with fail
  have HF0 := Lib.hid (PB.start (w := w0) (sv := .slice A0 4 4) (c := 0) (a := 0))
  obtain ⟨V0, hV0⟩ : ∃ V, V = (w0.alloc (trO (.slice A0 4 4))).alloc (fvO 0 0) := ⟨_, rfl⟩
  rw [← hV0] at HF0 ⊢
  have HV0 := Lib.hid (below_tr HU0.out HF0.out.below)
  clear hV0
  go_wp2_with fail
  refine (lit_bad (W := V0) 5 7 _ 13 _ _ ex1 rfl rfl rfl rfl (by decide) rfl (HTB.out.below HV0.out)).mono ?_
  rintro e w1 ⟨rfl, hb1⟩
  have HU1 := Lib.hid (below_tr HV0.out hb1)
  have HG1 := Lib.hid hb1
  clear hb1
  go_upto_region 3 with fail
  have HF1 := Lib.hid (PB.start (w := w1) (sv := .slice none 0 0) (c := 5) (a := 7))
  obtain ⟨V1, hV1⟩ : ∃ V, V = (w1.alloc (trO (.slice none 0 0))).alloc (fvO 5 7) := ⟨_, rfl⟩
  rw [← hV1] at HF1 ⊢
  have HV1 := Lib.hid (below_tr HU1.out HF1.out.below)
  have HA1 := Lib.hid (below_tr HG1.out HF1.out.below)
  clear hV1
  go_wp2_with fail
  refine (lit_bad (W := V1) 3 3 _ 4 _ _ ex2 rfl rfl rfl rfl (by decide) rfl (HTB.out.below HV1.out)).mono ?_
  rintro e w2 ⟨rfl, hb2⟩
  have HU2 := Lib.hid (below_tr HV1.out hb2)
  have HG2 := Lib.hid hb2
  clear hb2
  go_upto_region 4 with fail
  have HF2 := Lib.hid (PB.start (w := w2) (sv := .slice none 0 0) (c := 3) (a := 3))
  obtain ⟨V2, hV2⟩ : ∃ V, V = (w2.alloc (trO (.slice none 0 0))).alloc (fvO 3 3) := ⟨_, rfl⟩
  rw [← hV2] at HF2 ⊢
  have HV2 := Lib.hid (below_tr HU2.out HF2.out.below)
  have HA2 := Lib.hid (below_tr HG2.out HF2.out.below)
  clear hV2
  go_wp2_with fail
  refine (lit_bad (W := V2) 3 2 _ 2 _ _ ex3 rfl rfl rfl rfl (by decide) rfl (HTB.out.below HV2.out)).mono ?_
  rintro e w3 ⟨rfl, hb3⟩
  have HU3 := Lib.hid (below_tr HV2.out hb3)
  have HG3 := Lib.hid hb3
  clear hb3
  go_upto_region 5 with fail
  have HF3 := Lib.hid (PB.start (w := w3) (sv := .slice none 0 0) (c := 3) (a := 2))
  obtain ⟨V3, hV3⟩ : ∃ V, V = (w3.alloc (trO (.slice none 0 0))).alloc (fvO 3 2) := ⟨_, rfl⟩
  rw [← hV3] at HF3 ⊢
  have HV3 := Lib.hid (below_tr HU3.out HF3.out.below)
  have HA3 := Lib.hid (below_tr HG3.out HF3.out.below)
  clear hV3
  go_wp2_with fail
  refine (nil_bad (W := V3) 3 0 ex4 rfl rfl (HTB.out.below HV3.out)).mono ?_
  rintro e w4 ⟨rfl, hb4⟩
  have HU4 := Lib.hid (below_tr HV3.out hb4)
  have HG4 := Lib.hid hb4
  clear hb4
  go_upto_region 6 with fail
  have HF4 := Lib.hid (PB.start (w := w4) (sv := .slice none 0 0) (c := 3) (a := 0))
  obtain ⟨V4, hV4⟩ : ∃ V, V = (w4.alloc (trO (.slice none 0 0))).alloc (fvO 3 0) := ⟨_, rfl⟩
  rw [← hV4] at HF4 ⊢
  have HV4 := Lib.hid (below_tr HU4.out HF4.out.below)
  have HA4 := Lib.hid (below_tr HG4.out HF4.out.below)
  clear hV4
  have B01 : Below V0.heap.size V0 V4 := below_tr (below_tr (below_tr HA1.out HA2.out) HA3.out) HA4.out
  have B12 : Below V1.heap.size V1 V4 := below_tr (below_tr HA2.out HA3.out) HA4.out
  have B23 : Below V2.heap.size V2 V4 := below_tr HA3.out HA4.out
  obtain ⟨a0, a1, a2, a3⟩ := (HF0.out.on B01).cells
  obtain ⟨_, _, b2, b3⟩ := (HF1.out.on B12).cells
  obtain ⟨_, _, c2, c3⟩ := (HF2.out.on B23).cells
  obtain ⟨_, _, d2, d3⟩ := (HF3.out.on HA4.out).cells
  obtain ⟨_, _, e2, e3⟩ := HF4.out.cells
  have hTr : Tr V4 w.heap.size lab (.slice A0 4 4) X := (HX.out.below HF0.out.below (Nat.le_refl _)).below B01 (Nat.le_refl _)
  have hl : X.length = 4 := by have := congrArg List.length HN.out; rwa [List.length_map] at this
  obtain ⟨g, cc, eA, hg1, hg2, _, _, hc⟩ := hTr.cells (by omega)
  rw [hl] at eA
  injection eA with eA _ eA3
  clear eA3
  subst eA
  obtain ⟨x0, hx0, n0⟩ := nd_in HN.out (i := 0) rfl
  obtain ⟨x1, hx1, n1⟩ := nd_in HN.out (i := 1) rfl
  obtain ⟨x2, hx2, n2⟩ := nd_in HN.out (i := 2) rfl
  obtain ⟨x3, hx3, n3⟩ := nd_in HN.out (i := 3) rfl
  obtain ⟨gk, ck, ek, hk1, hk2, _, _, hkc⟩ := (hTr.e 0 x0 hx0 0 (by omega)).1.cells (by rw [n0]; decide)
  obtain ⟨gs, cs, es, hs1, hs2, _, _, hsc⟩ := (hTr.e 0 x0 hx0 1 (by omega)).1.cells (by rw [n0]; decide)
  rw [n0] at hkc hsc ek es
  obtain ⟨A4, c4, h4, _⟩ := (hTr.e 0 x0 hx0 2 (by omega)).1.shape
  obtain ⟨A5, c5, h5, _⟩ := (hTr.e 1 x1 hx1 0 (by omega)).1.shape
  obtain ⟨A6, c6, h6, _⟩ := (hTr.e 1 x1 hx1 1 (by omega)).1.shape
  obtain ⟨A7, c7, h7, _⟩ := (hTr.e 1 x1 hx1 2 (by omega)).1.shape
  rw [n0] at h4
  rw [n1] at h5 h6 h7
  have k0 := hkc 0 _ rfl
  have s0 := hsc 0 _ rfl
  have s1 := hsc 1 _ rfl
  have q := fun (i : Nat) (x : Nx) (h : X[i]? = some x) => hc i x h
  have f0 : ∀ r u, (ndC x0)[r]? = some u → V4.cell? ⟨g, r, none⟩ = some u := fun r u h => by have := hc 0 x0 hx0 r u h; rwa [Nat.zero_mul, Nat.zero_add] at this
  have p00 : V4.cell? ⟨g, 0, none⟩ = some (.int .u8 8) := f0 0 _ (by simp [ndC, n0])
  have p01 : V4.cell? ⟨g, 1, none⟩ = some (.string { data := #[] }) := f0 1 _ (by simp [ndC, n0, txt])
  have p02 : V4.cell? ⟨g, 2, none⟩ = some (.slice (some ⟨gk, 0, none⟩) 1 ck) := f0 2 _ (by rw [← show x0.v 0 = .slice (some ⟨gk, 0, none⟩) 1 ck from ek]; rfl)
  have p03 : V4.cell? ⟨g, 3, none⟩ = some (.slice (some ⟨gs, 0, none⟩) 1 cs) := f0 3 _ (by rw [← show x0.v 1 = .slice (some ⟨gs, 0, none⟩) 1 cs from es]; rfl)
  have p04 : V4.cell? ⟨g, 4, none⟩ = some (.slice A4 1 c4) := f0 4 _ (by rw [← show x0.v 2 = .slice A4 1 c4 from h4]; rfl)
  have p05 : V4.cell? ⟨g, 5, none⟩ = some (.int .i64 1) := f0 5 _ (by simp [ndC, n0])
  have p06 : V4.cell? ⟨g, 6, none⟩ = some (.int .i64 18) := f0 6 _ (by simp [ndC, n0])
  have f1 : ∀ r u, (ndC x1)[r]? = some u → V4.cell? ⟨g, 7 + r, none⟩ = some u := fun r u h => by have := hc 1 x1 hx1 r u h; rwa [Nat.one_mul] at this
  have p10 : V4.cell? ⟨g, 7, none⟩ = some (.int .u8 7) := f1 0 _ (by simp [ndC, n1])
  have p11 : V4.cell? ⟨g, 8, none⟩ = some (.string { data := #[] }) := f1 1 _ (by simp [ndC, n1, txt])
  have p12 : V4.cell? ⟨g, 9, none⟩ = some (.slice A5 0 c5) := f1 2 _ (by rw [← show x1.v 0 = .slice A5 0 c5 from h5]; rfl)
  have p13 : V4.cell? ⟨g, 10, none⟩ = some (.slice A6 0 c6) := f1 3 _ (by rw [← show x1.v 1 = .slice A6 0 c6 from h6]; rfl)
  have p14 : V4.cell? ⟨g, 11, none⟩ = some (.slice A7 2 c7) := f1 4 _ (by rw [← show x1.v 2 = .slice A7 2 c7 from h7]; rfl)
  have p15 : V4.cell? ⟨g, 12, none⟩ = some (.int .i64 7) := f1 5 _ (by simp [ndC, n1])
  have p16 : V4.cell? ⟨g, 13, none⟩ = some (.int .i64 17) := f1 6 _ (by simp [ndC, n1])
  have p21 : V4.cell? ⟨g, 15, none⟩ = some (.string { data := #[49, 101, 48] }) := hc 2 x2 hx2 1 _ (by simp [ndC, n2, txt])
  have p31 : V4.cell? ⟨g, 22, none⟩ = some (.string { data := #[50, 101, 48] }) := hc 3 x3 hx3 1 _ (by simp [ndC, n3, txt])
  have kk0 : V4.cell? ⟨gk, 0, none⟩ = some (.string { data := #[97] }) := k0
  have ks0 : V4.cell? ⟨gs, 0, none⟩ = some (.int .i64 2) := s0
  have ks1 : V4.cell? ⟨gs, 1, none⟩ = some (.int .i64 5) := s1
  have HB := Lib.hid HV4.out
  clear h4 h5 h6 h7 q f0 f1 k0 s0 s1 hkc hsc ek es n0 n1 n2 n3 hx0 hx1 hx2 hx3 hc hl hTr B01 B12 B23 HF0 HF1 HF2 HF3 HF4 HV0 HV1 HV2 HV3 HV4 HA1 HA2 HA3 HA4 HU0 HU1 HU2 HU3 HU4 HG1 HG2 HG3 HG4 HX HN kc HTB
  have z0 : w0.heap.size < V4.heap.size := lt_cell a0
  have hk2' : gk < V4.heap.size := hk2
  clear a1
  go_upto_region 9 with fail
  obtain ⟨V5, hV5⟩ : ∃ V, V = V4.alloc (.cells #[.int .u8 8, .string { data := #[] }, .slice (some ⟨gk, 0, none⟩) 1 ck, .slice (some ⟨gs, 0, none⟩) 1 cs, .slice A4 1 c4, .int .i64 1, .int .i64 18] 44) := ⟨_, rfl⟩
  rw [← hV5]
  have m5 : ∀ p v, p.block < V4.heap.size → V4.cell? p = some v → V5.cell? p = some v := fun p v h e => by rw [hV5, World.cell?_alloc_lt V4 _ p h]; exact e
  have y5 : V5.heap.size = V4.heap.size + 1 := by rw [hV5, alloc_size]
  have x5 : V5.heap[V4.heap.size]? = some (.cells #[.int .u8 8, .string { data := #[] }, .slice (some ⟨gk, 0, none⟩) 1 ck, .slice (some ⟨gs, 0, none⟩) 1 cs, .slice A4 1 c4, .int .i64 1, .int .i64 18] 44) := by rw [hV5]; exact heap_alloc_new _ _
  have hb5 : Below w.heap.size w V5 := by rw [hV5]; exact HB.out.alloc HB.out.size _
  clear hV5
  have A5c := Lib.hid (m5 _ _ (by exact z0) a0)
  have P0 := Lib.hid (m5 _ _ (by exact hg2) p10)
  have P1 := Lib.hid (m5 _ _ (by exact hg2) p11)
  have P2 := Lib.hid (m5 _ _ (by exact hg2) p12)
  have P3 := Lib.hid (m5 _ _ (by exact hg2) p13)
  have P4 := Lib.hid (m5 _ _ (by exact hg2) p14)
  have P5 := Lib.hid (m5 _ _ (by exact hg2) p15)
  have P6 := Lib.hid (m5 _ _ (by exact hg2) p16)
  have P7 := Lib.hid (m5 _ _ (by exact hg2) p21)
  have P8 := Lib.hid (m5 _ _ (by exact hg2) p31)
  have Q0 := Lib.hid (m5 _ _ (by exact hk2) kk0)
  have Q1 := Lib.hid (m5 _ _ (by exact hs2) ks0)
  have Q2 := Lib.hid (m5 _ _ (by exact hs2) ks1)
  obtain ⟨z4, hz4⟩ : ∃ z, z = V4.heap.size := ⟨_, rfl⟩
  have G1 := Lib.hid (show g < V5.heap.size by omega)
  have G2 := Lib.hid (show gk < V5.heap.size by omega)
  have G3 := Lib.hid (show gs < V5.heap.size by omega)
  have G4 := Lib.hid (show w0.heap.size < V5.heap.size by omega)
  have G5 := Lib.hid (show z4 < V5.heap.size by omega)
  rw [← hz4] at x5 ⊢
  have X5 := Lib.hid x5
  have HB5 := Lib.hid hb5
  clear p00 p01 p02 p03 p04 p05 p06 p10 p11 p12 p13 p14 p15 p16 p21 p31 kk0 ks0 ks1 a0 a2 a3 b2 b3 c2 c3 d2 d3 e2 e3 m5 z0 hg2 hk2 hk2' hs2 y5 hz4 x5 hb5
  have r0 := A5c.out
  have p0 := P0.out
  have p1 := P1.out
  have p2 := P2.out
  have p3 := P3.out
  have p4 := P4.out
  have p5 := P5.out
  have p6 := P6.out
  go_upto_region 10 with fail
  obtain ⟨V6, hV6⟩ : ∃ V, V = V5.alloc (.cells #[.int .u8 7, .string { data := #[] }, .slice A5 0 c5, .slice A6 0 c6, .slice A7 2 c7, .int .i64 7, .int .i64 17] 44) := ⟨_, rfl⟩
  rw [← hV6]
  have m6 : ∀ p v, p.block < V5.heap.size → V5.cell? p = some v → V6.cell? p = some v := fun p v h e => by rw [hV6, World.cell?_alloc_lt V5 _ p h]; exact e
  have x6 : V6.heap[V5.heap.size]? = some (.cells #[.int .u8 7, .string { data := #[] }, .slice A5 0 c5, .slice A6 0 c6, .slice A7 2 c7, .int .i64 7, .int .i64 17] 44) := by rw [hV6]; exact heap_alloc_new _ _
  have hb6 : Below w.heap.size w V6 := by rw [hV6]; exact HB5.out.alloc HB5.out.size _
  clear hV6 r0 p0 p1 p2 p3 p4 p5 p6
  have q0 := m6 _ _ (by exact G2.out) Q0.out
  have q1 := m6 _ _ (by exact G3.out) Q1.out
  have q2 := m6 _ _ (by exact G3.out) Q2.out
  have q3 := m6 _ _ (by exact G4.out) A5c.out
  have q4 := m6 _ _ (by exact G1.out) P7.out
  have q5 := m6 _ _ (by exact G1.out) P8.out
  have cl : ∀ j u, (#[Value.int .u8 8, .string { data := #[] }, .slice (some ⟨gk, 0, none⟩) 1 ck, .slice (some ⟨gs, 0, none⟩) 1 cs, .slice A4 1 c4, .int .i64 1, .int .i64 18])[j]? = some u → V6.cell? ⟨z4, j, none⟩ = some u := fun j u h => m6 _ _ (by exact G5.out) (by rw [cell_of_row V5 _ _ _ _ _ X5.out]; exact h)
  have i0 := cl 0 _ rfl
  have i2 := cl 2 _ rfl
  have i3 := cl 3 _ rfl
  have i5 := cl 5 _ rfl
  have i6 := cl 6 _ rfl
  obtain ⟨z5, hz5⟩ : ∃ z, z = V5.heap.size := ⟨_, rfl⟩
  rw [← hz5] at x6 ⊢
  have cm : ∀ j u, (#[Value.int .u8 7, .string { data := #[] }, .slice A5 0 c5, .slice A6 0 c6, .slice A7 2 c7, .int .i64 7, .int .i64 17])[j]? = some u → V6.cell? ⟨z5, j, none⟩ = some u := fun j u h => by rw [cell_of_row V6 _ _ _ _ _ x6]; exact h
  have j0 := cm 0 _ rfl
  have j5 := cm 5 _ rfl
  have j6 := cm 6 _ rfl
  have HB6 := Lib.hid hb6
  clear m6 x6 hb6 cl cm hz5 A5c P0 P1 P2 P3 P4 P5 P6 P7 P8 Q0 Q1 Q2 G1 G2 G3 G4 G5 X5 HB5 HB
  go_wp2_with fail
  go_ret
  exact ⟨rfl, HB6.out⟩
end Jt
end Go.Proofs.YtdclhepjoifpiaaGreatDoor
