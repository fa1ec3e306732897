/- The law of spans' helper sub: a part of a tree, moved to the front. -/
import Derived.Test.YtnjmcldhmnpbjaaGreatDoorKxm
import Derived.Test.YtnjmcldhmnpbjaaGreatDoorBn
namespace Go.Proofs.YtnjmcldhmnpbjaaGreatDoor
open Go.RowKit
namespace Jt
open Jk (lt_blk below_tr fvO)

structure Small (x : Nd) : Prop where
  a : x.span.1 ≤ 1000000
  b : x.span.2 ≤ 1000000
  sp : ∀ p ∈ x.spots, p.1 ≤ 1000000 ∧ p.2 ≤ 1000000
  su : ∀ s ∈ x.subs, s ≤ 1000000
  n1 : x.spots.length ≤ 1000000
  n2 : x.subs.length ≤ 1000000
/-- What the copy holds so far. -/
structure SB (w wr : World) (bv : Value) (k : Nat) (nv : Value) (Y : List Nx) (Z : List Nd) : Prop where
  below : Below w.heap.size w wr
  box : wr.heap[w.heap.size]? = some (trA bv 0)
  res : wr.heap[w.heap.size + 1]? = some (trA (.slice none 0 0) 0)
  out : wr.heap[w.heap.size + 2]? = some (trA nv 0)
  row : wr.ownsRow (w.heap.size + 3) 44 7 nv Y.length (ndL Y)
  n : Y.length = k
  rd : ∀ (m : Nat) (y : Nx), Y[m]? = some y → ∀ j, j < 3 → (∃ base, Rr wr base (ety j) (esz j) (y.v j) (ecn y.nd j) (ecs y.nd j)) ∧ ∀ b, (y.v j).ownBlock = some b → (b < w.heap.size ∨ w.heap.size + 3 ≤ b) ∧ nv.ownBlock ≠ some b
  nds : Y.map Nx.nd = Z.take k
/-- A node more. -/
theorem SB.step {w wr V6 w10 : World} {bv nv v' : Value} {k : Nat} {Y : List Nx} {Z : List Nd} {o : Obj} {y : Nx} (R : SB w wr bv k nv Y Z) (hbo : Below wr.heap.size wr V6)
    (hg : (V6.alloc o).grownBy w10 nv.ownBlock) (hl : v'.ownBlock = nv.ownBlock ∨ v'.ownBlock = some (V6.alloc o).heap.size)
    (ho : w10.ownsRow (w.heap.size + 3) 44 7 v' (Y.length + 1) (ndL Y ++ ndC y))
    (hy : ∀ j, j < 3 → (∃ base, Rr V6 base (ety j) (esz j) (y.v j) (ecn y.nd j) (ecs y.nd j)) ∧ ∀ b, (y.v j).ownBlock = some b → (b < w.heap.size ∨ w.heap.size + 3 ≤ b) ∧ nv.ownBlock ≠ some b) (hz : Z[k]? = some y.nd) :
    SB w (w10.setCell ⟨w.heap.size + 2, 0, none⟩ v') bv (k + 1) v' (Y ++ [y]) Z := by
  have hO := lt_blk R.out
  have hV := hbo.size
  have hR := R.below.size
  have hown : ∀ b, nv.ownBlock = some b → w.heap.size + 3 ≤ b ∧ b < wr.heap.size := fun b e => R.row.lt b e
  have old : ∀ b, b < V6.heap.size → nv.ownBlock ≠ some b → w10.heap[b]? = V6.heap[b]? := fun b hb hn => by
    rw [hg.block b (by rw [alloc_size]; omega) (fun e => hn e.symm)]
    exact Below.heap_alloc V6 o b hb
  have old2 : ∀ b, b < V6.heap.size → nv.ownBlock ≠ some b → b ≠ w.heap.size + 2 → (w10.setCell ⟨w.heap.size + 2, 0, none⟩ v').heap[b]? = V6.heap[b]? := fun b hb hn h2 => by
    rw [heap_setCell_other _ _ _ _ (by exact h2)]; exact old b hb hn
  have notn : ∀ b, b < w.heap.size + 3 → nv.ownBlock ≠ some b := fun b hb e => by have := (hown b e).1; omega
  have hv' : ∀ b, b < V6.heap.size → nv.ownBlock ≠ some b → v'.ownBlock ≠ some b := fun b hb hn e => by
    rcases hl with h | h
    · exact hn (h.symm.trans e)
    · rw [h, alloc_size] at e
      injection e with e; omega
  have low : ∀ b, b < w.heap.size + 2 → (w10.setCell ⟨w.heap.size + 2, 0, none⟩ v').heap[b]? = wr.heap[b]? := fun b hb => by
    rw [old2 b (by omega) (notn b (by omega)) (by omega)]; exact hbo.block b (by omega)
  have hout : w10.heap[w.heap.size + 2]? = some (trA nv 0) := by
    rw [old _ (by omega) (notn _ (by omega)), hbo.block _ hO]; exact R.out
  have hrow : w10.ownsRow (w.heap.size + 3) 44 7 v' (Y ++ [y]).length (ndL (Y ++ [y])) := by
    rw [List.length_append, ndL_app, ndL_one]; exact ho
  refine ⟨?_, by rw [low _ (by omega)]; exact R.box, by rw [low _ (by omega)]; exact R.res, heap_setCell_same _ _ _ _ _ _ hout, ownsRow_setCell_other hrow (fun e => by have h9 : w.heap.size + 3 ≤ w.heap.size + 2 := (hrow.lt _ e).1; omega) _, by rw [List.length_append, R.n]; rfl, ?_, ?_⟩
  · exact (((R.below.trans (hbo.mono hR)).alloc (by omega) o).grown hg (by rw [alloc_size]; omega) (fun b e => by have := (hown b e).1; omega)).setCell (by show w.heap.size ≤ w.heap.size + 2; omega) _
  · intro m yy hm j hj
    by_cases hlt : m < Y.length
    · rw [List.getElem?_append_left hlt] at hm
      obtain ⟨⟨base, r⟩, q⟩ := R.rd m yy hm j hj
      refine ⟨⟨base, r.keep fun b hb => ?_⟩, fun b hb => ⟨(q b hb).1, hv' b (by have := (r.lt b hb).2; omega) (q b hb).2⟩⟩
      have h1 := (r.lt b hb).2
      rw [old2 b (by omega) (q b hb).2 (by have := (q b hb).1; omega)]; exact hbo.block b h1
    · rw [List.getElem?_append_right (by omega)] at hm
      have h0 : m - Y.length = 0 := by
        have := (List.getElem?_eq_some_iff.1 hm).1
        simp at this; omega
      rw [h0] at hm
      obtain rfl : y = yy := by simpa using hm
      obtain ⟨⟨base, r⟩, q⟩ := hy j hj
      refine ⟨⟨base, r.keep fun b hb => old2 b (r.lt b hb).2 (q b hb).2 (by have := (q b hb).1; omega)⟩, fun b hb => ⟨(q b hb).1, hv' b (r.lt b hb).2 (q b hb).2⟩⟩
  · rw [List.map_append, R.nds, List.take_add_one, hz]; rfl
/-- The copy, to read, when it stands in the result. -/
theorem SB.trd {w wr w' : World} {bv nv : Value} {k : Nat} {Y : List Nx} {Z : List Nd} (R : SB w wr bv k nv Y Z) (hk : ∀ b, b < wr.heap.size → b ≠ w.heap.size + 1 → w'.heap[b]? = wr.heap[b]?) : ∃ A c, nv = .slice A k c ∧ Trd w' A k Y := by
  have row := (Rr.of_own R.row).keep (w' := w') fun b hb => hk b (R.row.lt b hb).2 (by have := (R.row.lt b hb).1; omega)
  obtain ⟨A, c, e, h1, h2, _⟩ := row.shape
  have hn := R.n
  refine ⟨A, c, by rw [e, hn], hn.symm, by unfold maxLen at h2; omega, fun h0 => ?_, fun i x hx j hj => ?_⟩
  · obtain ⟨g, cc, eA, _, hg, _, _, hc⟩ := row.cells (by omega)
    rw [e] at eA
    injection eA with eA _ _
    refine ⟨g, eA, hg, fun i x hx r u hu => hc _ _ ?_⟩
    have hr : r < 7 := (List.getElem?_eq_some_iff.1 hu).1
    rw [ndL_at Y i x r hx hr]; exact hu
  · obtain ⟨⟨base, r⟩, q⟩ := R.rd i x hx j hj
    exact ⟨base, r.keep fun b hb => hk b (r.lt b hb).2 (by have := (q b hb).1; omega)⟩
/-- A node's own block, and what is kept of a world. -/
structure SL (e : TypeId) (sz : Nat) (V ws : World) (s : Value) (j : Nat) (xs : List Value) : Prop where
  below : Below V.heap.size V ws
  row : ws.ownsRow V.heap.size e sz s j xs
theorem SL.start {e : TypeId} {sz : Nat} {V : World} : SL e sz V V (.slice none 0 0) 0 [] := ⟨Below.refl _ _, World.ownsRow_nil _ _ _ _⟩
structure NB (wr wx : World) (kd : Int) (tx : ByteArray) (v0 v1 v2 : Value) (a b : Int) : Prop where
  below : Below wr.heap.size wr wx
  nd : wx.heap[wr.heap.size]? = some (.cells #[.int .u8 kd, .string tx, v0, v1, v2, .int .i64 a, .int .i64 b] 44)
theorem NB.cell {wr wx : World} {kd : Int} {tx : ByteArray} {v0 v1 v2 : Value} {a b : Int} (h : NB wr wx kd tx v0 v1 v2 a b) (j : Nat) (u : Value) (hu : (#[Value.int .u8 kd, .string tx, v0, v1, v2, .int .i64 a, .int .i64 b])[j]? = some u) : wx.cell? ⟨wr.heap.size, j, none⟩ = some u := by
  rw [cell_of_row wx _ _ _ _ _ h.nd]; exact hu
theorem NB.frozen {wr wx : World} {kd : Int} {tx : ByteArray} {v0 v1 v2 : Value} {a b : Int} (h : NB wr wx kd tx v0 v1 v2 a b) (j : Nat) : wx.frozen? ⟨wr.heap.size, j, none⟩ = false := by
  simp [World.frozen?, h.nd]
theorem NB.set {wr wx : World} {kd : Int} {tx : ByteArray} {v0 v1 v2 : Value} {a b : Int} (h : NB wr wx kd tx v0 v1 v2 a b) (j : Nat) (u : Value) :
    Below wr.heap.size wr (wx.setCell ⟨wr.heap.size, j, none⟩ u) ∧ (wx.setCell ⟨wr.heap.size, j, none⟩ u).heap[wr.heap.size]? = some (.cells ((#[Value.int .u8 kd, .string tx, v0, v1, v2, .int .i64 a, .int .i64 b]).setIfInBounds j u) 44) :=
  ⟨h.below.setCell (Nat.le_refl _) _, heap_setCell_same _ _ _ _ _ _ h.nd⟩
theorem NB.on {wr wx wy : World} {kd : Int} {tx : ByteArray} {v0 v1 v2 : Value} {a b : Int} (h : NB wr wx kd tx v0 v1 v2 a b) (hb : Below wx.heap.size wx wy) : NB wr wy kd tx v0 v1 v2 a b :=
  ⟨below_tr h.below hb, by rw [hb.block _ (lt_blk h.nd)]; exact h.nd⟩
theorem upv_one {a b c : Value} (ha : a.oneCell' = true) (hb : b.oneCell' = true) (hc : c.oneCell' = true) (k : Nat) : (upV (upV (fun _ => a) 1 b) 2 c k).oneCell' = true := by
  unfold upV
  by_cases h2 : k = 2
  · rw [if_pos h2]; exact hc
  · rw [if_neg h2]
    by_cases h1 : k = 1
    · rw [if_pos h1]; exact hb
    · rw [if_neg h1]; exact ha
set_option maxHeartbeats 16000000 in
set_option maxRecDepth 100000 in
theorem sub_any {A : Option Addr} {N c i n f : Nat} {X : List Nx} {Z : List Nd} {w : World} (hX : Trd w A N X) (hN : N ≤ 300) (hZ : Z.length = n) (hin : i + n ≤ N) (hn : 0 < n)
    (hz : ∀ (m : Nat) (z : Nd), Z[m]? = some z → ∃ x, X[i + m]? = some x ∧ x.nd = Nd.up f (Nd.on i z)) (hf : ∃ x, X[i]? = some x ∧ x.nd.span.1 = f) (hs : ∀ (m : Nat) (x : Nx), X[m]? = some x → Small x.nd) (I M : Int) (hI : I = (i : Nat)) (hM : M = (n : Nat)) :
    Calls Tryz.prog 14 #[.agg #[.slice A N c, .int .i64 0], .int .i64 I, .int .i64 M] w fun e w' => ∃ A2 c2 Y, e = .returned (.agg #[.slice A2 n c2, .int .i64 0]) ∧ Trd w' A2 n Y ∧ Y.map Nx.nd = Z ∧ Below w.heap.size w w' := by
  obtain ⟨i4, hi4, hy0, hy1, hy2⟩ := info_parts (show (Tryz.prog.info? 44).map (fun i => (i.zero, i.size, i.bytes)) = some (some (.agg #[.int .u8 0, .string ⟨#[]⟩, .slice none 0 0, .slice none 0 0, .slice none 0 0, .int .i64 0, .int .i64 0]), 7, 112) by kernel_rfl)
  obtain ⟨iS, hS, hS0, hS1, hS2⟩ := info_parts (show (Tryz.prog.info? 42).map (fun i => (i.zero, i.size, i.bytes)) = some (some (.agg #[.int .i64 0, .int .i64 0]), 2, 16) by kernel_rfl)
  obtain ⟨iI, hI0, hI1, hI2, hI3⟩ := info_parts (show (Tryz.prog.info? 3).map (fun i => (i.zero, i.size, i.bytes)) = some (some (.int .i64 0), 1, 8) by kernel_rfl)
  obtain ⟨W, hW⟩ : ∃ W, W = ((w.alloc (trA (.slice A N c) 0)).alloc (trA (.slice none 0 0) 0)).alloc (trA (.slice none 0 0) 0) := ⟨_, rfl⟩
  have hb : Below w.heap.size w W := by rw [hW]; exact (((Below.refl _ _).alloc (Nat.le_refl _) _).alloc (by rw [alloc_size]; omega) _).alloc (by rw [alloc_size, alloc_size]; omega) _
  have y0 : W.heap[w.heap.size]? = some (trA (.slice A N c) 0) := by
    rw [hW]; show (((w.heap.push _).push _).push _)[w.heap.size]? = _
    rw [Array.getElem?_push_lt (by simp; omega), Array.getElem_push_lt (by simp)]; simp
  have y1 : W.heap[w.heap.size + 1]? = some (trA (.slice none 0 0) 0) := by
    rw [hW]; show (((w.heap.push _).push _).push _)[w.heap.size + 1]? = _
    rw [Array.getElem?_push_lt (by simp), Array.getElem_push]; simp
  have y2 : W.heap[w.heap.size + 2]? = some (trA (.slice none 0 0) 0) := by
    rw [hW]; show (((w.heap.push _).push _).push _)[w.heap.size + 2]? = _
    rw [Array.getElem?_push, if_pos (by simp)]
  have hsb : SB w W (.slice A N c) 0 (.slice none 0 0) [] Z := ⟨hb, y0, y1, y2, World.ownsRow_nil _ _ _ _, rfl, fun m y h => by simp at h, rfl⟩
  have hz2 : w.heap.size + 2 < W.heap.size := lt_blk y2
  obtain ⟨x0, hx0, hf0⟩ := hf
  obtain ⟨g, rfl, hg, hc⟩ := hX.at_ (by omega)
  have hf6 : f ≤ 1000000 := by rw [← hf0]; exact (hs i x0 hx0).a
  have t0 : W.cell? ⟨w.heap.size, 0, none⟩ = some (.slice (some ⟨g, 0, none⟩) N c) := by rw [cell_of_row W _ _ _ _ _ y0]; rfl
  have t5 : W.cell? ⟨g, i * 7 + 5, none⟩ = some (.int .i64 (f : Nat)) := (hb.cell (p := ⟨g, i * 7 + 5, none⟩) hg).trans (hc i x0 hx0 5 _ (by rw [← hf0]; rfl))
  have HX := Lib.hid hX
  have HB := Lib.hid hb
  have HS := Lib.hid hs
  have HZ := Lib.hid hz
  have HZL := Lib.hid hZ
  have HI := Lib.hid hI
  have HM := Lib.hid hM
  have HSB := Lib.hid hsb
  have T0 := Lib.hid t0
  have HI4 := Lib.hid (And.intro hi4 (And.intro hy0 (And.intro hy1 hy2)))
  have HIS := Lib.hid (And.intro hS (And.intro hS0 (And.intro hS1 hS2)))
  have HII := Lib.hid (And.intro hI0 (And.intro hI1 (And.intro hI2 hI3)))
  have HHC := Lib.hid hc
  have hiN : i < N := by omega
  subst hI
  subst hM
  clear hX hb hs hz hZ hsb y0 y1 y2 hc hx0 hf0 hi4 hy0 hy1 hy2 hS hS0 hS1 hS2 hI0 hI1 hI2 hI3 HI HM
  go_enter Tryz.func14, Tryz.ntmps14
  go_upto_region 2 with fail
  rw [← hW]
  clear hW
  go_wp2_with fail
  clear t0 t5
  go_loopw [9] (fun s wr => ∃ (k : Nat) (nv : Value) (Y : List Nx), k ≤ n ∧ s = .int .i64 ((i + k : Nat) : Int) ∧ Hid (SB w wr (.slice (some ⟨g, 0, none⟩) N c) k nv Y Z)) (fun s _ => i + n - (intOf s).toNat)
  case atStart => exact ⟨0, _, _, Nat.zero_le _, rfl, HSB⟩
  case round =>
    obtain ⟨k, nv, Y, hk, rfl, R⟩ := hrel
    obtain ⟨p, hp⟩ : ∃ p, p = i + k := ⟨_, rfl⟩
    rw [← hp]
    have t0 : wr.cell? ⟨w.heap.size, 0, none⟩ = some (.slice (some ⟨g, 0, none⟩) N c) := by rw [cell_of_row wr _ _ _ _ _ R.out.box]; rfl
    have o0 : wr.cell? ⟨w.heap.size + 2, 0, none⟩ = some nv := by rw [cell_of_row wr _ _ _ _ _ R.out.out]; rfl
    have o1 : wr.cell? ⟨w.heap.size + 2, 1, none⟩ = some (.int .i64 0) := by rw [cell_of_row wr _ _ _ _ _ R.out.out]; rfl
    have r0 : wr.cell? ⟨w.heap.size + 1, 0, none⟩ = some (.slice none 0 0) := by rw [cell_of_row wr _ _ _ _ _ R.out.res]; rfl
    have r1 : wr.cell? ⟨w.heap.size + 1, 1, none⟩ = some (.int .i64 0) := by rw [cell_of_row wr _ _ _ _ _ R.out.res]; rfl
    by_cases hkn : k < n
    case neg =>
      obtain rfl : n = k := by omega
      have hcond : decide ((p : Int) < i + n) = false := decide_eq_false (by omega)
      have z0 : wr.frozen? ⟨w.heap.size + 1, 0, none⟩ = false := by simp [World.frozen?, R.out.res]
      have z1 : wr.frozen? ⟨w.heap.size + 1, 1, none⟩ = false := by simp [World.frozen?, R.out.res]
      obtain ⟨nA, nc, rfl, _⟩ := (Rr.of_own R.out.row).shape
      obtain ⟨yl, hyl⟩ : ∃ v, v = Y.length := ⟨_, rfl⟩
      obtain rfl : yl = n := hyl.trans R.out.n
      rw [← hyl] at o0 R
      clear hyl
      go_wp2_with fail
      have hO := lt_blk R.out.out
      refine bodyPost_ret (v := .agg #[.slice nA yl nc, .int .i64 0]) (by simp [results, Tryz.results14, go_sem, *]) rfl ?_
      obtain ⟨A5, c5, e5, hTr⟩ := SB.trd (w' := (wr.setCell ⟨w.heap.size + 1, 0, none⟩ (.slice nA yl nc)).setCell ⟨w.heap.size + 1, 1, none⟩ (.int .i64 0)) R.out (fun b hb hne => by
        rw [heap_setCell_other _ _ _ _ (by exact hne), heap_setCell_other _ _ _ _ (by exact hne)])
      injection e5 with e5 e6 e7
      subst e5
      exact ⟨nA, nc, Y, rfl, hTr, by rw [R.out.nds]; exact List.take_of_length_le (Nat.le_of_eq HZL.out), (R.out.below.setCell (by show w.heap.size ≤ w.heap.size + 1; omega) _).setCell (by show w.heap.size ≤ w.heap.size + 1; omega) _⟩
    have hcond : decide ((p : Int) < i + n) = true := decide_eq_true (by omega)
    have hcond2 : p < N := by omega
    obtain ⟨z, hzk⟩ : ∃ z, Z[k]? = some z := ⟨_, List.getElem?_eq_getElem (by have := HZL.out; omega)⟩
    obtain ⟨x, hx, hxz⟩ := HZ.out k z hzk
    rw [← hp] at hx
    have hsm := HS.out p x hx
    have hXw := HX.out.keep R.out.below
    have rx := hXw.rd p x hx
    obtain ⟨A0, c0, e0, n0, m0, C0⟩ := rx.row (show 0 < 3 by omega)
    obtain ⟨A1, c1, e1, n1, m1, C1⟩ := rx.row (show 1 < 3 by omega)
    obtain ⟨A2, c2, e2, n2, m2, C2⟩ := rx.row (show 2 < 3 by omega)
    obtain ⟨g', eg, hg', hcw⟩ := hXw.at_ (by omega)
    injection eg with eg
    injection eg with eg _ _
    subst eg
    have hcx := hcw p x hx
    have hlx : ndC x = [.int .u8 (x.nd.kind : Nat), .string (txt x.nd.text), .slice A0 (ecn x.nd 0) c0, .slice A1 (ecn x.nd 1) c1, .slice A2 (ecn x.nd 2) c2, .int .i64 (x.nd.span.1 : Nat), .int .i64 (x.nd.span.2 : Nat)] := by
      unfold ndC; rw [e0, e1, e2]
    rw [hlx] at hcx
    have a0 := hcx 0 _ rfl
    have a1 := hcx 1 _ rfl
    have a2 := hcx 2 _ rfl
    have a3 := hcx 3 _ rfl
    have a4 := hcx 4 _ rfl
    have a5 := hcx 5 _ rfl
    have a6 := hcx 6 _ rfl
    rw [Nat.add_zero] at a0
    have hsp1 : x.nd.span.1 = z.span.1 + f := by rw [hxz]; rfl
    have hsp2 : x.nd.span.2 = z.span.2 + f := by rw [hxz]; rfl
    obtain ⟨s1, hs1⟩ : ∃ v : Nat, v = x.nd.span.1 := ⟨_, rfl⟩
    obtain ⟨s2, hs2⟩ : ∃ v : Nat, v = x.nd.span.2 := ⟨_, rfl⟩
    rw [← hs1] at a5 hlx
    rw [← hs2] at a6 hlx
    have hs1b : s1 ≤ 1000000 := by rw [hs1]; exact hsm.a
    have hs2b : s2 ≤ 1000000 := by rw [hs2]; exact hsm.b
    have HP := Lib.hid hp
    have HC1 := Lib.hid (And.intro C0 (And.intro C1 C2))
    have HE := Lib.hid (And.intro e0 (And.intro e1 e2))
    have HSP := Lib.hid (And.intro (hs1.trans hsp1) (hs2.trans hsp2))
    have HXZ := Lib.hid hxz
    have HXP := Lib.hid hx
    have HLX := Lib.hid hlx
    obtain ⟨l0, hl0⟩ : ∃ l, l = ecn x.nd 0 := ⟨_, rfl⟩
    obtain ⟨l1, hl1⟩ : ∃ l, l = ecn x.nd 1 := ⟨_, rfl⟩
    obtain ⟨l2, hl2⟩ : ∃ l, l = ecn x.nd 2 := ⟨_, rfl⟩
    obtain ⟨kd, hkd⟩ : ∃ v : Int, v = (x.nd.kind : Nat) := ⟨_, rfl⟩
    obtain ⟨tx, htx⟩ : ∃ v, v = txt x.nd.text := ⟨_, rfl⟩
    rw [← hl0] at a2 n0
    rw [← hl1] at a3 n1
    rw [← hl2] at a4 n2
    rw [← hkd] at a0
    rw [← htx] at a1
    have hl1b : l1 ≤ 1000000 := by rw [hl1]; exact hsm.n1
    have hl2b : l2 ≤ 1000000 := by rw [hl2]; exact hsm.n2
    have HL := Lib.hid (And.intro (And.intro hl0 (And.intro hl1 hl2)) (And.intro hkd htx))
    have HSM := Lib.hid hsm
    have hlo : s1 = z.span.1 + f ∧ s2 = z.span.2 + f := HSP.out
    have hlo1 : f ≤ s1 ∧ f ≤ s2 := by omega
    obtain ⟨d1, hd1⟩ : ∃ v : Nat, s1 - f = v := ⟨_, rfl⟩
    obtain ⟨d2, hd2⟩ : ∃ v : Nat, s2 - f = v := ⟨_, rfl⟩
    have hd1i : (s1 : Int) - f = d1 := by omega
    have hd2i : (s2 : Int) - f = d2 := by omega
    have HDD := Lib.hid (show d1 = z.span.1 ∧ d2 = z.span.2 by omega)
    clear rx hcx hXw hg' hcw hp C0 C1 C2 e0 e1 e2 hsp1 hsp2 hs1 hs2 hxz hx hlx hl0 hl1 hl2 hkd htx hsm hlo hd1 hd2
    go_upto_region 7 with fail
    obtain ⟨V, hV⟩ : ∃ V, V = wr.alloc (.cells #[.int .u8 kd, .string tx, .slice A0 l0 c0, .slice A1 l1 c1, .slice A2 l2 c2, .int .i64 (s1 : Nat), .int .i64 (s2 : Nat)] 44) := ⟨_, rfl⟩
    rw [← hV]
    have hnb : NB wr V kd tx (.slice A0 l0 c0) (.slice A1 l1 c1) (.slice A2 l2 c2) (s1 : Nat) (s2 : Nat) := by
      rw [hV]; exact ⟨(Below.refl _ _).alloc (Nat.le_refl _) _, heap_alloc_new _ _⟩
    clear hV a0 a1 a2 a3 a4 a5 a6 t0 o0 o1 r0 r1 hcond hcond2
    have b5 := hnb.cell 5 _ rfl
    have z5 := hnb.frozen 5
    go_upto_region 8 with fail
    obtain ⟨q1, q2⟩ := hnb.set 5 (.int .i64 (d1 : Nat))
    obtain ⟨V2, hV2⟩ : ∃ V2, V2 = V.setCell ⟨wr.heap.size, 5, none⟩ (.int .i64 (d1 : Nat)) := ⟨_, rfl⟩
    rw [← hV2] at q1 q2 ⊢
    have hnb2 : NB wr V2 kd tx (.slice A0 l0 c0) (.slice A1 l1 c1) (.slice A2 l2 c2) (d1 : Nat) (s2 : Nat) := ⟨q1, q2⟩
    clear hV2 q1 q2 b5 z5 hnb
    have b6 := hnb2.cell 6 _ rfl
    have z6 := hnb2.frozen 6
    go_upto_region 9 with fail
    obtain ⟨q1, q2⟩ := hnb2.set 6 (.int .i64 (d2 : Nat))
    obtain ⟨V3, hV3⟩ : ∃ V3, V3 = V2.setCell ⟨wr.heap.size, 6, none⟩ (.int .i64 (d2 : Nat)) := ⟨_, rfl⟩
    rw [← hV3] at q1 q2 ⊢
    have hnb3 : NB wr V3 kd tx (.slice A0 l0 c0) (.slice A1 l1 c1) (.slice A2 l2 c2) (d1 : Nat) (d2 : Nat) := ⟨q1, q2⟩
    clear hV3 q1 q2 b6 z6 hnb2
    have HN3 := Lib.hid hnb3
    have HSL0 := Lib.hid (SL.start (e := 42) (sz := 2) (V := V3))
    obtain ⟨hS, hS0, hS1, hS2⟩ := HIS.out
    have b3 := hnb3.cell 3 _ rfl
    have hVz : wr.heap.size < V3.heap.size := lt_blk hnb3.nd
    clear hnb3
    go_wp2_with fail
    clear b3
    obtain ⟨wo, hwo⟩ : ∃ wo, wo = wr := ⟨_, rfl⟩
    subst hwo
    go_loopw [11, 12] (fun s t wr => ∃ j : Nat, j ≤ l1 ∧ t = .int .i64 (j : Nat) ∧ Hid (SL 42 2 V3 wr s j ((z.spots.take j).flatMap spC))) (fun _ t _ => l1 - (intOf t).toNat)
    case atStart => exact ⟨0, Nat.zero_le _, rfl, HSL0⟩
    case round =>
      obtain ⟨j, hj, rfl, HJ⟩ := hrel
      have b3 := (HN3.out.on HJ.out.below).cell 3 _ rfl
      obtain ⟨sA, sc, env, _⟩ := (Rr.of_own HJ.out.row).shape
      subst env
      by_cases hjl : j < l1
      case pos =>
        obtain ⟨g1, rfl, hg1, hc1⟩ := HC1.out.2.1 (by have := HL.out.1.2.1; omega)
        obtain ⟨zs, hzs⟩ : ∃ s, z.spots[j]? = some s := ⟨_, List.getElem?_eq_getElem (by
          have h1 := HL.out.1.2.1
          have h2 : ecn x.nd 1 = z.spots.length := by show x.nd.spots.length = _; rw [HXZ.out]; simp [Nd.up, Nd.on]
          omega)⟩
        have hxs : x.nd.spots[j]? = some (up2 f zs) := by rw [HXZ.out]; show ((Nd.on i z).spots.map (up2 f))[j]? = _; rw [List.getElem?_map]; show Option.map _ z.spots[j]? = _; rw [hzs]; rfl
        have hbw := below_tr HN3.out.below HJ.out.below
        obtain ⟨P1, hP1⟩ : ∃ v : Nat, v = zs.1 + f := ⟨_, rfl⟩
        obtain ⟨P2, hP2⟩ : ∃ v : Nat, v = zs.2 + f := ⟨_, rfl⟩
        have k1 : wr.cell? ⟨g1, j * 2, none⟩ = some (.int .i64 (P1 : Nat)) := by rw [hP1]; exact (hbw.cell (p := ⟨g1, j * 2, none⟩) hg1).trans (hc1 _ _ (spC_at _ _ _ hxs).1)
        have k2 : wr.cell? ⟨g1, j * 2 + 1, none⟩ = some (.int .i64 (P2 : Nat)) := by rw [hP2]; exact (hbw.cell (p := ⟨g1, j * 2 + 1, none⟩) hg1).trans (hc1 _ _ (spC_at _ _ _ hxs).2)
        have hPb : P1 ≤ 1000000 ∧ P2 ≤ 1000000 := by
          have := HSM.out.sp _ (List.mem_of_getElem? hxs)
          rw [hP1, hP2]; exact this
        obtain ⟨Q1, hQ1⟩ : ∃ v : Nat, v = zs.1 := ⟨_, rfl⟩
        obtain ⟨Q2, hQ2⟩ : ∃ v : Nat, v = zs.2 := ⟨_, rfl⟩
        have hq1 : (P1 : Int) - f = Q1 := by omega
        have hq2 : (P2 : Int) - f = Q2 := by omega
        have hwq1 : IntKind.i64.wrap ((Q1 : Nat) : Int) = Q1 := IntWalk.i64_in _ (by omega)
        have hwq2 : IntKind.i64.wrap ((Q2 : Nat) : Int) = Q2 := IntWalk.i64_in _ (by omega)
        have hPb1 := hPb.1
        have hPb2 := hPb.2
        have HRow := Lib.hid HJ.out.row
        have hbase : V3.heap.size ≤ wr.heap.size := HJ.out.below.size
        have FIN := Lib.hid (show (z.spots.take (j + 1)).flatMap spC = (z.spots.take j).flatMap spC ++ [.int .i64 (Q1 : Nat), .int .i64 (Q2 : Nat)] by
          rw [List.take_add_one, hzs, List.flatMap_append, hQ1, hQ2]; rfl)
        clear hzs hxs hbw hg1 hc1 hP1 hP2 hQ1 hQ2 hPb
        go_upto_region 13 with fail
        go_region_law (refine step_own rfl (.tmp 63) (.tmp 81) 39 rfl V3.heap.size 42 iS _ 2 16 Tryz.underlying39 hS hS0 hS1 hS2 zcS (by decide) _ j ((z.spots.take j).flatMap spC) rfl (HRow.out.alloc _) ⟨wr.heap.size, 0, none⟩ 1 1 [.int .i64 (Q1 : Nat), .int .i64 (Q2 : Nat)] rfl rfl (Jk.cells_new _ _ rfl) (oneSpan _ _) (by unfold maxLen; omega) (by omega) (by simp; omega) ?_; intro v' w9 hown9 hg9 hl9)
        all_goals
          have hgr : wr.grownBy w9 (Value.slice sA j sc).ownBlock := (World.grownBy_alloc wr _ _).trans (by first | exact hg9 | exact gDrew hg9)
          have hbn : Below V3.heap.size wr w9 := (Below.refl _ _).grown hgr hbase (fun k e => (HRow.out.lt k e).1)
          have HJ2 := Lib.hid (show SL 42 2 V3 w9 v' (j + 1) ((z.spots.take (j + 1)).flatMap spC) from ⟨HJ.out.below.trans hbn, by rw [FIN.out]; exact hown9⟩)
          clear hgr hbn hown9 hg9 hl9
          go_wp2_with fail
          refine ⟨⟨j + 1, by omega, by go_num, HJ2⟩, ?_⟩
          simp [intOf] <;> omega
      obtain rfl : l1 = j := by omega
      have hall1 : z.spots.take l1 = z.spots := List.take_of_length_le (by
        have h1 := HL.out.1.2.1
        have h2 : ecn x.nd 1 = z.spots.length := by show x.nd.spots.length = _; rw [HXZ.out]; simp [Nd.up, Nd.on]
        omega)
      have hj4 := HJ.out
      rw [hall1] at hj4
      have HJ4 := Lib.hid hj4
      clear hall1 hj4
      have hnb4 := HN3.out.on HJ.out.below
      have z3 := hnb4.frozen 3
      have hsz4 : wo.heap.size < V3.heap.size := hVz
      go_upto_region 15 with fail
      obtain ⟨q1, q2⟩ := hnb4.set 3 (.slice sA l1 sc)
      obtain ⟨V4, hV4⟩ : ∃ V4, V4 = wr.setCell ⟨wo.heap.size, 3, none⟩ (.slice sA l1 sc) := ⟨_, rfl⟩
      have hrow4 : V4.ownsRow V3.heap.size 42 2 (.slice sA l1 sc) l1 (z.spots.flatMap spC) := by
        rw [hV4]
        exact ownsRow_setCell_other HJ4.out.row (fun e => by have := (HJ4.out.row.lt _ e).1; simp at this; omega) _
      have hsz5 : V3.heap.size ≤ V4.heap.size := by rw [hV4]; simpa using HJ4.out.below.size
      rw [← hV4] at q1 q2 ⊢
      have hnb5 : NB wo V4 kd tx (.slice A0 l0 c0) (.slice sA l1 sc) (.slice A2 l2 c2) (d1 : Nat) (d2 : Nat) := ⟨q1, q2⟩
      clear hV4 q1 q2 z3 hnb4 b3
      have HN5 := Lib.hid hnb5
      have HR4 := Lib.hid hrow4
      have HSL1 := Lib.hid (SL.start (e := 3) (sz := 1) (V := V4))
      obtain ⟨hI0, hI1, hI2, hI3⟩ := HII.out
      have b4 := hnb5.cell 4 _ rfl
      clear hnb5 hrow4 HJ HJ4
      go_wp2_with fail
      clear b4
      go_loopw [13, 14] (fun s t wr => ∃ j : Nat, j ≤ l2 ∧ t = .int .i64 (j : Nat) ∧ Hid (SL 3 1 V4 wr s j ((z.subs.take j).flatMap inC))) (fun _ t _ => l2 - (intOf t).toNat)
      case atStart => exact ⟨0, Nat.zero_le _, rfl, HSL1⟩
      case round =>
        obtain ⟨j, hj, rfl, HJ⟩ := hrel
        have b4 := (HN5.out.on HJ.out.below).cell 4 _ rfl
        obtain ⟨sB, sd, env, _⟩ := (Rr.of_own HJ.out.row).shape
        subst env
        have hl2z : l2 = z.subs.length := by
          have h1 := HL.out.1.2.2
          have h2 : ecn x.nd 2 = z.subs.length := by show x.nd.subs.length = _; rw [HXZ.out]; simp [Nd.up, Nd.on]
          omega
        by_cases hjl : j < l2
        case pos =>
          obtain ⟨g1, rfl, hg1, hc1⟩ := HC1.out.2.2 (by have := HL.out.1.2.2; omega)
          obtain ⟨zs, hzs⟩ : ∃ s, z.subs[j]? = some s := ⟨_, List.getElem?_eq_getElem (by omega)⟩
          have hxs : x.nd.subs[j]? = some (zs + i) := by rw [HXZ.out]; show (z.subs.map (· + i))[j]? = _; rw [List.getElem?_map, hzs]; rfl
          have hbw := below_tr HN5.out.below HJ.out.below
          obtain ⟨P1, hP1⟩ : ∃ v : Nat, v = zs + i := ⟨_, rfl⟩
          have k1 : wr.cell? ⟨g1, j, none⟩ = some (.int .i64 (P1 : Nat)) := by rw [hP1]; exact (hbw.cell (p := ⟨g1, j, none⟩) hg1).trans (hc1 _ _ (inC_at _ _ _ hxs))
          have hPb1 : P1 ≤ 1000000 := by rw [hP1]; exact HSM.out.su _ (List.mem_of_getElem? hxs)
          obtain ⟨Q1, hQ1⟩ : ∃ v : Nat, v = zs := ⟨_, rfl⟩
          have hq1 : (P1 : Int) - i = Q1 := by omega
          have hwq1 : IntKind.i64.wrap ((Q1 : Nat) : Int) = Q1 := IntWalk.i64_in _ (by omega)
          have HRow := Lib.hid HJ.out.row
          have hbase : V4.heap.size ≤ wr.heap.size := HJ.out.below.size
          have FIN := Lib.hid (show (z.subs.take (j + 1)).flatMap inC = (z.subs.take j).flatMap inC ++ [.int .i64 (Q1 : Nat)] by
            rw [List.take_add_one, hzs, List.flatMap_append, hQ1]; rfl)
          clear hzs hxs hbw hg1 hc1 hP1 hQ1 hl2z
          go_wp2_with (at_builtin; refine wpList_append_own_at _ rfl (.tmp 92) (.tmp 100) 40 rfl V4.heap.size 3 iI (.int .i64 0) 1 8 Tryz.underlying40 hI0 hI1 hI2 hI3 rfl (by decide) _ j ((z.subs.take j).flatMap inC) rfl (HRow.out.alloc _) ⟨wr.heap.size, 0, none⟩ 1 1 [.int .i64 (Q1 : Nat)] rfl rfl (cell_one_new _ _ _) (by intro u hu; simp at hu; subst hu; rfl) (by unfold maxLen; omega) (by omega) (by simp; omega) ?_; intro v' w9 hown9 hg9 _ hl9)
          have hgr : wr.grownBy w9 (Value.slice sB j sd).ownBlock := (World.grownBy_alloc wr _ _).trans hg9
          have hbn : Below V4.heap.size wr w9 := (Below.refl _ _).grown hgr hbase (fun k e => (HRow.out.lt k e).1)
          have HJ2 := Lib.hid (show SL 3 1 V4 w9 v' (j + 1) ((z.subs.take (j + 1)).flatMap inC) from ⟨HJ.out.below.trans hbn, by rw [FIN.out]; exact hown9⟩)
          clear hgr hbn hown9 hg9 hl9
          go_round
          case rel => exact ⟨j + 1, by omega, by go_num, HJ2⟩
          case measure => simp [intOf] <;> omega
        obtain rfl : l2 = j := by omega
        have hall2 : z.subs.take l2 = z.subs := List.take_of_length_le (by omega)
        clear hl2z
        have hj6 := HJ.out
        rw [hall2] at hj6
        have hnb6 := HN5.out.on HJ.out.below
        have z4 := hnb6.frozen 4
        have hrow6 : wr.ownsRow V3.heap.size 42 2 (.slice sA l1 sc) l1 (z.spots.flatMap spC) := own_keep HR4.out (fun k hk => HJ.out.below.block k (HR4.out.lt k hk).2)
        go_upto_region 21 with fail
        obtain ⟨q1, q2⟩ := hnb6.set 4 (.slice sB l2 sd)
        obtain ⟨V6, hV6⟩ : ∃ V6, V6 = wr.setCell ⟨wo.heap.size, 4, none⟩ (.slice sB l2 sd) := ⟨_, rfl⟩
        have hr1 : V6.ownsRow V3.heap.size 42 2 (.slice sA l1 sc) l1 (z.spots.flatMap spC) := by
          rw [hV6]; exact ownsRow_setCell_other hrow6 (fun e => by have := (hrow6.lt _ e).1; simp at this; omega) _
        have hr2 : V6.ownsRow V4.heap.size 3 1 (.slice sB l2 sd) l2 (z.subs.flatMap inC) := by
          rw [hV6]; exact ownsRow_setCell_other hj6.row (fun e => by have := (hj6.row.lt _ e).1; simp at this; omega) _
        rw [← hV6] at q1 q2 ⊢
        have hnb7 : NB wo V6 kd tx (.slice A0 l0 c0) (.slice sA l1 sc) (.slice sB l2 sd) (d1 : Nat) (d2 : Nat) := ⟨q1, q2⟩
        clear hV6 q1 q2 z4 b4 hnb6 hrow6 hj6 hall2 HJ
        have hO := lt_blk R.out.out
        have hbo := hnb7.below
        have hOc := (hbo.cell (p := ⟨w.heap.size + 2, 0, none⟩) hO).trans (show wo.cell? ⟨w.heap.size + 2, 0, none⟩ = some nv by rw [cell_of_row wo _ _ _ _ _ R.out.out]; rfl)
        have hOb : V6.heap[w.heap.size + 2]? = some (trA nv 0) := (hbo.block _ hO).trans R.out.out
        obtain ⟨nA, nc, env, hnc, hnc6, _⟩ := (Rr.of_own R.out.row).shape
        obtain ⟨yl, hyl⟩ : ∃ v, v = Y.length := ⟨_, rfl⟩
        have hRN0 := own_keep R.out.row (fun k hk => hbo.block k (R.out.row.lt k hk).2)
        rw [← hyl] at env hRN0
        have hyb : yl ≤ 300 := by have := R.out.n; omega
        obtain ⟨y, hy⟩ : ∃ y : Nx, y = ⟨z, upV (upV (fun _ => .slice A0 l0 c0) 1 (.slice sA l1 sc)) 2 (.slice sB l2 sd)⟩ := ⟨_, rfl⟩
        have hyc : ndC y = [.int .u8 kd, .string tx, .slice A0 l0 c0, .slice sA l1 sc, .slice sB l2 sd, .int .i64 (d1 : Nat), .int .i64 (d2 : Nat)] := by
          rw [hy, HL.out.2.1, HL.out.2.2, HDD.out.1, HDD.out.2, HXZ.out]; rfl
        have c0' := hnb7.cell 0 _ rfl
        have c1' := hnb7.cell 1 _ rfl
        have c2' := hnb7.cell 2 _ rfl
        have c3' := hnb7.cell 3 _ rfl
        have c4' := hnb7.cell 4 _ rfl
        have c5' := hnb7.cell 5 _ rfl
        have c6' := hnb7.cell 6 _ rfl
        have HRN := Lib.hid hRN0
        have HYC := Lib.hid hyc
        have HY := Lib.hid hy
        have HYL := Lib.hid hyl
        have HR1 := Lib.hid hr1
        have HR2 := Lib.hid hr2
        have HBO := Lib.hid hbo
        have HOB := Lib.hid hOb
        have HENV := Lib.hid env
        rw [env] at hOc
        obtain ⟨hi4, hy0, hy1, hy2⟩ := HI4.out
        have hsz6 : wo.heap.size ≤ V6.heap.size := hbo.size
        have HG := Lib.hid (show ∀ (o : Obj) (w10 : World), (V6.alloc o).grownBy w10 nv.ownBlock → w10.heap[w.heap.size + 2]? = some (trA nv 0) from fun o w10 hg => by
          rw [hg.block _ (by rw [alloc_size]; omega) (fun e => by have := (R.out.row.lt _ e.symm).1; omega)]
          rw [(World.grownBy_alloc V6 o none).block _ (by omega) (by simp)]; exact hOb)
        clear hr1 hr2 hbo hOb hRN0 hyc hy hyl hnb7
        go_wp2_with (at_builtin; refine wpList_append_own_at _ rfl (.tmp 105) (.tmp 107) 25 rfl (w.heap.size + 3) 44 i4 _ 7 112 Tryz.underlying25 hi4 hy0 hy1 hy2 zc7 (by decide) (.slice nA yl nc) yl (ndL Y) rfl (by have h := HRN.out.alloc (.cells #[.int .u8 kd, .string tx, .slice A0 l0 c0, .slice sA l1 sc, .slice sB l2 sd, .int .i64 (d1 : Nat), .int .i64 (d2 : Nat)] 44); rw [HENV.out] at h; exact h) ⟨V6.heap.size, 0, none⟩ 1 1 (ndC y) rfl rfl (Jk.cells_new _ _ (by rw [HYC.out])) (one7 _ (fun k => by rw [HY.out]; exact upv_one rfl rfl rfl k)) (by unfold maxLen; omega) (by omega) (by simp; omega) ?_; intro v' w10 hown10 hg10 _ hl10; obtain ⟨vA, vc, rfl, _⟩ := (Rr.of_own hown10).shape; have g0 := HG.out _ _ (by rw [HENV.out]; exact hg10); have g1 : w10.cell? ⟨w.heap.size + 2, 0, none⟩ = some nv := (by rw [cell_of_row w10 _ _ _ _ _ g0]; rfl); have g2 : w10.frozen? ⟨w.heap.size + 2, 0, none⟩ = false := (by simp [World.frozen?, g0]); rw [HENV.out] at g1)
        have hstep : SB w (w10.setCell ⟨w.heap.size + 2, 0, none⟩ (.slice vA (yl + 1) vc)) (.slice (some ⟨g, 0, none⟩) N c) (k + 1) (.slice vA (yl + 1) vc) (Y ++ [y]) Z := by
          refine SB.step R.out HBO.out (by rw [HENV.out]; exact hg10) (by rw [HENV.out]; exact hl10) (by rw [← HYL.out]; exact hown10) ?_ (by rw [HY.out]; exact hzk)
          have hown : ∀ b, nv.ownBlock = some b → w.heap.size + 3 ≤ b ∧ b < wo.heap.size := fun b e => R.out.row.lt b e
          have hOw := lt_blk R.out.out
          have hyn : y.nd = z := by rw [HY.out]
          intro j hj
          rcases (show j = 0 ∨ j = 1 ∨ j = 2 by omega) with rfl | rfl | rfl
          · obtain ⟨base, r⟩ := HX.out.rd p x HXP.out 0 (by omega)
            have ev : y.v 0 = x.v 0 := by rw [HY.out, HE.out.1, ← HL.out.1.1]; rfl
            have en : ecn y.nd 0 = ecn x.nd 0 := by rw [hyn, HXZ.out]; rfl
            have es : ecs y.nd 0 = ecs x.nd 0 := by rw [hyn, HXZ.out]; rfl
            rw [ev, en, es]
            exact ⟨⟨base, r.keep fun b hb => (below_tr R.out.below HBO.out).block b (r.lt b hb).2⟩, fun b hb => ⟨.inl (r.lt b hb).2, fun e => by have := (hown b e).1; have := (r.lt b hb).2; omega⟩⟩
          · have ev : y.v 1 = .slice sA l1 sc := by rw [HY.out]; rfl
            have hl1z : l1 = z.spots.length := by
              rw [HL.out.1.2.1, HXZ.out]; show ((Nd.on i z).spots.map (up2 f)).length = _; rw [List.length_map]; rfl
            have en : ecn y.nd 1 = l1 := by rw [hyn, hl1z]; rfl
            have es : ecs y.nd 1 = z.spots.flatMap spC := by rw [hyn]; rfl
            rw [ev, en, es]
            exact ⟨⟨V3.heap.size, Rr.of_own HR1.out⟩, fun b hb => by have h1 := (HR1.out.lt b hb).1; exact ⟨.inr (by omega), fun e => by have := (hown b e).2; omega⟩⟩
          · have ev : y.v 2 = .slice sB l2 sd := by rw [HY.out]; rfl
            have hl2z : l2 = z.subs.length := by
              rw [HL.out.1.2.2, HXZ.out]; show (z.subs.map (· + i)).length = _; rw [List.length_map]
            have en : ecn y.nd 2 = l2 := by rw [hyn, hl2z]; rfl
            have es : ecs y.nd 2 = z.subs.flatMap inC := by rw [hyn]; rfl
            rw [ev, en, es]
            exact ⟨⟨V4.heap.size, Rr.of_own HR2.out⟩, fun b hb => by have h1 := (HR2.out.lt b hb).1; exact ⟨.inr (by omega), fun e => by have := (hown b e).2; omega⟩⟩
        refine ⟨⟨k + 1, _, _, by omega, ?_, Lib.hid hstep⟩, ?_⟩
        · have hpk : p = i + k := HP.out
          have : wrap64 ((p : Int) + 1) = ((i + (k + 1) : Nat) : Int) := by
            unfold wrap64; omega
          rw [this]
        · have hpk : p = i + k := HP.out
          have : wrap64 ((p : Int) + 1) = ((p + 1 : Nat) : Int) := by
            unfold wrap64; omega
          rw [this]
          simp [intOf]; omega
end Jt
end Go.Proofs.YtnjmcldhmnpbjaaGreatDoor
