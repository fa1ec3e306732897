/- The laws' helper Same: it tells whether two trees are the same. -/
import Derived.Test.YtdclhepjoifpiaaGreatDoorKtm
import Derived.Test.YtdclhepjoifpiaaGreatDoorKdm
import Derived.Deep.CutRange
import Derived.Deep.DeepCutAuto
import Derived.Test.YtdclhepjoifpiaaGreatDoorRows
import Derived.Test.YtdclhepjoifpiaaGreatDoorAm
import Derived.Test.YtdclhepjoifpiaaGreatDoorVam
import Derived.ProofKit
import Derived.OpenShut
import Derived.ChangeOld
namespace Go.Proofs.YtdclhepjoifpiaaGreatDoor
open Go.RowKit
namespace Jt
open Jk (lt_blk below_tr fvO)

/-- A tree's nodes, to read, wherever they lie. -/
structure Trd (w : World) (A : Option Addr) (N : Nat) (X : List Nx) : Prop where
  n : N = X.length
  hi : N ≤ 9223372036854775807
  at_ : 0 < N → ∃ g, A = some ⟨g, 0, none⟩ ∧ g < w.heap.size ∧ ∀ (i : Nat) (x : Nx), X[i]? = some x → ∀ r u, (ndC x)[r]? = some u → w.cell? ⟨g, i * 7 + r, none⟩ = some u
  rd : ∀ (i : Nat) (x : Nx), X[i]? = some x → Rd w x
theorem Trd.keep {w w' : World} {A : Option Addr} {N : Nat} {X : List Nx} (h : Trd w A N X) (hb : Below w.heap.size w w') : Trd w' A N X :=
  ⟨h.n, h.hi, fun h0 => by
    obtain ⟨g, e, hg, hc⟩ := h.at_ h0
    exact ⟨g, e, Nat.lt_of_lt_of_le hg hb.size, fun i x hx r u hu => (hb.cell (p := ⟨g, i * 7 + r, none⟩) hg).trans (hc i x hx r u hu)⟩, fun i x hx => (h.rd i x hx).keep hb⟩
theorem Tr.trd {w : World} {base : Nat} {lab : Nat → Own} {A : Option Addr} {N c : Nat} {X : List Nx} (h : Tr w base lab (.slice A N c) X) : Trd w A N X := by
  obtain ⟨A', c', e, h1, h2, h3⟩ := h.row.shape
  injection e with e1 e2 e3
  subst e2
  refine ⟨rfl, by unfold maxLen at h2; omega, fun h0 => ?_, fun i x hx => h.rd hx⟩
  obtain ⟨g, cc, eA, _, hg, _, _, hc⟩ := h.cells h0
  injection eA with eA _ _
  exact ⟨g, eA, hg, hc⟩
theorem sameNode_is {x y : Nx} {vx vy : Value} {w : World} (hx : ndV x = vx) (hy : ndV y = vy) (rx : Rd w x) (ry : Rd w y) :
    Calls Tryz.prog 17 #[vx, vy] w fun e w' => e = .returned (.bool (decide (x.nd = y.nd))) ∧ Below w.heap.size w w' := by
  subst hx; subst hy; exact sameNode_any rx ry
/-- A node as it is loaded: seven literals, with its three rows as slices. -/
theorem Rd.lit {w : World} {x : Nx} (h : Rd w x) : ∃ (A0 A1 A2 : Option Addr) (n0 n1 n2 c0 c1 c2 : Nat), ndC x = [.int .u8 (x.nd.kind : Nat), .string (txt x.nd.text), .slice A0 n0 c0, .slice A1 n1 c1, .slice A2 n2 c2, .int .i64 (x.nd.span.1 : Nat), .int .i64 (x.nd.span.2 : Nat)] := by
  obtain ⟨A0, c0, e0, _⟩ := h.row (show 0 < 3 by omega)
  obtain ⟨A1, c1, e1, _⟩ := h.row (show 1 < 3 by omega)
  obtain ⟨A2, c2, e2, _⟩ := h.row (show 2 < 3 by omega)
  exact ⟨A0, A1, A2, _, _, _, c0, c1, c2, by unfold ndC; rw [e0, e1, e2]⟩
set_option maxHeartbeats 8000000 in
set_option maxRecDepth 100000 in
theorem same_any {w : World} {A B : Option Addr} {N M c d : Nat} {X Y : List Nx} (hX : Trd w A N X) (hY : Trd w B M Y) (ra rb : Int) :
    Calls Tryz.prog 11 #[.agg #[.slice A N c, .int .i64 ra], .agg #[.slice B M d, .int .i64 rb]] w fun e w' => e = .returned (.bool (decide (ra = rb ∧ X.map Nx.nd = Y.map Nx.nd))) ∧ Below w.heap.size w w' := by
  obtain ⟨W, hW⟩ : ∃ W, W = (w.alloc (trA (.slice A N c) ra)).alloc (trA (.slice B M d) rb) := ⟨_, rfl⟩
  have hb : Below w.heap.size w W := by rw [hW]; exact ((Below.refl _ _).alloc (Nat.le_refl _) _).alloc (by rw [alloc_size]; omega) _
  have xl : W.heap[w.heap.size]? = some (trA (.slice A N c) ra) := by
    rw [hW]; show ((w.heap.push _).push _)[w.heap.size]? = _
    rw [Array.getElem?_push_lt (by simp)]; simp
  have yl : W.heap[w.heap.size + 1]? = some (trA (.slice B M d) rb) := by
    rw [hW]; show ((w.heap.push _).push _)[w.heap.size + 1]? = _
    rw [Array.getElem?_push, if_pos (by simp)]
  have t0 : W.cell? ⟨w.heap.size, 0, none⟩ = some (.slice A N c) := by rw [cell_of_row W _ _ _ _ _ xl]; rfl
  have t1 : W.cell? ⟨w.heap.size, 1, none⟩ = some (.int .i64 ra) := by rw [cell_of_row W _ _ _ _ _ xl]; rfl
  have u0 : W.cell? ⟨w.heap.size + 1, 0, none⟩ = some (.slice B M d) := by rw [cell_of_row W _ _ _ _ _ yl]; rfl
  have u1 : W.cell? ⟨w.heap.size + 1, 1, none⟩ = some (.int .i64 rb) := by rw [cell_of_row W _ _ _ _ _ yl]; rfl
  have HX := Lib.hid (hX.keep hb)
  have HY := Lib.hid (hY.keep hb)
  have HB := Lib.hid hb
  have HNX := Lib.hid hX.n
  have HNY := Lib.hid hY.n
  have hhi := hX.hi
  have hhi2 := hY.hi
  have hz : w.heap.size + 1 < W.heap.size := lt_cell u0
  obtain ⟨r, hr⟩ : ∃ r, r = decide (ra = rb ∧ X.map Nx.nd = Y.map Nx.nd) := ⟨_, rfl⟩
  rw [← hr]
  have HR := Lib.hid hr
  clear hX hY hb xl yl hr
  go_enter Tryz.func11, Tryz.ntmps11
  go_upto_region 1 with fail
  rw [← hW]
  clear hW
  by_cases h1 : ra = rb
  case neg =>
    obtain rfl : r = false := HR.out.trans (decide_eq_false fun h => h1 h.1)
    go_wp2_with fail
    go_ret
    exact ⟨rfl, HB.out⟩
  subst h1
  by_cases h2 : N = M
  case neg =>
    obtain rfl : r = false := HR.out.trans (decide_eq_false fun h => h2 (by have h3 := congrArg List.length h.2; rw [List.length_map, List.length_map, ← HNX.out, ← HNY.out] at h3; exact h3))
    go_wp2_with fail
    go_ret
    exact ⟨rfl, HB.out⟩
  subst h2
  have HT := Lib.hid (And.intro t0 u0)
  have HW0 := Lib.hid (Below.refl W.heap.size W)
  go_wp2_with fail
  clear t0 t1 u0 u1
  go_loopw [5] (fun i wr => ∃ k : Nat, k ≤ N ∧ i = .int .i64 k ∧ Hid (Below W.heap.size W wr) ∧ ∀ j, j < k → (X.map Nx.nd)[j]? = (Y.map Nx.nd)[j]?) (fun i _ => N - (intOf i).toNat)
  case atStart => exact ⟨0, Nat.zero_le _, rfl, HW0, fun j h => absurd h (by omega)⟩
  obtain ⟨k, hk, rfl, HW1, hsame⟩ := hrel
  have t0 := (HW1.out.cell (p := ⟨w.heap.size, 0, none⟩) (by show w.heap.size < _; omega)).trans HT.out.1
  have u0 := (HW1.out.cell (p := ⟨w.heap.size + 1, 0, none⟩) (by exact hz)).trans HT.out.2
  by_cases hlt : k < N
  case pos =>
    obtain ⟨g, rfl, hg, hc⟩ := (HX.out.keep HW1.out).at_ (by omega)
    obtain ⟨g2, rfl, hg2, hc2⟩ := (HY.out.keep HW1.out).at_ (by omega)
    have HS := Lib.hid hsame
    clear hsame
    obtain ⟨x, hx⟩ : ∃ x, X[k]? = some x := ⟨_, List.getElem?_eq_getElem (by have := HNX.out; omega)⟩
    obtain ⟨y, hy⟩ : ∃ y, Y[k]? = some y := ⟨_, List.getElem?_eq_getElem (by have := HNY.out; omega)⟩
    have hcx := hc k x hx
    have hcy := hc2 k y hy
    have rx := (HX.out.keep HW1.out).rd k x hx
    have ry := (HY.out.keep HW1.out).rd k y hy
    obtain ⟨A0, A1, A2, n0, n1, n2, c0, c1, c2, lx⟩ := rx.lit
    obtain ⟨B0, B1, B2, m0, m1, m2, d0, d1, d2, ly⟩ := ry.lit
    rw [lx] at hcx
    rw [ly] at hcy
    have HVX := Lib.hid (show ndV x = _ from congrArg (fun l : List Value => Value.agg l.toArray) lx)
    have HVY := Lib.hid (show ndV y = _ from congrArg (fun l : List Value => Value.agg l.toArray) ly)
    have Kt0 := fun s : Kept wr => s.cell t0
    have Ku0 := fun s : Kept wr => s.cell u0
    have Ka0 : ∀ s : Kept wr, s.wx.cell? ⟨g, k * 7, none⟩ = some _ := fun s => s.cell (hcx 0 _ rfl)
    have Ka1 := fun s : Kept wr => s.cell (hcx 1 _ rfl)
    have Ka2 := fun s : Kept wr => s.cell (hcx 2 _ rfl)
    have Ka3 := fun s : Kept wr => s.cell (hcx 3 _ rfl)
    have Ka4 := fun s : Kept wr => s.cell (hcx 4 _ rfl)
    have Ka5 := fun s : Kept wr => s.cell (hcx 5 _ rfl)
    have Ka6 := fun s : Kept wr => s.cell (hcx 6 _ rfl)
    have Kb0 : ∀ s : Kept wr, s.wx.cell? ⟨g2, k * 7, none⟩ = some _ := fun s => s.cell (hcy 0 _ rfl)
    have Kb1 := fun s : Kept wr => s.cell (hcy 1 _ rfl)
    have Kb2 := fun s : Kept wr => s.cell (hcy 2 _ rfl)
    have Kb3 := fun s : Kept wr => s.cell (hcy 3 _ rfl)
    have Kb4 := fun s : Kept wr => s.cell (hcy 4 _ rfl)
    have Kb5 := fun s : Kept wr => s.cell (hcy 5 _ rfl)
    have Kb6 := fun s : Kept wr => s.cell (hcy 6 _ rfl)
    have CS := Lib.hid (fun (wx : World) (h : Below wr.heap.size wr wx) => sameNode_is HVX.out HVY.out (rx.keep h) (ry.keep h))
    obtain ⟨q, hq⟩ : ∃ q, q = decide (x.nd = y.nd) := ⟨_, rfl⟩
    rw [← hq] at CS
    have HQ := Lib.hid hq
    have HE := Lib.hid (show (X.map Nx.nd)[k]? = some x.nd ∧ (Y.map Nx.nd)[k]? = some y.nd from by rw [List.getElem?_map, List.getElem?_map, hx, hy]; exact ⟨rfl, rfl⟩)
    simp only [List.toArray] at CS
    clear hg hg2 hc hc2 hcx hcy rx ry lx ly hx hy hq HVX HVY
    cases q with
    | false =>
      obtain rfl : r = false := HR.out.trans (decide_eq_false fun h => by
        have h1 := HE.out.1
        have h2 := HE.out.2
        rw [h.2, h2] at h1
        exact of_decide_eq_false HQ.out.symm (Option.some.inj h1).symm)
      go_upto_region 6 with fail
      refine reg_lit (C := fun wx => ∃ s : Kept wr, wx = s.wx) (by kernel_rfl) (by kernel_rfl) ⟨⟨_, (Below.refl _ _).drew⟩, rfl⟩ ?_
      iterate 10 (go_big_quiet_step (fail))
      go_big_quiet_want
      go_big_quiet_op
      refine ⟨.bool false, fun s => (CS.out s.wx s.held).mono ?_, ?_⟩
      · rintro e w3 ⟨rfl, hb⟩; exact Kept.out hb
      go_big_quiet_on
      iterate 1 (go_big_quiet_step (fail))
      refine wpQuiet_nil ?_
      rintro w2 ⟨⟨wx, ox0⟩, e⟩
      have ox : Below wr.heap.size wr w2 := by rw [e]; exact ox0
      clear e ox0
      go_wp2_with fail
      go_ret
      exact ⟨rfl, below_tr (below_tr HB.out HW1.out) ox⟩
    | true =>
      have hstep : ∀ j, j < k + 1 → (X.map Nx.nd)[j]? = (Y.map Nx.nd)[j]? := fun j hj => by
        by_cases h : j < k
        · exact HS.out j h
        · obtain rfl : j = k := by omega
          rw [HE.out.1, HE.out.2, of_decide_eq_true HQ.out.symm]
      have HST := Lib.hid hstep
      clear hstep
      go_upto_region 6 with fail
      refine reg_lit (C := fun wx => ∃ s : Kept wr, wx = s.wx) (by kernel_rfl) (by kernel_rfl) ⟨⟨_, (Below.refl _ _).drew⟩, rfl⟩ ?_
      iterate 10 (go_big_quiet_step (fail))
      go_big_quiet_want
      go_big_quiet_op
      refine ⟨.bool true, fun s => (CS.out s.wx s.held).mono ?_, ?_⟩
      · rintro e w3 ⟨rfl, hb⟩; exact Kept.out hb
      go_big_quiet_on
      iterate 1 (go_big_quiet_step (fail))
      refine wpQuiet_nil ?_
      rintro w2 ⟨⟨wx, ox0⟩, e⟩
      have ox : Below wr.heap.size wr w2 := by rw [e]; exact ox0
      clear e ox0
      go_wp2_with fail
      refine ⟨⟨k + 1, by omega, by go_num, Lib.hid (below_tr HW1.out ox), HST.out⟩, ?_⟩
      simp [intOf] <;> omega
  obtain rfl : N = k := by omega
  have hyes : X.map Nx.nd = Y.map Nx.nd := by
    apply List.ext_getElem?
    intro j
    by_cases hj : j < N
    · exact hsame j hj
    · rw [List.getElem?_eq_none, List.getElem?_eq_none]
      · rw [List.length_map, ← HNY.out]; omega
      · rw [List.length_map, ← HNX.out]; omega
  obtain rfl : r = true := HR.out.trans (decide_eq_true (by rw [hyes]; simp))
  clear hsame
  go_wp2_with fail
  go_ret
  exact ⟨rfl, below_tr HB.out HW1.out⟩
end Jt
end Go.Proofs.YtdclhepjoifpiaaGreatDoor
/- The laws' helper Spoil: it turns a tree's own memory alone. -/
namespace Go.Proofs.YtdclhepjoifpiaaGreatDoor
open Go.RowKit
namespace Jt
namespace R9
open Jk (lt_blk below_tr)

/-- A row's memory, as large as its room. -/
def RowM (wr : World) (base top g : Nat) (e : TypeId) (size : Nat) (v : Value) : Prop :=
  v = .slice none 0 0 ∨ ∃ gj n cap cur, v = .slice (some ⟨gj, 0, none⟩) n cap ∧ wr.heap[gj]? = some (.cells cur e (0, 0)) ∧ n ≤ cap ∧ cap ≤ maxLen ∧ cap * size ≤ cur.size ∧ base ≤ gj ∧ gj < top ∧ gj ≠ g
/-- A tree that is spoilt, up to a node. -/
structure SPI (w wr : World) (base top g N : Nat) (X : List Nx) (i : Nat) : Prop where
  below : Below base w wr
  out : ∀ b, (b < base ∨ top ≤ b) → wr.heap[b]? = w.heap[b]?
  nd : ∃ cur, wr.heap[g]? = some (.cells cur 44 (0, 0)) ∧ N * 7 ≤ cur.size ∧ ∀ (k : Nat) (x : Nx), i ≤ k → X[k]? = some x → ∀ (r : Nat) (u : Value), (ndC x)[r]? = some u → cur[k * 7 + r]? = some u
  rows : ∀ (k : Nat) (x : Nx), X[k]? = some x → ∀ j, j < 3 → RowM wr base top g (ety j) (esz j) (x.v j)
  gb : base ≤ g ∧ g < top
section
variable {w wr wx : World} {base top g N i : Nat} {X : List Nx}
theorem RowM.set {e e' : TypeId} {size size' : Nat} {v v' : Value} {gj n cap : Nat} {u : Value} (h : RowM wr base top g e size v) (h' : v' = .slice (some ⟨gj, 0, none⟩) n cap) (_hv : RowM wr base top g e' size' v') (k : Nat) : RowM (wr.setCell ⟨gj, k, none⟩ u) base top g e size v := by
  rcases h with h | ⟨g2, n2, cap2, cur2, e1, hg, r⟩
  · exact .inl h
  · by_cases hgg : g2 = gj
    · subst hgg
      exact .inr ⟨g2, n2, cap2, _, e1, heap_setCell_same wr g2 k cur2 e u hg, r.1, r.2.1, by simpa using r.2.2.1, r.2.2.2⟩
    · exact .inr ⟨g2, n2, cap2, cur2, e1, by rw [heap_setCell_other _ _ _ _ hgg]; exact hg, r⟩
/-- A store into one of the rows. -/
theorem SPI.row {x : Nx} {k j gj n cap c : Nat} {u : Value} (h : SPI w wr base top g N X i) (hx : X[k]? = some x) (hj : j < 3) (hv : x.v j = .slice (some ⟨gj, 0, none⟩) n cap) : SPI w (wr.setCell ⟨gj, c, none⟩ u) base top g N X i := by
  rcases h.rows k x hx j hj with e | ⟨g2, n2, cap2, cur2, e1, hg, _, _, _, b1, b2, b3⟩
  · rw [hv] at e; cases e
  rw [hv] at e1
  injection e1 with e1 _ _
  injection e1 with e1
  injection e1 with e1
  subst e1
  refine ⟨h.below.setCell (show base ≤ gj from b1) _, fun b hb => by rw [heap_setCell_other _ _ _ _ (show b ≠ gj by omega)]; exact h.out b hb, ?_, fun k' x' hx' j' hj' => RowM.set (h.rows k' x' hx' j' hj') hv (h.rows k x hx j hj) c, h.gb⟩
  obtain ⟨cur, q1, q2, q3⟩ := h.nd
  exact ⟨cur, by rw [heap_setCell_other _ _ _ _ (show g ≠ gj from fun e => b3 e.symm)]; exact q1, q2, q3⟩
theorem SPI.drew (h : SPI w wr base top g N X i) (n : Nat) : SPI w (wr.drewN n) base top g N X i := ⟨⟨h.below.os, h.below.tape, h.below.output, h.below.size, h.below.block⟩, h.out, h.nd, h.rows, h.gb⟩
/-- A row of a node, as slices. -/
theorem SPI.sl {x : Nx} {k j : Nat} (h : SPI w wr base top g N X i) (hx : X[k]? = some x) (hj : j < 3) : ∃ A n cap, x.v j = .slice A n cap ∧ n ≤ cap ∧ cap ≤ maxLen ∧ (0 < cap → ∃ gj, A = some ⟨gj, 0, none⟩) ∧ ∀ gj, A = some ⟨gj, 0, none⟩ → ∀ c, c < cap * esz j → (∃ u, wr.cell? ⟨gj, c, none⟩ = some u) ∧ wr.frozen? ⟨gj, c, none⟩ = false := by
  rcases h.rows k x hx j hj with e | ⟨g2, n2, cap2, cur2, e1, hg, r1, r2, r3, b1, b2, b3⟩
  · exact ⟨none, 0, 0, e, Nat.le_refl _, Nat.zero_le _, fun h => by omega, fun gj h => by cases h⟩
  · refine ⟨some ⟨g2, 0, none⟩, n2, cap2, e1, r1, r2, fun _ => ⟨g2, rfl⟩, fun gj hgj c hc => ?_⟩
    injection hgj with hgj
    injection hgj with hgj
    subst hgj
    have hlt : c < cur2.size := by omega
    exact ⟨⟨cur2[c], by rw [cell_of_row wr g2 c cur2 _ _ hg, Array.getElem?_eq_getElem hlt]⟩, by simp [World.frozen?, hg]⟩
/-- The node itself is spoilt. -/
theorem SPI.node (h : SPI w wr base top g N X i) (u0 u1 u2 u3 u4 u5 u6 : Value) :
    SPI w (((((((wr.setCell ⟨g, i * 7, none⟩ u0).setCell ⟨g, i * 7 + 1, none⟩ u1).setCell ⟨g, i * 7 + 2, none⟩ u2).setCell ⟨g, i * 7 + 3, none⟩ u3).setCell ⟨g, i * 7 + 4, none⟩ u4).setCell ⟨g, i * 7 + 5, none⟩ u5).setCell ⟨g, i * 7 + 6, none⟩ u6) base top g N X (i + 1) := by
  have one : ∀ (wq : World) (r : Nat) (u : Value), r < 7 → SPI w wq base top g N X (i + 1) → SPI w (wq.setCell ⟨g, i * 7 + r, none⟩ u) base top g N X (i + 1) := fun wq r u hr hq => by
    obtain ⟨cur, q1, q2, q3⟩ := hq.nd
    have hb := hq.gb
    refine ⟨hq.below.setCell (show base ≤ g from hb.1) _, fun b hbb => by rw [heap_setCell_other _ _ _ _ (show b ≠ g by omega)]; exact hq.out b hbb, ⟨_, heap_setCell_same wq g _ cur _ u q1, by simpa using q2, fun k x hk hx r' u' hu' => ?_⟩, fun k x hx j hj => ?_, hb⟩
    · have hr' : r' < 7 := (List.getElem?_eq_some_iff.1 hu').1
      rw [Array.getElem?_setIfInBounds_ne (by omega)]
      exact q3 k x hk hx r' u' hu'
    · rcases hq.rows k x hx j hj with e | ⟨g2, n2, cap2, cur2, e1, hg, r1, r2, r3, b1, b2, b3⟩
      · exact .inl e
      · exact .inr ⟨g2, n2, cap2, cur2, e1, by rw [heap_setCell_other _ _ _ _ (show g2 ≠ g from b3)]; exact hg, r1, r2, r3, b1, b2, b3⟩
  have h0 : SPI w wr base top g N X (i + 1) := ⟨h.below, h.out, by obtain ⟨cur, q1, q2, q3⟩ := h.nd; exact ⟨cur, q1, q2, fun k x hk => q3 k x (by omega)⟩, h.rows, h.gb⟩
  have s0 : SPI w (wr.setCell ⟨g, i * 7, none⟩ u0) base top g N X (i + 1) := one wr 0 u0 (by omega) h0
  exact one _ 6 _ (by omega) (one _ 5 _ (by omega) (one _ 4 _ (by omega) (one _ 3 _ (by omega) (one _ 2 _ (by omega) (one _ 1 _ (by omega) s0)))))
theorem SPI.start {wx W : World} {lab : Nat → Own} {n : Nat} (h : Tr wx base lab (.slice (some ⟨g, 0, none⟩) n n) X) (hW : Below wx.heap.size wx W) : SPI W W base wx.heap.size g n X 0 := by
  refine ⟨Below.refl _ _, fun _ _ => rfl, ?_, fun k x hx j hj => ?_, h.row.lt g rfl⟩
  · rcases h.row.2 with ⟨e, _⟩ | ⟨g2, cap, cur, e1, hb, hg, h1, h2, h3, h4⟩
    · cases e
    · injection e1 with e1 e2 e3
      injection e1 with e1
      injection e1 with e1
      subst e1; subst e3
      refine ⟨cur, by rw [hW.block _ (lt_blk hg)]; exact hg, h3, fun k x _ hx r u hu => ?_⟩
      have hr : r < 7 := (List.getElem?_eq_some_iff.1 hu).1
      have e := ndL_at X k x r hx hr
      rw [← h4, hu, List.getElem?_take] at e
      split at e
      · rw [← Array.getElem?_toList]; exact e
      · cases e
  · obtain ⟨r, l⟩ := h.e k x hx j hj
    rcases r.2 with ⟨e, _⟩ | ⟨g2, cap, cur, e1, hb, hg, h1, h2, h3, _⟩
    · exact .inl e
    · refine .inr ⟨g2, _, cap, cur, e1, by rw [hW.block _ (lt_blk hg)]; exact hg, h1, h2, h3, hb, lt_blk hg, fun e => ?_⟩
      have l1 := l g2 (by rw [e1]; rfl)
      have l2 := h.l g rfl
      rw [e, l2] at l1; cases l1
theorem SPI.cell {x : Nx} {r : Nat} {u : Value} (h : SPI w wr base top g N X i) (hx : X[i]? = some x) (hu : (ndC x)[r]? = some u) : wr.cell? ⟨g, i * 7 + r, none⟩ = some u := by
  obtain ⟨cur, q1, _, q3⟩ := h.nd
  rw [cell_of_row wr g _ cur _ _ q1]; exact q3 i x (Nat.le_refl _) hx r u hu
theorem SPI.free (h : SPI w wr base top g N X i) (k : Nat) : wr.frozen? ⟨g, k, none⟩ = false := by
  obtain ⟨cur, q1, _, _⟩ := h.nd
  simp [World.frozen?, q1]
set_option maxHeartbeats 16000000 in
set_option maxRecDepth 100000 in
theorem spoil_any {wx : World} {lab : Nat → Own} {A : Option Addr} (h : Tr wx base lab (.slice A N N) X) (hn : N = X.length) (h0 : 0 < N) (hN : N ≤ 1000000) (hb : Below wx.heap.size wx w) :
    Calls Tryz.prog 13 #[.agg #[.slice A N N, .int .i64 0]] w fun e w' => e = .returned (.tuple #[]) ∧ Below base w w' ∧ ∀ b, wx.heap.size ≤ b → b < w.heap.size → w'.heap[b]? = w.heap[b]? := by
  obtain ⟨g, cc, eA, _⟩ := h.cells (by omega)
  injection eA with eA e2 e3
  subst eA
  clear e2 e3
  have hbase : base ≤ wx.heap.size := by have := h.row.lt g rfl; omega
  obtain ⟨W, hW⟩ : ∃ W, W = w.alloc (trA (.slice (some ⟨g, 0, none⟩) N N) 0) := ⟨_, rfl⟩
  have hbW : Below w.heap.size w W := by rw [hW]; exact (Below.refl _ _).alloc (Nat.le_refl _) _
  have t0 : W.cell? ⟨w.heap.size, 0, none⟩ = some (.slice (some ⟨g, 0, none⟩) N N) := by rw [hW, World.cell?_alloc_at _ _ _ _ rfl]; rfl
  have HSP := Lib.hid (SPI.start h (below_tr hb hbW))
  have HBW := Lib.hid hbW
  have HBX := Lib.hid hb
  have HNX := Lib.hid hn
  have hsx : wx.heap.size ≤ w.heap.size := hb.size
  clear h hb hn hbW
  go_enter Tryz.func13, Tryz.ntmps13
  go_upto_region 1 with fail
  rw [← hW]
  clear hW
  go_wp2_with fail
  clear t0
  go_loopw [3] (fun s wr => ∃ i : Nat, i ≤ N ∧ s = .int .i64 i ∧ Hid (SPI W wr base wx.heap.size g N X i)) (fun s _ => N - (intOf s).toNat)
  case atStart => exact ⟨0, Nat.zero_le _, rfl, HSP⟩
  case round =>
    clear HSP
    obtain ⟨i, hi, rfl, HS0⟩ := hrel
    by_cases hlt : i < N
    case neg =>
      obtain rfl : i = N := by omega
      go_wp2_with fail
      refine bodyPost_end (results_none rfl _ _ _) rfl ?_
      refine ⟨rfl, (HBW.out.mono (by omega)).trans HS0.out.below, fun b h1 h2 => (HS0.out.out b (.inr h1)).trans (HBW.out.block b h2)⟩
    obtain ⟨x, hx⟩ : ∃ x, X[i]? = some x := ⟨_, List.getElem?_eq_getElem (by have := HNX.out; omega)⟩
    obtain ⟨A0, n0, c0, e0, hnc0, hcm0, hA0, _⟩ := HS0.out.sl hx (show 0 < 3 by omega)
    have y0 := HS0.out.cell hx (r := 2) (u := .slice A0 n0 c0) (by rw [← e0]; rfl)
    have hcm0' : c0 ≤ 9223372036854775807 := by unfold maxLen at hcm0; omega
    have E0 := Lib.hid e0
    clear e0 hcm0
    go_upto_region 5 with fail
    go_quiet (fail)
    go_upto_region 6 with fail
    obtain ⟨w0, hw0, H0⟩ : ∃ w0, w0 = wr.drewN nq ∧ Hid (SPI W w0 base wx.heap.size g N X i) := ⟨_, rfl, Lib.hid (HS0.out.drew _)⟩
    rw [← hw0]
    clear hw0 y0
    go_wp2_with fail
    obtain ⟨wo0, hwo0⟩ : ∃ wo, wo = wr := ⟨_, rfl⟩
    subst hwo0
    go_loopw [5] (fun s wr => ∃ j : Nat, j ≤ c0 ∧ s = .int .i64 j ∧ Hid (SPI W wr base wx.heap.size g N X i)) (fun s _ => c0 - (intOf s).toNat)
    case atStart => exact ⟨0, Nat.zero_le _, rfl, H0⟩
    case round =>
      clear H0
      obtain ⟨j, hj, rfl, HQ0⟩ := hrel
      by_cases hjc : j < c0
      case pos =>
        obtain ⟨gj, rfl⟩ := hA0 (by omega)
        obtain ⟨_, _, _, e9, _, _, _, hcell⟩ := HQ0.out.sl hx (show 0 < 3 by omega)
        rw [E0.out] at e9
        injection e9 with e9 e10 e11
        subst e9; subst e10; subst e11
        obtain ⟨⟨u9, k9⟩, f9⟩ := hcell gj rfl (j) (by show j < c0 * 1; omega)
        have HN := Lib.hid (HQ0.out.row (c := j) (u := .string ⟨#[115, 112, 111, 105, 108, 116]⟩) hx (show 0 < 3 by omega) E0.out)
        clear hcell
        go_wp2_with fail
        refine ⟨⟨j + 1, by omega, by go_num, HN⟩, ?_⟩
        simp [intOf] <;> omega
      obtain rfl : j = c0 := by omega
      obtain ⟨A1, n1, c1, e1, hnc1, hcm1, hA1, _⟩ := HQ0.out.sl hx (show 1 < 3 by omega)
      have y1 := HQ0.out.cell hx (r := 3) (u := .slice A1 n1 c1) (by rw [← e1]; rfl)
      have hcm1' : c1 ≤ 9223372036854775807 := by unfold maxLen at hcm1; omega
      have E1 := Lib.hid e1
      clear e1 hcm1
      go_upto_region 10 with fail
      go_quiet (fail)
      go_upto_region 11 with fail
      obtain ⟨w1, hw1, H1⟩ : ∃ w1, w1 = wr.drewN nq ∧ Hid (SPI W w1 base wx.heap.size g N X i) := ⟨_, rfl, Lib.hid (HQ0.out.drew _)⟩
      rw [← hw1]
      clear hw1 y1
      go_wp2_with fail
      obtain ⟨wo1, hwo1⟩ : ∃ wo, wo = wr := ⟨_, rfl⟩
      subst hwo1
      go_loopw [7] (fun s wr => ∃ j : Nat, j ≤ c1 ∧ s = .int .i64 j ∧ Hid (SPI W wr base wx.heap.size g N X i)) (fun s _ => c1 - (intOf s).toNat)
      case atStart => exact ⟨0, Nat.zero_le _, rfl, H1⟩
      case round =>
        clear H1
        obtain ⟨j, hj, rfl, HQ1⟩ := hrel
        by_cases hjc : j < c1
        case pos =>
          obtain ⟨gj, rfl⟩ := hA1 (by omega)
          obtain ⟨_, _, _, e9, _, _, _, hcell⟩ := HQ1.out.sl hx (show 1 < 3 by omega)
          rw [E1.out] at e9
          injection e9 with e9 e10 e11
          subst e9; subst e10; subst e11
          obtain ⟨⟨u9, k9⟩, f9⟩ := hcell gj rfl (j * 2) (by show j * 2 < c1 * 2; omega)
          have HN := Lib.hid (HQ1.out.row (c := j * 2) (u := .int .i64 (-88)) hx (show 1 < 3 by omega) E1.out)
          clear hcell
          go_wp2_with fail
          refine ⟨⟨j + 1, by omega, by go_num, HN⟩, ?_⟩
          simp [intOf] <;> omega
        obtain rfl : j = c1 := by omega
        obtain ⟨A2, n2, c2, e2, hnc2, hcm2, hA2, _⟩ := HQ1.out.sl hx (show 2 < 3 by omega)
        have y2 := HQ1.out.cell hx (r := 4) (u := .slice A2 n2 c2) (by rw [← e2]; rfl)
        have hcm2' : c2 ≤ 9223372036854775807 := by unfold maxLen at hcm2; omega
        have E2 := Lib.hid e2
        clear e2 hcm2
        go_upto_region 15 with fail
        go_quiet (fail)
        go_upto_region 16 with fail
        obtain ⟨w2, hw2, H2⟩ : ∃ w2, w2 = wr.drewN nq ∧ Hid (SPI W w2 base wx.heap.size g N X i) := ⟨_, rfl, Lib.hid (HQ1.out.drew _)⟩
        rw [← hw2]
        clear hw2 y2
        go_wp2_with fail
        obtain ⟨wo2, hwo2⟩ : ∃ wo, wo = wr := ⟨_, rfl⟩
        subst hwo2
        go_loopw [9] (fun s wr => ∃ j : Nat, j ≤ c2 ∧ s = .int .i64 j ∧ Hid (SPI W wr base wx.heap.size g N X i)) (fun s _ => c2 - (intOf s).toNat)
        case atStart => exact ⟨0, Nat.zero_le _, rfl, H2⟩
        case round =>
          clear H2
          obtain ⟨j, hj, rfl, HQ2⟩ := hrel
          by_cases hjc : j < c2
          case pos =>
            obtain ⟨gj, rfl⟩ := hA2 (by omega)
            obtain ⟨_, _, _, e9, _, _, _, hcell⟩ := HQ2.out.sl hx (show 2 < 3 by omega)
            rw [E2.out] at e9
            injection e9 with e9 e10 e11
            subst e9; subst e10; subst e11
            obtain ⟨⟨u9, k9⟩, f9⟩ := hcell gj rfl (j) (by show j < c2 * 1; omega)
            have HN := Lib.hid (HQ2.out.row (c := j) (u := .int .i64 (-88)) hx (show 2 < 3 by omega) E2.out)
            clear hcell
            go_wp2_with fail
            refine ⟨⟨j + 1, by omega, by go_num, HN⟩, ?_⟩
            simp [intOf] <;> omega
          obtain rfl : j = c2 := by omega
          have k0 := HQ2.out.cell hx (r := 0) (u := _) rfl
          have k1 := HQ2.out.cell hx (r := 1) (u := _) rfl
          have k2 := HQ2.out.cell hx (r := 2) (u := _) rfl
          have k3 := HQ2.out.cell hx (r := 3) (u := _) rfl
          have k4 := HQ2.out.cell hx (r := 4) (u := _) rfl
          have k5 := HQ2.out.cell hx (r := 5) (u := _) rfl
          have k6 := HQ2.out.cell hx (r := 6) (u := _) rfl
          rw [Nat.add_zero] at k0
          have fr := HQ2.out.free
          have HN := Lib.hid (HQ2.out.node (.int .u8 0) (.string ⟨#[115, 112, 111, 105, 108, 116]⟩) (.slice none 0 0) (.slice none 0 0) (.slice none 0 0) (.int .i64 0) (.int .i64 0))
          go_wp2_with fail
          refine ⟨⟨i + 1, by omega, by go_num, HN⟩, ?_⟩
          simp [intOf] <;> omega
end
end R9
end Jt
end Go.Proofs.YtdclhepjoifpiaaGreatDoor
/- What every law over bytes has: a slice of bytes that came in (ArgB), a twin of it with marks behind, whether it is left as it was. -/
namespace Go.Proofs.YtdclhepjoifpiaaGreatDoor
open Go.ChangeShapes Go.WideShapes Go.ChangeAt Go.RowKit
namespace Jk

def ArgB (w : World) (A : Option Addr) (n c : Nat) (l : List UInt8) : Prop := n = l.length ∧ n ≤ c ∧ c ≤ maxLen ∧ Byt w w.heap.size A l ∧ (A = none → c = 0)
/-- The marks behind a twin. -/
def mark3 : List UInt8 := [167, 167, 167]

def TwinPost (w : World) (l : List UInt8) (n : Nat) (e : Ending) (w' : World) : Prop :=
  e = .returned (.slice (some ⟨w.heap.size, 0, none⟩) n (n + 3)) ∧ Byt w' w'.heap.size (some ⟨w.heap.size, 0, none⟩) (l ++ mark3) ∧ Below w.heap.size w w' ∧ w.heap.size < w'.heap.size

set_option maxRecDepth 100000 in
set_option maxHeartbeats 1000000 in
theorem twin_any {l : List UInt8} {A : Option Addr} {n c : Nat} {w : World} (ha : ArgB w A n c l) (hs : n ≤ 65536) :
    Calls Tryz.prog 8 #[.slice A n c] w (TwinPost w l n) := by
  obtain ⟨hn, hnc, hcm, hA, hnil⟩ := ha
  have Hn := Lib.hid hn
  have Hnil := Lib.hid hnil
  clear hn hnil
  obtain ⟨i0, hi, hz0, hz1, hz2⟩ := info_parts (show (Tryz.prog.info? 5).map (fun i => (i.zero, i.size, i.bytes)) = some (some (.int .u8 0), 1, 1) by kernel_rfl)
  go_enter Tryz.func8, Tryz.ntmps8
  go_wp2_with (first
    | (at_make; refine wpList_make_own _ rfl _ _ 22 rfl w.heap.size 5 i0 (.int .u8 0) 1 Tryz.underlying22 hi hz0 hz1 .i64 .i64 _ (n + 3) rfl rfl (by simp) (by rw [hz2]; omega) (by unfold maxLen; omega) (Nat.le_refl _) ?_; intro w1 hown1 hg1; have hb1 : Below w.heap.size w w1 := (Below.refl _ _).grown hg1 (Nat.le_refl _) (fun _ h => by cases h))
    | (at_builtin; refine wpList_append_fits_any _ rfl (.tmp 8) (.tmp 9) 22 rfl w.heap.size 5 i0 1 Tryz.underlying22 hi hz1 w.heap.size 0 (n + 3) [] rfl hown1 A n c (bytV l) rfl (by have := Hn.out; rw [bytV_len]; omega) (fun h => ⟨by subst h; have := byt_none hA; have h2 := Hn.out; rw [this] at h2; exact h2, Hnil.out h⟩) (fun ad h => by subst h; exact bytV_cells (hA.below hb1)) (bytV_one l) (by omega) ?_; intro w2 hown2 hg2; simp only [Nat.zero_add, List.nil_append] at hown2)
    | (at_builtin; refine wpList_append_fits _ rfl (.tmp 11) (.tmp 12) 22 rfl w.heap.size 5 i0 1 Tryz.underlying22 hi hz1 w.heap.size n (n + 3) (bytV l) rfl (hown2.alloc _) ⟨w2.heap.size, 0, none⟩ 3 3 (bytV mark3) rfl rfl (cells_new _ _ rfl) (bytV_one mark3) (by omega) ?_; intro w3 hown3 hg3))
  have hb2 := hb1.grown hg2 hb1.size (fun _ h => by cases h; exact Nat.le_refl _)
  have hb3 := (hb2.alloc hb2.size _).grown hg3 (by have := hb2.size; simp; omega) (fun _ h => by cases h; exact Nat.le_refl _)
  have h3 : w3.ownsRow w.heap.size 5 1 (.slice (some ⟨w.heap.size, 0, none⟩) (n + 3) (n + 3)) (n + 3) (bytV (l ++ mark3)) := by simpa [bytV] using hown3
  obtain ⟨A3, c3, e3, hx1, hx2, hx3, hB3, hx4⟩ := own_form h3
  have hlt := (h3.lt _ rfl).2
  obtain rfl : A3 = some ⟨w.heap.size, 0, none⟩ := by injection e3 with e _ _; exact e.symm
  clear hx1 hx2 hx3 hx4 e3 hown1 hg1 hb1 hown2 hg2 hb2 hown3 hg3 h3
  go_wp2
  go_ret
  exact ⟨rfl, hB3, hb3, hlt⟩
set_option maxRecDepth 100000 in
set_option maxHeartbeats 4000000 in
theorem left_any {l : List UInt8} {B B' g : Nat} {A : Option Addr} (n c : Nat) {w : World} (hn : n = l.length) (hT : Byt w B (some ⟨g, 0, none⟩) (l ++ mark3)) (hA : Byt w B' A l) (hs : n ≤ 65536) :
    Calls Tryz.prog 12 #[.slice (some ⟨g, 0, none⟩) n (n + 3), .slice A n c] w fun e w' => e = .returned (.bool true) ∧ w = w' := by
  have hT1 : Byt w B (some ⟨g, 0, none⟩) l := by have := hT.take l.length; simpa using this
  have hlen : (l ++ mark3).length = n + 3 := by rw [hn]; simp [mark3]
  have v1 := conv_bytes (l := l) (w := w) n (n + 3) hn hT1
  have v2 := conv_bytes (l := l) (w := w) n c hn hA
  obtain ⟨U, hU⟩ : ∃ U, U = txt l := ⟨_, rfl⟩
  rw [← hU] at v1 v2
  obtain ⟨g', off', e, _, hc⟩ := hT.at_ (k := 0) (by omega)
  injection e with e
  injection e with e1 e2
  subst e1; subst e2
  have hk : ∀ m, m < 3 → w.cell? ⟨g, n + m, none⟩ = some (.int .u8 167) := fun m hm => by
    have := hc (n + m) (by omega)
    rw [Nat.zero_add] at this
    rw [this, bt_app, if_neg (by omega), show n + m - l.length = m by omega]
    match m, hm with
    | 0, _ => rfl
    | 1, _ => rfl
    | 2, _ => rfl
  have HK := Lib.hid hk
  clear hn hc hlen hT hA hT1 hk hU
  go_enter Tryz.func12, Tryz.ntmps12
  go_wp2_with fail
  go_loop [6] (fun s => ∃ m : Nat, m ≤ 3 ∧ s = .int .i64 ((n : Int) + m)) (fun s => n + 3 - (intOf s).toNat)
  case atStart => exact ⟨0, by omega, by simp⟩
  case round =>
    obtain ⟨m, hm, rfl⟩ := hrel
    by_cases hlt : m < 3
    · have hcell := HK.out m hlt
      go_wp2_with fail
      go_round
      case rel => exact ⟨m + 1, by omega, by go_num⟩
      case measure => simp [intOf]; omega
    · obtain rfl : m = 3 := by omega
      go_wp2_with fail
      go_ret
      exact ⟨by simp, rfl⟩
theorem Byt.front {w : World} {B : Nat} {A : Option Addr} {l r : List UInt8} (h : Byt w B A (l ++ r)) : Byt w B A l := by have := h.take l.length; simpa using this
/-- A slice of bytes that came in. -/
theorem argb_of {H : Type} {enc : TypeId × Value → H} {W : World} {a : Option Addr} {n c : Nat} {d : DataW H} {p : List MemPlace} (h : DataW.Trod enc Tryz.prog W 0 (fun _ => true) true 22 (.slice a n c) d p) : ∃ l, ArgB W a n c l := by
  obtain ⟨fuel, hf⟩ := h
  rcases open_ints Tryz.underlying22 Tryz.underlying5 (by kernel_rfl) hf with ⟨hcs, _⟩ | ⟨x, l, c, zs, hcs, _, hl, hm, hz, _, hcell, hwz⟩
  · simp [Value.cells] at hcs
    obtain ⟨rfl, rfl, rfl⟩ := hcs
    exact ⟨[], rfl, Nat.le_refl _, Nat.zero_le _, fun h => absurd h (by simp), fun _ => rfl⟩
  · simp [Value.cells] at hcs
    obtain ⟨rfl, rfl, rfl⟩ := hcs
    simp at hz
    refine ⟨(zs.take n).map (fun x => UInt8.ofNat x.toNat), by simp; omega, hl, hm, fun h0 => ?_, fun h => by cases h⟩
    simp at h0
    obtain ⟨b, off, spot⟩ := x
    have hspot : spot = none := by simpa [Addr.add] using World.cell?_spot (hcell 0 (by omega))
    subst hspot
    refine ⟨b, off, rfl, World.block_lt_of_cell? W _ (hcell 0 (by omega)), fun k hk => ?_⟩
    simp at hk
    have hb := range_u8 hwz k
    have := hcell k (by omega)
    rw [addAt] at this
    rw [this]
    have e : bt ((zs.take n).map (fun x => UInt8.ofNat x.toNat)) k = zs.getD k 0 := by
      have hk2 : k < zs.length := by omega
      simp only [List.getElem?_eq_getElem hk2, Option.getD_some] at hb
      simp only [bt, List.getD_eq_getElem?_getD, List.getElem?_map, List.getElem?_take, show k < n by omega, if_true, List.getElem?_eq_getElem hk2, Option.map_some, Option.getD_some]
      rw [UInt8.toNat_ofNat_of_lt' (by simp [UInt8.size]; omega)]
      omega
    exact congrArg (fun x => some (Value.int .u8 x)) e.symm
end Jk
end Go.Proofs.YtdclhepjoifpiaaGreatDoor
