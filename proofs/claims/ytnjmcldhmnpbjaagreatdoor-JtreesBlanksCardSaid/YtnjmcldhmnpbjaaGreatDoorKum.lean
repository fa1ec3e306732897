/- The laws' helper Same: it tells whether two trees are the same. -/
import Derived.Test.YtnjmcldhmnpbjaaGreatDoorKtm
namespace Go.Proofs.YtnjmcldhmnpbjaaGreatDoor
open Go.RowKit
namespace Jt
open Jk (lt_blk below_tr fvO)

/-- A tree's nodes, to read, wherever they lie. -/
structure Trd (w : World) (A : Option Addr) (N : Nat) (X : List Nx) : Prop where
  n : N = X.length
  hi : N ≤ 9223372036854775807
  at_ : 0 < N → ∃ g, A = some ⟨g, 0, none⟩ ∧ g < w.heap.size ∧ ∀ (i : Nat) (x : Nx), X[i]? = some x → ∀ r u, (ndC x)[r]? = some u → w.cell? ⟨g, i * 7 + r, none⟩ = some u
  rd : ∀ (i : Nat) (x : Nx), X[i]? = some x → Rd w x
theorem Trd.keep {w w' : World} {A : Option Addr} {N : Nat} {X : List Nx} (h : Trd w A N X) (hb : Below w.heap.size w w') : Trd w' A N X :=
  ⟨h.n, h.hi, fun h0 => by
    obtain ⟨g, e, hg, hc⟩ := h.at_ h0
    exact ⟨g, e, Nat.lt_of_lt_of_le hg hb.size, fun i x hx r u hu => (hb.cell (p := ⟨g, i * 7 + r, none⟩) hg).trans (hc i x hx r u hu)⟩, fun i x hx => (h.rd i x hx).keep hb⟩
theorem Tr.trd {w : World} {base : Nat} {lab : Nat → Own} {A : Option Addr} {N c : Nat} {X : List Nx} (h : Tr w base lab (.slice A N c) X) : Trd w A N X := by
  obtain ⟨A', c', e, h1, h2, h3⟩ := h.row.shape
  injection e with e1 e2 e3
  subst e2
  refine ⟨rfl, by unfold maxLen at h2; omega, fun h0 => ?_, fun i x hx => h.rd hx⟩
  obtain ⟨g, cc, eA, _, hg, _, _, hc⟩ := h.cells h0
  injection eA with eA _ _
  exact ⟨g, eA, hg, hc⟩
theorem sameNode_is {x y : Nx} {vx vy : Value} {w : World} (hx : ndV x = vx) (hy : ndV y = vy) (rx : Rd w x) (ry : Rd w y) :
    Calls Tryz.prog 17 #[vx, vy] w fun e w' => e = .returned (.bool (decide (x.nd = y.nd))) ∧ Below w.heap.size w w' := by
  subst hx; subst hy; exact sameNode_any rx ry
/-- A node as it is loaded: seven literals, with its three rows as slices. -/
theorem Rd.lit {w : World} {x : Nx} (h : Rd w x) : ∃ (A0 A1 A2 : Option Addr) (n0 n1 n2 c0 c1 c2 : Nat), ndC x = [.int .u8 (x.nd.kind : Nat), .string (txt x.nd.text), .slice A0 n0 c0, .slice A1 n1 c1, .slice A2 n2 c2, .int .i64 (x.nd.span.1 : Nat), .int .i64 (x.nd.span.2 : Nat)] := by
  obtain ⟨A0, c0, e0, _⟩ := h.row (show 0 < 3 by omega)
  obtain ⟨A1, c1, e1, _⟩ := h.row (show 1 < 3 by omega)
  obtain ⟨A2, c2, e2, _⟩ := h.row (show 2 < 3 by omega)
  exact ⟨A0, A1, A2, _, _, _, c0, c1, c2, by unfold ndC; rw [e0, e1, e2]⟩
set_option maxHeartbeats 8000000 in
set_option maxRecDepth 100000 in
theorem same_any {w : World} {A B : Option Addr} {N M c d : Nat} {X Y : List Nx} (hX : Trd w A N X) (hY : Trd w B M Y) (ra rb : Int) :
    Calls Tryz.prog 11 #[.agg #[.slice A N c, .int .i64 ra], .agg #[.slice B M d, .int .i64 rb]] w fun e w' => e = .returned (.bool (decide (ra = rb ∧ X.map Nx.nd = Y.map Nx.nd))) ∧ Below w.heap.size w w' := by
  obtain ⟨W, hW⟩ : ∃ W, W = (w.alloc (trA (.slice A N c) ra)).alloc (trA (.slice B M d) rb) := ⟨_, rfl⟩
  have hb : Below w.heap.size w W := by rw [hW]; exact ((Below.refl _ _).alloc (Nat.le_refl _) _).alloc (by rw [alloc_size]; omega) _
  have xl : W.heap[w.heap.size]? = some (trA (.slice A N c) ra) := by
    rw [hW]; show ((w.heap.push _).push _)[w.heap.size]? = _
    rw [Array.getElem?_push_lt (by simp)]; simp
  have yl : W.heap[w.heap.size + 1]? = some (trA (.slice B M d) rb) := by
    rw [hW]; show ((w.heap.push _).push _)[w.heap.size + 1]? = _
    rw [Array.getElem?_push, if_pos (by simp)]
  have t0 : W.cell? ⟨w.heap.size, 0, none⟩ = some (.slice A N c) := by rw [cell_of_row W _ _ _ _ _ xl]; rfl
  have t1 : W.cell? ⟨w.heap.size, 1, none⟩ = some (.int .i64 ra) := by rw [cell_of_row W _ _ _ _ _ xl]; rfl
  have u0 : W.cell? ⟨w.heap.size + 1, 0, none⟩ = some (.slice B M d) := by rw [cell_of_row W _ _ _ _ _ yl]; rfl
  have u1 : W.cell? ⟨w.heap.size + 1, 1, none⟩ = some (.int .i64 rb) := by rw [cell_of_row W _ _ _ _ _ yl]; rfl
  have HX := Lib.hid (hX.keep hb)
  have HY := Lib.hid (hY.keep hb)
  have HB := Lib.hid hb
  have HNX := Lib.hid hX.n
  have HNY := Lib.hid hY.n
  have hhi := hX.hi
  have hhi2 := hY.hi
  have hz : w.heap.size + 1 < W.heap.size := lt_cell u0
  obtain ⟨r, hr⟩ : ∃ r, r = decide (ra = rb ∧ X.map Nx.nd = Y.map Nx.nd) := ⟨_, rfl⟩
  rw [← hr]
  have HR := Lib.hid hr
  clear hX hY hb xl yl hr
  go_enter Tryz.func11, Tryz.ntmps11
  go_upto_region 1 with fail
  rw [← hW]
  clear hW
  by_cases h1 : ra = rb
  case neg =>
    obtain rfl : r = false := HR.out.trans (decide_eq_false fun h => h1 h.1)
    go_wp2_with fail
    go_ret
    exact ⟨rfl, HB.out⟩
  subst h1
  by_cases h2 : N = M
  case neg =>
    obtain rfl : r = false := HR.out.trans (decide_eq_false fun h => h2 (by have h3 := congrArg List.length h.2; rw [List.length_map, List.length_map, ← HNX.out, ← HNY.out] at h3; exact h3))
    go_wp2_with fail
    go_ret
    exact ⟨rfl, HB.out⟩
  subst h2
  have HT := Lib.hid (And.intro t0 u0)
  have HW0 := Lib.hid (Below.refl W.heap.size W)
  go_wp2_with fail
  clear t0 t1 u0 u1
  go_loopw [5] (fun i wr => ∃ k : Nat, k ≤ N ∧ i = .int .i64 k ∧ Hid (Below W.heap.size W wr) ∧ ∀ j, j < k → (X.map Nx.nd)[j]? = (Y.map Nx.nd)[j]?) (fun i _ => N - (intOf i).toNat)
  case atStart => exact ⟨0, Nat.zero_le _, rfl, HW0, fun j h => absurd h (by omega)⟩
  obtain ⟨k, hk, rfl, HW1, hsame⟩ := hrel
  have t0 := (HW1.out.cell (p := ⟨w.heap.size, 0, none⟩) (by show w.heap.size < _; omega)).trans HT.out.1
  have u0 := (HW1.out.cell (p := ⟨w.heap.size + 1, 0, none⟩) (by exact hz)).trans HT.out.2
  by_cases hlt : k < N
  case pos =>
    obtain ⟨g, rfl, hg, hc⟩ := (HX.out.keep HW1.out).at_ (by omega)
    obtain ⟨g2, rfl, hg2, hc2⟩ := (HY.out.keep HW1.out).at_ (by omega)
    have HS := Lib.hid hsame
    clear hsame
    obtain ⟨x, hx⟩ : ∃ x, X[k]? = some x := ⟨_, List.getElem?_eq_getElem (by have := HNX.out; omega)⟩
    obtain ⟨y, hy⟩ : ∃ y, Y[k]? = some y := ⟨_, List.getElem?_eq_getElem (by have := HNY.out; omega)⟩
    have hcx := hc k x hx
    have hcy := hc2 k y hy
    have rx := (HX.out.keep HW1.out).rd k x hx
    have ry := (HY.out.keep HW1.out).rd k y hy
    obtain ⟨A0, A1, A2, n0, n1, n2, c0, c1, c2, lx⟩ := rx.lit
    obtain ⟨B0, B1, B2, m0, m1, m2, d0, d1, d2, ly⟩ := ry.lit
    rw [lx] at hcx
    rw [ly] at hcy
    have HVX := Lib.hid (show ndV x = _ from congrArg (fun l : List Value => Value.agg l.toArray) lx)
    have HVY := Lib.hid (show ndV y = _ from congrArg (fun l : List Value => Value.agg l.toArray) ly)
    have Kt0 := fun s : Kept wr => s.cell t0
    have Ku0 := fun s : Kept wr => s.cell u0
    have Ka0 : ∀ s : Kept wr, s.wx.cell? ⟨g, k * 7, none⟩ = some _ := fun s => s.cell (hcx 0 _ rfl)
    have Ka1 := fun s : Kept wr => s.cell (hcx 1 _ rfl)
    have Ka2 := fun s : Kept wr => s.cell (hcx 2 _ rfl)
    have Ka3 := fun s : Kept wr => s.cell (hcx 3 _ rfl)
    have Ka4 := fun s : Kept wr => s.cell (hcx 4 _ rfl)
    have Ka5 := fun s : Kept wr => s.cell (hcx 5 _ rfl)
    have Ka6 := fun s : Kept wr => s.cell (hcx 6 _ rfl)
    have Kb0 : ∀ s : Kept wr, s.wx.cell? ⟨g2, k * 7, none⟩ = some _ := fun s => s.cell (hcy 0 _ rfl)
    have Kb1 := fun s : Kept wr => s.cell (hcy 1 _ rfl)
    have Kb2 := fun s : Kept wr => s.cell (hcy 2 _ rfl)
    have Kb3 := fun s : Kept wr => s.cell (hcy 3 _ rfl)
    have Kb4 := fun s : Kept wr => s.cell (hcy 4 _ rfl)
    have Kb5 := fun s : Kept wr => s.cell (hcy 5 _ rfl)
    have Kb6 := fun s : Kept wr => s.cell (hcy 6 _ rfl)
    have CS := Lib.hid (fun (wx : World) (h : Below wr.heap.size wr wx) => sameNode_is HVX.out HVY.out (rx.keep h) (ry.keep h))
    obtain ⟨q, hq⟩ : ∃ q, q = decide (x.nd = y.nd) := ⟨_, rfl⟩
    rw [← hq] at CS
    have HQ := Lib.hid hq
    have HE := Lib.hid (show (X.map Nx.nd)[k]? = some x.nd ∧ (Y.map Nx.nd)[k]? = some y.nd from by rw [List.getElem?_map, List.getElem?_map, hx, hy]; exact ⟨rfl, rfl⟩)
    simp only [List.toArray] at CS
    clear hg hg2 hc hc2 hcx hcy rx ry lx ly hx hy hq HVX HVY
    cases q with
    | false =>
      obtain rfl : r = false := HR.out.trans (decide_eq_false fun h => by
        have h1 := HE.out.1
        have h2 := HE.out.2
        rw [h.2, h2] at h1
        exact of_decide_eq_false HQ.out.symm (Option.some.inj h1).symm)
      go_upto_region 6 with fail
      refine reg_lit (C := fun wx => ∃ s : Kept wr, wx = s.wx) (by kernel_rfl) (by kernel_rfl) ⟨⟨_, (Below.refl _ _).drew⟩, rfl⟩ ?_
      iterate 10 (go_big_quiet_step (fail))
      go_big_quiet_want
      go_big_quiet_op
      refine ⟨.bool false, fun s => (CS.out s.wx s.held).mono ?_, ?_⟩
      · rintro e w3 ⟨rfl, hb⟩; exact Kept.out hb
      go_big_quiet_on
      iterate 1 (go_big_quiet_step (fail))
      refine wpQuiet_nil ?_
      rintro w2 ⟨⟨wx, ox0⟩, e⟩
      have ox : Below wr.heap.size wr w2 := by rw [e]; exact ox0
      clear e ox0
      go_wp2_with fail
      go_ret
      exact ⟨rfl, below_tr (below_tr HB.out HW1.out) ox⟩
    | true =>
      have hstep : ∀ j, j < k + 1 → (X.map Nx.nd)[j]? = (Y.map Nx.nd)[j]? := fun j hj => by
        by_cases h : j < k
        · exact HS.out j h
        · obtain rfl : j = k := by omega
          rw [HE.out.1, HE.out.2, of_decide_eq_true HQ.out.symm]
      have HST := Lib.hid hstep
      clear hstep
      go_upto_region 6 with fail
      refine reg_lit (C := fun wx => ∃ s : Kept wr, wx = s.wx) (by kernel_rfl) (by kernel_rfl) ⟨⟨_, (Below.refl _ _).drew⟩, rfl⟩ ?_
      iterate 10 (go_big_quiet_step (fail))
      go_big_quiet_want
      go_big_quiet_op
      refine ⟨.bool true, fun s => (CS.out s.wx s.held).mono ?_, ?_⟩
      · rintro e w3 ⟨rfl, hb⟩; exact Kept.out hb
      go_big_quiet_on
      iterate 1 (go_big_quiet_step (fail))
      refine wpQuiet_nil ?_
      rintro w2 ⟨⟨wx, ox0⟩, e⟩
      have ox : Below wr.heap.size wr w2 := by rw [e]; exact ox0
      clear e ox0
      go_wp2_with fail
      refine ⟨⟨k + 1, by omega, by go_num, Lib.hid (below_tr HW1.out ox), HST.out⟩, ?_⟩
      simp [intOf] <;> omega
  obtain rfl : N = k := by omega
  have hyes : X.map Nx.nd = Y.map Nx.nd := by
    apply List.ext_getElem?
    intro j
    by_cases hj : j < N
    · exact hsame j hj
    · rw [List.getElem?_eq_none, List.getElem?_eq_none]
      · rw [List.length_map, ← HNY.out]; omega
      · rw [List.length_map, ← HNX.out]; omega
  obtain rfl : r = true := HR.out.trans (decide_eq_true (by rw [hyes]; simp))
  clear hsame
  go_wp2_with fail
  go_ret
  exact ⟨rfl, below_tr HB.out HW1.out⟩
end Jt
end Go.Proofs.YtnjmcldhmnpbjaaGreatDoor
