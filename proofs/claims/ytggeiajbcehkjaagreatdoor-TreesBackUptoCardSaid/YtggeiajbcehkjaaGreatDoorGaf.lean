/- What landed: the parser's top, add. -/
import Derived.Test.YtggeiajbcehkjaaGreatDoorGad
import Derived.Test.YtggeiajbcehkjaaGreatDoorGae
import Derived.Deep.RegionLaw
import Derived.Deep.CutRange
namespace Go.Proofs.YtggeiajbcehkjaaGreatDoor
open Go.RowKit
namespace Jt

/-- append as a step of a region that draws, onto a row of one's own. -/
theorem step_own {P : Program} {w : World} {ops : Array Oper} {o : Oper} {a : Act} {K : Act → World → Prop} {Q : Exit → Act → World → Prop} {E : Prop} (hgd : o.guard = none) (s x : Operand) (t : TypeId)
    (ho : o.op = .call { callee := .builtin .append, args := #[s, x], argTypes := #[t, t] })
    (base : Nat) (e : TypeId) (i : TypeInfo) (z : Value) (size bytes : Nat) (h1 : P.underlying t = some (.slice e)) (h2 : P.info? e = some i) (h3 : i.zero = some z) (h4 : i.size = size) (h5 : i.bytes = bytes) (h6 : z.cells.size = size) (h7 : 0 < size)
    (v : Value) (n : Nat) (xs : List Value) (hs : a.eval s = v) (hown : w.ownsRow base e size v n xs) (ad : Addr) (m c : Nat) (news : List Value) (hx : a.eval x = .slice (some ad) m c) (hl : news.length = m * size) (hnews : ∀ j u, news[j]? = some u → w.cell? (ad.add j) = some u) (hone : ∀ u ∈ news, u.oneCell' = true)
    (h63 : n + m ≤ maxLen) (hbytes : (n + m) * bytes ≤ 140737488355328) (hbase : base ≤ w.heap.size)
    (hK : ∀ v' w', w'.ownsRow base e size v' (n + m) (xs ++ news) → w.grownBy w' v.ownBlock → (v'.ownBlock = v.ownBlock ∨ v'.ownBlock = some w.heap.size) → K (a.put o.dst v') w') :
    if Region.wanted o (yielded ops a.tmps) = true then Oper.wp P o a w K Q else E := by
  have hw : Region.wanted o (yielded ops a.tmps) = true := by simp [Region.wanted, hgd]
  rw [if_pos hw]
  obtain ⟨v', w', hrun, r1, r2, _, r3⟩ := run_append_own_at (P := P) w base t o.type e i z size bytes h1 h2 h3 h4 h5 h6 h7 v n xs hown ad m c news hl hnews hone h63 hbytes hbase
  unfold Oper.wp
  simp [execOp, ho, resolve, invoke, builtin, hs, hx, hrun, Result.andThen]
  exact hK v' w' r1 r2 r3
section
variable {w : World} {P : Nat} {bv sv nv : Value} {wd : Nat} {sk : List (Nat × Bool)} {lab : Nat → Own} {op : Nat → Prop} {mb : Nat → Nat} {ks : Nat → List Bs} {X : List Nx}
theorem PM.po (h : PM w P bv wd sk lab op mb ks sv nv X) : PO w P bv wd sv nv := h.obj
/-- The stack as a slice; its last element. -/
theorem PM.topc {a : Nat} {m : Bool} {S : List (Nat × Bool)} (h : PM w P bv wd ((a, m) :: S) lab op mb ks sv nv X) : ∃ g c, sv = .slice (some ⟨g, 0, none⟩) (S.length + 1) c ∧ S.length + 1 ≤ c ∧ c ≤ maxLen ∧ w.cell? ⟨g, S.length, none⟩ = some (skC mb (a, m)) := by
  have hs := h.stk
  obtain ⟨A, c, e, h1, h2, _⟩ := (Rr.of_own hs).shape
  rcases hs.2 with ⟨_, e0⟩ | ⟨g, cap, cur, rfl, hb, hg, _⟩
  · simp at e0
  · injection e with e1 e2 e3
    subst e3
    refine ⟨g, cap, rfl, h1, h2, ?_⟩
    have := hs.cells (g := g) rfl S.length (skC mb (a, m)) (by rw [skL_cons, List.getElem?_append_right (by rw [skL_len]; exact Nat.le_refl _), skL_len, Nat.sub_self]; rfl)
    rw [addAt, Nat.zero_add] at this
    exact this
theorem top_any {a : Nat} {m : Bool} {S : List (Nat × Bool)} (h : PM w P bv wd ((a, m) :: S) lab op mb ks sv nv X) (hd : S.length ≤ 256) :
    Calls Tryz.prog 140 #[.pointer (some ⟨P, 0, none⟩)] w fun e w' => e = .returned (skC mb (a, m)) ∧ Below w.heap.size w w' := by
  obtain ⟨g, c, rfl, hc, hc6, htop⟩ := h.topc
  obtain ⟨v, hv⟩ : ∃ v, v = skC mb (a, m) := ⟨_, rfl⟩
  rw [← hv] at htop ⊢
  obtain ⟨n, hn⟩ : ∃ n, n = S.length := ⟨_, rfl⟩
  rw [← hn] at htop hc hd
  have hP := h.po
  rw [← hn] at hP
  have c2 := hP.cells.2.2.1
  have K2 := fun s : Kept w => s.cell c2
  have KT := fun s : Kept w => s.cell htop
  have hw1 : IntKind.i64.wrap (((n : Int) + 1) - 1) = n := by rw [show ((n : Int) + 1) - 1 = n by omega]; exact IntWalk.i64_in _ (by omega)
  have hw2 : (((n : Int) + 1) - 1).toNat = n := by omega
  clear hP h hn htop c2 hv
  go_enter Tryz.func140, Tryz.ntmps140
  go_upto_region 1 with fail
  refine reg_lit (C := fun wx => ∃ s : Kept w, wx = s.wx) (by kernel_rfl) (by kernel_rfl) ⟨⟨_, (Below.refl _ _).drew⟩, rfl⟩ ?_
  iterate 13 (go_big_quiet_step (fail))
  refine wpQuiet_nil ?_
  rintro _ ⟨⟨wx, ox⟩, rfl⟩
  go_wp2_with fail
  go_ret
  exact ⟨rfl, ox⟩
/-- One more node. -/
theorem push_done {w5 : World} {o : Obj} {v' : Value} {n0 : Nd} (h : PM w P bv wd sk lab op mb ks sv nv X) (hg : (w.alloc o).grownBy w5 nv.ownBlock) (ho : w5.ownsRow (P + 1) 59 7 v' (X.length + 1) (ndL X ++ ndC ⟨n0, nil0⟩))
    (hl : v'.ownBlock = nv.ownBlock ∨ v'.ownBlock = some (w.alloc o).heap.size) (hk : n0.keys = []) (hs : n0.spots = []) (hu : n0.subs = []) :
    PM (w5.setCell ⟨P, 3, none⟩ v') P bv wd sk (labS lab v' .nd) (fun i => op i ∨ i = X.length) mb ks sv v' (X ++ [⟨n0, nil0⟩]) ∧ (X ++ [(⟨n0, nil0⟩ : Nx)]).map Nx.nd = X.map Nx.nd ++ [n0] ∧
      (∀ b, b < w.heap.size → labS lab v' .nd b = lab b) ∧ Below P w (w5.setCell ⟨P, 3, none⟩ v') ∧ ∀ b, b < w.heap.size → b ≠ P → lab b = .no → (w5.setCell ⟨P, 3, none⟩ v').heap[b]? = w.heap[b]? := by
  have h1 := h.below ((Below.refl _ _).alloc (Nat.le_refl _) o)
  have hlt := h1.lt
  refine ⟨h1.push hg ho hl hk hs hu, by simp, fun b hb => ?_, ?_, fun b hb hbP hbl => ?_⟩
  · exact labS_old hl h1.nt.l b (by simp; omega)
  · have b1 : Below P w (w.alloc o) := (Below.refl _ _).alloc (Nat.le_of_lt h.lt) o
    exact (b1.grown hg (Nat.le_of_lt hlt) fun k e => by have := (h1.nt.lt k e).1; omega).setCell (Nat.le_refl _) _
  · rw [heap_setCell_other _ _ _ _ hbP, hg.block b (by simp; omega) fun e => by rw [h1.nt.l b e.symm] at hbl; cases hbl]
    exact (World.grownBy_alloc w o none).block b hb (by simp)
theorem NT.blk {base : Nat} {v : Value} (h : NT w base lab op v X) (h0 : 0 < X.length) : ∃ g c, v = .slice (some ⟨g, 0, none⟩) X.length c ∧ v.ownBlock = some g := by
  obtain ⟨g, c, e, _⟩ := h.shape h0
  exact ⟨g, c, e, by rw [e]; rfl⟩
set_option maxRecDepth 100000 in
theorem mt_list {n : Nat} (hn : n = Tryz.prog.types.size + 100) (u : Value) (w : World) : (method n 182 u "inarch/jtrees.node").run Tryz.prog w = .ok (397, u) w := by subst hn; kernel_rfl
set_option maxRecDepth 100000 in
theorem mt_dict {n : Nat} (hn : n = Tryz.prog.types.size + 100) (u : Value) (w : World) : (method n 185 u "inarch/jtrees.node").run Tryz.prog w = .ok (180, u) w := by subst hn; kernel_rfl
set_option maxRecDepth 100000 in
theorem cf_list (u : Value) (w : World) : (callFunc 397 #[u]).run Tryz.prog w = .ok (.enter 397 #[u]) w := by kernel_rfl
set_option maxRecDepth 100000 in
theorem cf_dict (u : Value) (w : World) : (callFunc 180 #[u]).run Tryz.prog w = .ok (.enter 180 #[u]) w := by kernel_rfl
theorem inv_any (mb : Nat → Nat) (a : Nat) (m : Bool) : ∃ tn pv fn, skC mb (a, m) = .iface tn pv ∧ (∀ (n : Nat) (_ : n = Tryz.prog.types.size + 100) (w : World), (method n tn pv "inarch/jtrees.node").run Tryz.prog w = .ok (fn, pv) w) ∧
    (∀ w : World, (callFunc fn #[pv]).run Tryz.prog w = .ok (.enter fn #[pv]) w) ∧ ∀ w : World, Calls Tryz.prog fn #[pv] w fun e w' => e = .returned (.int .i64 (a : Nat)) ∧ Below w.heap.size w w' := by
  cases m with
  | false => exact ⟨_, _, _, rfl, fun _ hn w => mt_list hn _ w, fun w => cf_list _ w, fun w => node_list _ w⟩
  | true => exact ⟨_, _, _, rfl, fun _ hn w => mt_dict hn _ w, fun w => cf_dict _ w, fun w => node_dict _ _ w⟩
theorem map_set {X : List Nx} {a : Nat} {x : Nx} {f : Nd → Nd} {vs : Nat → Value} (hx : X[a]? = some x) : (X.set a ⟨f x.nd, vs⟩).map Nx.nd = (X.map Nx.nd).modify a f := by
  apply List.ext_getElem?
  intro i
  have ha : a < X.length := (List.getElem?_eq_some_iff.1 hx).1
  rw [List.getElem?_map, List.getElem?_modify, List.getElem?_set, List.getElem?_map]
  by_cases h : a = i
  · subst h
    rw [if_pos rfl, if_pos ha, hx]
    show some (f x.nd) = some (if a = a then f x.nd else x.nd)
    rw [if_pos rfl]
  · rw [if_neg h]
    cases X[i]? with
    | none => rfl
    | some y => show some y.nd = some (if a = i then f y.nd else y.nd); rw [if_neg h]
/-- A node's Subs have one more. -/
theorem sub_done {w5 : World} {a xl g : Nat} {x : Nx} {o : Obj} {v' : Value} (h : PM w P bv wd sk lab op mb ks sv nv X) (hx : X[a]? = some x) (hg : (w.alloc o).grownBy w5 (x.v 2).ownBlock)
    (ho : w5.ownsRow (P + 1) 3 1 v' (x.nd.subs.length + 1) (x.nd.subs.flatMap inC ++ [.int .i64 (xl : Nat)])) (hl : v'.ownBlock = (x.v 2).ownBlock ∨ v'.ownBlock = some (w.alloc o).heap.size) (hnb : nv.ownBlock = some g) :
    PM (w5.setCell ⟨g, a * 7 + 4, none⟩ v') P bv wd sk (labS lab v' (.fld 2 a)) op mb ks sv nv (X.set a ⟨Nd.addSub xl x.nd, upV x.v 2 v'⟩) ∧ (X.set a ⟨Nd.addSub xl x.nd, upV x.v 2 v'⟩).map Nx.nd = (X.map Nx.nd).modify a (Nd.addSub xl) ∧
      (∀ b, b < w.heap.size → labS lab v' (.fld 2 a) b = lab b) ∧ Below P w (w5.setCell ⟨g, a * 7 + 4, none⟩ v') ∧ ∀ b, b < w.heap.size → lab b = .no → (w5.setCell ⟨g, a * 7 + 4, none⟩ v').heap[b]? = w.heap[b]? := by
  have h1 := h.below ((Below.refl _ _).alloc (Nat.le_refl _) o)
  have hE := h1.nt.e a x hx 2 (by omega)
  have hlt := h1.lt
  refine ⟨h1.field (j := 2) hx (by omega) hg ?_ hl ⟨rfl, rfl, rfl⟩ ?_ hnb, map_set (f := Nd.addSub xl) hx, fun b hb => ?_, ?_, fun b hb hbl => ?_⟩
  · show w5.ownsRow (P + 1) 3 1 v' (x.nd.subs ++ [xl]).length ((x.nd.subs ++ [xl]).flatMap inC)
    rw [List.length_append, List.flatMap_append]
    exact ho
  · intro k hk hk2
    have : k = 0 ∨ k = 1 := by omega
    rcases this with rfl | rfl <;> exact ⟨rfl, rfl⟩
  · exact labS_old hl hE.l b (by simp; omega)
  · have b1 : Below P w (w.alloc o) := (Below.refl _ _).alloc (Nat.le_of_lt h.lt) o
    have hgl := (h.nt.lt g hnb).1
    exact (b1.grown hg (Nat.le_of_lt hlt) fun k e => by have := (hE.r.lt k e).1; omega).setCell (by show P ≤ g; omega) _
  · rw [heap_setCell_other _ _ _ _ (show b ≠ g from fun e => by rw [e, h.nt.l g hnb] at hbl; cases hbl), hg.block b (by simp; omega) fun e => by rw [hE.l b e.symm] at hbl; cases hbl]
    exact (World.grownBy_alloc w o none).block b hb (by simp)
/-- What add leaves. -/
def AddL (w : World) (P : Nat) (bv : Value) (wd : Nat) (sk : List (Nat × Bool)) (lab : Nat → Own) (op : Nat → Prop) (mb : Nat → Nat) (ks : Nat → List Bs) (sv : Value) (X : List Nx) (n0 : Nd) (e : Ending) (w' : World) : Prop :=
  e = .returned (.tuple #[]) ∧ Below P w w' ∧ ∃ lab' nv' X', PM w' P bv wd sk lab' (fun i => op i ∨ i = X.length) mb ks sv nv' X' ∧ X'.map Nx.nd = topSub sk (X.map Nx.nd) ++ [n0] ∧ (∀ b, b < w.heap.size → lab' b = lab b) ∧ ∀ b, b < w.heap.size → b ≠ P → lab b = .no → w'.heap[b]? = w.heap[b]?
theorem zc7 : (Value.agg #[.int .u8 0, .string ⟨#[]⟩, .slice none 0 0, .slice none 0 0, .slice none 0 0, .int .i64 0, .int .i64 0]).cells.size = 7 := by simp [Value.cells]
theorem one7 (x : Nx) (h : ∀ k, (x.v k).oneCell' = true) : ∀ u ∈ ndC x, u.oneCell' = true := by
  intro u hu
  simp [ndC] at hu
  rcases hu with rfl | rfl | rfl | rfl | rfl | rfl | rfl <;> first | rfl | exact h _
set_option maxRecDepth 100000 in
set_option maxHeartbeats 4000000 in
theorem add_on {a : Nat} {m : Bool} {S : List (Nat × Bool)} {k f t : Nat} {kd : Nat} {T : Bs} (h : PM w P bv wd ((a, m) :: S) lab op mb ks sv nv X) (hd : S.length ≤ 256) (ha : a < X.length) (hX : X.length ≤ 1000000) {x : Nx} (hx : X[a]? = some x) (hsub : x.nd.subs.length ≤ 1000000) :
    Calls Tryz.prog 175 #[.pointer (some ⟨P, 0, none⟩), .agg #[.int .u8 (k : Nat), .int .i64 (f : Nat), .int .i64 (t : Nat)], .int .u8 (kd : Nat), .string (txt T)] w
      (AddL w P bv wd ((a, m) :: S) lab op mb ks sv X ⟨kd, T, [], [], [], (f, t)⟩) := by
  obtain ⟨i0, hi, hz0, hz1, hz2⟩ := info_parts (show (Tryz.prog.info? 3).map (fun i => (i.zero, i.size, i.bytes)) = some (some (.int .i64 0), 1, 8) by kernel_rfl)
  obtain ⟨i4, hi4, hy0, hy1, hy2⟩ := info_parts (show (Tryz.prog.info? 59).map (fun i => (i.zero, i.size, i.bytes)) = some (some (.agg #[.int .u8 0, .string ⟨#[]⟩, .slice none 0 0, .slice none 0 0, .slice none 0 0, .int .i64 0, .int .i64 0]), 7, 112) by kernel_rfl)
  have HW := Lib.hid h.lt
  obtain ⟨w1, hw1⟩ : ∃ w1, w1 = w.alloc (.cells #[.int .u8 (k : Nat), .int .i64 (f : Nat), .int .i64 (t : Nat)] 145) := ⟨_, rfl⟩
  have hb1 : Below w.heap.size w w1 := by rw [hw1]; exact (Below.refl _ _).alloc (Nat.le_refl _) _
  have HM1 := Lib.hid (h.below hb1)
  have HB1 := Lib.hid hb1
  obtain ⟨g, c, hnv, hnb⟩ := h.nt.blk (by omega)
  have hE0 := h.nt.e a x hx 2 (by omega)
  have hg0 := (h.nt.lt g hnb).2
  obtain ⟨sg, sc, hsv, _, _, _⟩ := h.topc
  subst hsv
  have c2 : ∀ o, (w.alloc o).cell? ⟨P, 2, none⟩ = some (.slice (some ⟨sg, 0, none⟩) (S.length + 1) sc) := fun o => by rw [World.cell?_alloc_lt _ _ _ h.lt]; exact h.po.cells.2.2.1
  obtain ⟨n, hn⟩ : ∃ n, n = S.length + 1 := ⟨_, rfl⟩
  have HN := Lib.hid hn
  have hn0 : 0 < n := by omega
  rw [← hn] at c2
  subst hnv
  have K3 := fun s : Kept w1 => s.cell HM1.out.po.cells.2.2.2
  obtain ⟨tn, pv, fn, hsk, hmt0, hcf0, hnd0⟩ := inv_any mb a m
  have hmt := Lib.hid hmt0
  have hcf := Lib.hid hcf0
  have hnd := Lib.hid hnd0
  have HT := Lib.hid (fun s : Kept w1 => hsk ▸ top_any (HM1.out.below s.held) hd)
  clear hmt0 hcf0 hnd0 hsk
  obtain ⟨xl, hxl⟩ : ∃ xl, xl = X.length := ⟨_, rfl⟩
  have HXL := Lib.hid hxl
  rw [← hxl] at ha hX K3
  clear h hb1 hn hxl
  go_enter Tryz.func175, Tryz.ntmps175
  go_upto_region 2 with fail
  rw [← hw1]
  refine reg_lit (C := fun wx => ∃ s : Kept w1, wx = s.wx) (by kernel_rfl) (by kernel_rfl) ⟨⟨_, (Below.refl _ _).drew⟩, rfl⟩ ?_
  iterate 5 (go_big_quiet_step (fail))
  go_big_quiet_want
  go_big_quiet_op
  refine ⟨.iface tn pv, fun s => (HT.out s).mono ?_, ?_⟩
  · rintro e w3 ⟨rfl, hb⟩; exact Kept.out hb
  go_big_quiet_on
  go_big_quiet_want
  go_big_quiet_op
  refine ⟨.int .i64 (a : Nat), fun s => ?_, ?_⟩
  · rw [hmt.out]
    · simp only [Result.andThen_ok]
      rw [hcf.out]
      exact ⟨rfl, (hnd.out s.wx).mono (by rintro e w3 ⟨rfl, hb⟩; exact Kept.out hb)⟩
    · kernel_rfl
  go_big_quiet_on
  iterate 2 (go_big_quiet_step (fail))
  refine wpQuiet_nil ?_
  rintro w2 ⟨⟨wx, ox0⟩, e⟩
  have ox : Below w1.heap.size w1 w2 := by rw [e]; exact ox0
  clear e ox0
  have HM2 := Lib.hid (HM1.out.below ox)
  have HB2 := Lib.hid (Jk.below_tr HB1.out ox)
  have c3 := HM2.out.po.cells.2.2.2
  rw [← HXL.out] at c3
  obtain ⟨g', cc, e, _, _, _, _, hfree, hcells⟩ := HM2.out.nt.shape (by have := HXL.out; omega)
  injection e with e1 _ e3
  subst e3
  injection e1 with e1
  injection e1 with e1
  subst e1
  obtain ⟨v2, hv2⟩ : ∃ v2, v2 = x.v 2 := ⟨_, rfl⟩
  have cu := hcells a x hx 4 v2 (by rw [hv2]; rfl)
  have fu := hfree (a * 7 + 4)
  have hu := (HM2.out.nt.e a x hx 2 (by omega)).o (HM2.out.op (a, m) (List.mem_cons_self ..))
  obtain ⟨uA, uc, he, huc, huc6, _⟩ := (Rr.of_own hu).shape
  have HU := Lib.hid hu
  have HV2 := Lib.hid hv2
  have hgl := HM2.out.nt.lt g hnb
  have HC5 := Lib.hid (show ∀ w5 o, (w2.alloc o).grownBy w5 v2.ownBlock → w5.cell? ⟨g, a * 7 + 4, none⟩ = some v2 ∧ w5.frozen? ⟨g, a * 7 + 4, none⟩ = false from fun w5 o hg => by
    have e : w5.heap[g]? = w2.heap[g]? := by
      rw [hg.block g (by simp; omega) (fun e => by
        have l1 := (HM2.out.nt.e a x hx 2 (by omega)).l g (by rw [← HV2.out]; exact e.symm)
        rw [HM2.out.nt.l g hnb] at l1; cases l1)]
      exact (World.grownBy_alloc w2 o none).block g hgl.2 (by simp)
    exact ⟨(World.cell?_of_block (a := ⟨g, a * 7 + 4, none⟩) e).trans cu, (World.frozen?_of_block (a := ⟨g, a * 7 + 4, none⟩) e).trans fu⟩)
  have HC6 := Lib.hid (show ∀ w5 o u, (w2.alloc o).grownBy w5 v2.ownBlock → ∀ r, (w5.setCell ⟨g, a * 7 + 4, none⟩ u).cell? ⟨w.heap.size, r, none⟩ = w1.cell? ⟨w.heap.size, r, none⟩ from fun w5 o u hg r => by
    have hl1 : w.heap.size < w1.heap.size := by rw [hw1]; simp
    have e : (w5.setCell ⟨g, a * 7 + 4, none⟩ u).heap[w.heap.size]? = w1.heap[w.heap.size]? := by
      rw [heap_setCell_other _ _ _ _ (show w.heap.size ≠ g by omega), hg.block _ (by have := ox.size; simp; omega) (fun e => by have := (hE0.r.lt w.heap.size (by rw [← HV2.out]; exact e.symm)).2; omega),
        (World.grownBy_alloc w2 o none).block _ (by have := ox.size; omega) (by simp), ox.block _ hl1]
    exact World.cell?_of_block (a := ⟨w.heap.size, r, none⟩) e)
  have HGL := Lib.hid hgl
  have hbs : P + 1 ≤ w2.heap.size := by omega
  clear hgl hu huc6 hv2 K3 hE0
  rw [← HV2.out] at he HU
  subst he
  go_upto_region 3 with fail
  go_cut [36] from 23 to 36 (fun _ wx => ∃ lab3 X3, PM wx P bv wd ((a, m) :: S) lab3 op mb ks (.slice (some ⟨sg, 0, none⟩) (S.length + 1) sc) (.slice (some ⟨g, 0, none⟩) X.length c) X3 ∧ X3.map Nx.nd = (X.map Nx.nd).modify a (Nd.addSub xl) ∧
    (∀ b, b < w2.heap.size → lab3 b = lab b) ∧ Below P w2 wx ∧ (∀ r, wx.cell? ⟨w.heap.size, r, none⟩ = w1.cell? ⟨w.heap.size, r, none⟩) ∧ ∀ b, b < w2.heap.size → lab b = .no → wx.heap[b]? = w2.heap[b]?)
  case first =>
    go_region_law (refine step_own rfl (.tmp 27) (.tmp 33) 57 rfl (P + 1) 3 i0 (.int .i64 0) 1 8 Tryz.underlying57 hi hz0 hz1 hz2 rfl (by decide) _ x.nd.subs.length (x.nd.subs.flatMap inC) rfl (HU.out.alloc _) ⟨w2.heap.size, 0, none⟩ 1 1 [.int .i64 (xl : Nat)] rfl rfl (cell_one_new _ _ _) (by intro u hu; simp at hu; subst hu; rfl) (by unfold maxLen; omega) (by omega) (by simp; omega) ?_; intro v' w5 hown5 hg5 hl5; obtain ⟨c5, f5⟩ := HC5.out _ _ (by first | exact hg5 | exact jgDrew hg5); obtain ⟨vA, vc, rfl, _⟩ := (Rr.of_own hown5).shape)
    all_goals
      have HR := Lib.hid (HC6.out _ _ (.slice vA (x.nd.subs.length + 1) vc) (by first | exact hg5 | exact jgDrew hg5))
      have HD := Lib.hid (sub_done HM2.out hx (by rw [← HV2.out]; first | exact hg5 | exact jgDrew hg5) hown5 (by rw [← HV2.out]; exact hl5) hnb)
      clear hown5 hg5 hl5 c5 f5
      go_wp2_with fail
      go_meet
      exact ⟨_, _, HD.out.1, HD.out.2.1, HD.out.2.2.1, HD.out.2.2.2.1, HR.out, HD.out.2.2.2.2⟩
  case rest =>
    obtain ⟨lab3, X3, hM3, hX3, hl3, hb3, htk, hno⟩ := hcut
    have HNO := Lib.hid hno
    have q1 := (htk 1).trans (show w1.cell? ⟨w.heap.size, 1, none⟩ = some (.int .i64 (f : Nat)) by rw [hw1]; simp [go_sem])
    have q2 := (htk 2).trans (show w1.cell? ⟨w.heap.size, 2, none⟩ = some (.int .i64 (t : Nat)) by rw [hw1]; simp [go_sem])
    have hx3 : X3.length = xl := by rw [HXL.out, ← List.length_map (f := Nx.nd), hX3]; simp
    have HC3 := Lib.hid hb3.size
    have HM3 := Lib.hid hM3
    have HX3 := Lib.hid hX3
    have HL3 := Lib.hid hl3
    have HB3 := Lib.hid (HB2.out.mono (Nat.le_of_lt HW.out) |>.trans hb3)
    have HSZ := Lib.hid (Nat.le_trans HB1.out.size ox.size)
    have hx4 := Lib.hid hx3
    have HTB := Lib.hid (show ∀ w6 o, (wc.alloc o).grownBy w6 (Value.slice (some ⟨g, 0, none⟩) X.length c).ownBlock → w6.cell? ⟨P, 3, none⟩ = some (.slice (some ⟨g, 0, none⟩) xl c) ∧ w6.frozen? ⟨P, 3, none⟩ = false from fun w6 o hg => by
      have hl := hM3.lt
      have e : w6.heap[P]? = wc.heap[P]? := by
        rw [hg.block P (by simp; omega) (fun e => by have := (hM3.nt.lt P e.symm).1; omega)]
        exact (World.grownBy_alloc wc o none).block P hl (by simp)
      refine ⟨(World.cell?_of_block (a := ⟨P, 3, none⟩) e).trans ?_, (World.frozen?_of_block (a := ⟨P, 3, none⟩) e).trans (hM3.po.free 3)⟩
      rw [HXL.out]; exact hM3.po.cells.2.2.2)
    have c3 := hM3.po.cells.2.2.2
    rw [← HXL.out] at c3
    have c3a : ∀ o, (wc.alloc o).cell? ⟨P, 3, none⟩ = some (.slice (some ⟨g, 0, none⟩) xl c) := fun o => by rw [World.cell?_alloc_lt _ _ _ hM3.lt]; exact c3
    have hR3 := Lib.hid hM3.nt.row
    rw [hx3, ← HXL.out] at hR3
    have hbs3 : P + 1 ≤ wc.heap.size := hM3.lt
    clear hM3 hX3 hl3 hb3 htk hx3 hw1 ox hno
    go_wp2_with fail
    go_region_law (refine step_own rfl (.tmp 41) (.tmp 50) 22 rfl (P + 1) 59 i4 _ 7 112 Tryz.underlying22 hi4 hy0 hy1 hy2 zc7 (by decide) _ xl (ndL X3) rfl (hR3.out.alloc _) ⟨wc.heap.size, 0, none⟩ 1 1 (ndC ⟨⟨kd, T, [], [], [], (f, t)⟩, nil0⟩) rfl rfl (Jk.cells_new _ _ rfl) (one7 _ (fun _ => rfl)) (by unfold maxLen; omega) (by omega) (by simp; omega) ?_; intro v' w6 hown6 hg6 hl6; obtain ⟨c6, f6⟩ := HTB.out _ _ (by rw [← HXL.out]; first | exact hg6 | exact jgDrew hg6); obtain ⟨vA, vc, rfl, _⟩ := (Rr.of_own hown6).shape)
    all_goals
      have HD := Lib.hid (push_done (n0 := ⟨kd, T, [], [], [], (f, t)⟩) HM3.out (by rw [← HXL.out]; first | exact hg6 | exact jgDrew hg6) (by rw [hx4.out]; exact hown6) (by rw [← HXL.out]; exact hl6) rfl rfl rfl)
      clear hown6 hg6 hl6 c6 f6
      go_wp2_with fail
      refine bodyPost_end (results_none rfl _ _ _) rfl ?_
      refine ⟨rfl, HB3.out.trans HD.out.2.2.2.1, labS lab3 (.slice vA (xl + 1) vc) .nd, .slice vA (xl + 1) vc, X3 ++ [⟨⟨kd, T, [], [], [], (f, t)⟩, nil0⟩], ?_, ?_, fun b hb => ?_, fun b hb hbP hbl => ?_⟩
      · have h1 := HD.out.1
        rw [show X3.length = X.length from hx4.out.trans HXL.out] at h1
        exact h1
      · refine HD.out.2.1.trans ?_
        rw [HX3.out]
        show _ = (X.map Nx.nd).modify a (Nd.addSub (X.map Nx.nd).length) ++ _
        rw [List.length_map, ← HXL.out]
      · have hs := HSZ.out
        exact (HD.out.2.2.1 b (Nat.lt_of_lt_of_le hb (Nat.le_trans hs HC3.out))).trans (HL3.out b (Nat.lt_of_lt_of_le hb hs))
      · have hs := HSZ.out
        have hb2 := Nat.lt_of_lt_of_le hb hs
        exact (HD.out.2.2.2.2 b (Nat.lt_of_lt_of_le hb2 HC3.out) hbP ((HL3.out b hb2).trans hbl)).trans ((HNO.out b hb2 hbl).trans (HB2.out.block b hb))
end
end Jt
end Go.Proofs.YtggeiajbcehkjaaGreatDoor
/- What landed: add at the root. -/
namespace Go.Proofs.YtggeiajbcehkjaaGreatDoor
open Go.RowKit
namespace Jt
section
variable {w : World} {P : Nat} {bv sv nv : Value} {wd : Nat} {sk : List (Nat × Bool)} {lab : Nat → Own} {op : Nat → Prop} {mb : Nat → Nat} {ks : Nat → List Bs} {X : List Nx}
set_option maxRecDepth 100000 in
set_option maxHeartbeats 4000000 in
theorem add_nil {k f t : Nat} {kd : Nat} {T : Bs} (h : PM w P bv wd [] lab op mb ks sv nv X) (hX : X.length ≤ 1000000) :
    Calls Tryz.prog 175 #[.pointer (some ⟨P, 0, none⟩), .agg #[.int .u8 (k : Nat), .int .i64 (f : Nat), .int .i64 (t : Nat)], .int .u8 (kd : Nat), .string (txt T)] w
      (AddL w P bv wd [] lab op mb ks sv X ⟨kd, T, [], [], [], (f, t)⟩) := by
  obtain ⟨i4, hi4, hy0, hy1, hy2⟩ := info_parts (show (Tryz.prog.info? 59).map (fun i => (i.zero, i.size, i.bytes)) = some (some (.agg #[.int .u8 0, .string ⟨#[]⟩, .slice none 0 0, .slice none 0 0, .slice none 0 0, .int .i64 0, .int .i64 0]), 7, 112) by kernel_rfl)
  have HW := Lib.hid h.lt
  obtain ⟨w1, hw1⟩ : ∃ w1, w1 = w.alloc (.cells #[.int .u8 (k : Nat), .int .i64 (f : Nat), .int .i64 (t : Nat)] 145) := ⟨_, rfl⟩
  have hb1 : Below w.heap.size w w1 := by rw [hw1]; exact (Below.refl _ _).alloc (Nat.le_refl _) _
  have hM3 := h.below hb1
  obtain ⟨nA, c, e, _⟩ := (Rr.of_own h.nt.row).shape
  subst e
  obtain ⟨sA, sc, e, _⟩ := (Rr.of_own h.stk).shape
  subst e
  have c2 : ∀ o, (w.alloc o).cell? ⟨P, 2, none⟩ = some (.slice sA 0 sc) := fun o => by rw [World.cell?_alloc_lt _ _ _ h.lt]; exact h.po.cells.2.2.1
  obtain ⟨xl, hxl⟩ : ∃ xl, xl = X.length := ⟨_, rfl⟩
  have HXL := Lib.hid hxl
  have q1 : w1.cell? ⟨w.heap.size, 1, none⟩ = some (.int .i64 (f : Nat)) := by rw [hw1]; simp [go_sem]
  have q2 : w1.cell? ⟨w.heap.size, 2, none⟩ = some (.int .i64 (t : Nat)) := by rw [hw1]; simp [go_sem]
  have HM3 := Lib.hid hM3
  have HB3 := Lib.hid (hb1.mono (Nat.le_of_lt HW.out))
  have HSZ := Lib.hid hb1.size
  have HBW := Lib.hid hb1
  have HTB := Lib.hid (show ∀ w6 o, (w1.alloc o).grownBy w6 (Value.slice nA X.length c).ownBlock → w6.cell? ⟨P, 3, none⟩ = some (.slice nA xl c) ∧ w6.frozen? ⟨P, 3, none⟩ = false from fun w6 o hg => by
    have hl := hM3.lt
    have e : w6.heap[P]? = w1.heap[P]? := by
      rw [hg.block P (by simp; omega) (fun e => by have := (hM3.nt.lt P e.symm).1; omega)]
      exact (World.grownBy_alloc w1 o none).block P hl (by simp)
    refine ⟨(World.cell?_of_block (a := ⟨P, 3, none⟩) e).trans ?_, (World.frozen?_of_block (a := ⟨P, 3, none⟩) e).trans (hM3.po.free 3)⟩
    rw [HXL.out]; exact hM3.po.cells.2.2.2)
  have c3 := hM3.po.cells.2.2.2
  rw [← HXL.out] at c3
  have c3a : ∀ o, (w1.alloc o).cell? ⟨P, 3, none⟩ = some (.slice nA xl c) := fun o => by rw [World.cell?_alloc_lt _ _ _ hM3.lt]; exact c3
  have hR3 := Lib.hid hM3.nt.row
  rw [← HXL.out] at hR3
  have hbs3 : P + 1 ≤ w1.heap.size := hM3.lt
  rw [← hxl] at hX
  clear hM3 hb1 hxl h
  go_enter Tryz.func175, Tryz.ntmps175
  go_upto_region 4 with fail
  rw [← hw1]
  clear hw1
  go_region_law (refine step_own rfl (.tmp 41) (.tmp 50) 22 rfl (P + 1) 59 i4 _ 7 112 Tryz.underlying22 hi4 hy0 hy1 hy2 zc7 (by decide) _ xl (ndL X) rfl (hR3.out.alloc _) ⟨w1.heap.size, 0, none⟩ 1 1 (ndC ⟨⟨kd, T, [], [], [], (f, t)⟩, nil0⟩) rfl rfl (Jk.cells_new _ _ rfl) (one7 _ (fun _ => rfl)) (by unfold maxLen; omega) (by omega) (by simp; omega) ?_; intro v' w6 hown6 hg6 hl6; obtain ⟨c6, f6⟩ := HTB.out _ _ (by rw [← HXL.out]; first | exact hg6 | exact jgDrew hg6); obtain ⟨vA, vc, rfl, _⟩ := (Rr.of_own hown6).shape)
  all_goals
    have HD := Lib.hid (push_done (n0 := ⟨kd, T, [], [], [], (f, t)⟩) HM3.out (by rw [← HXL.out]; first | exact hg6 | exact jgDrew hg6) (by rw [← HXL.out]; exact hown6) (by rw [← HXL.out]; exact hl6) rfl rfl rfl)
    clear hown6 hg6 hl6 c6 f6
    go_wp2_with fail
    refine bodyPost_end (results_none rfl _ _ _) rfl ?_
    refine ⟨rfl, HB3.out.trans HD.out.2.2.2.1, labS lab (.slice vA (xl + 1) vc) .nd, .slice vA (xl + 1) vc, X ++ [⟨⟨kd, T, [], [], [], (f, t)⟩, nil0⟩], HD.out.1, HD.out.2.1, fun b hb => HD.out.2.2.1 b (Nat.lt_of_lt_of_le hb HSZ.out), fun b hb hbP hbl => ?_⟩
    exact (HD.out.2.2.2.2 b (Nat.lt_of_lt_of_le hb HSZ.out) hbP hbl).trans (HBW.out.block b hb)
end
end Jt
end Go.Proofs.YtggeiajbcehkjaaGreatDoor
