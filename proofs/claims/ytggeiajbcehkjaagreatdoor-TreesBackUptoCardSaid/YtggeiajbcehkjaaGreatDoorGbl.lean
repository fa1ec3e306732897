/- What landed of trees: which may be. -/
import Derived.Test.YtggeiajbcehkjaaGreatDoorGbk
import Derived.Maps.OwnSet
namespace Go.Proofs.YtggeiajbcehkjaaGreatDoor
open Go.RowKit Go.Shelf
open Va (Bs V v0 Tx Vm Vk Vr vO below_tr below_new heap_alloc_new get_lt vcells vm_zero)
attribute [local go_sem] Oper.semAt_some
namespace Tt
set_option maxRecDepth 100000

theorem gb_none {W X : World} (h : Below W.heap.size W X) : W.grownBy X none := ⟨h.os, h.tape, h.output, h.size, fun k hk _ => h.block k hk⟩
theorem gb_some {W X : World} {b : Nat} (h : Below W.heap.size W X) : W.grownBy X (some b) := ⟨h.os, h.tape, h.output, h.size, fun k hk _ => h.block k hk⟩
theorem gb_join {W X Y : World} {b : Nat} (h : W.grownBy X (some b)) (h' : X.grownBy Y (some b)) : W.grownBy Y (some b) :=
  ⟨h'.os.trans h.os, h'.tape.trans h.tape, h'.output.trans h.output, Nat.le_trans h.size h'.size, fun k hk hn => (h'.block k (Nat.lt_of_lt_of_le hk h.size) hn).trans (h.block k hk hn)⟩
/-- Between two rounds: what has come is good, and is the set. -/
structure MI (t : Tr) (w : World) (sv : Value) (r : Int) (s : List (Int × Nat)) (W : World) : Prop where
  gd : Gd t s
  own : W.ownsMap Tryz.prog 3 unitElem (w.heap.size + 1 + 1) s.length (metD s)
  below : Below w.heap.size w W
  c3 : W.cell? ⟨w.heap.size + 1 + 1 + 1, 0, none⟩ = some (.map (some (w.heap.size + 1 + 1)))
  b0 : W.cell? ⟨w.heap.size, 0, none⟩ = some sv
  b1 : W.cell? ⟨w.heap.size, 1, none⟩ = some (.int .i64 r)
  r0 : W.cell? ⟨w.heap.size + 1, 0, none⟩ = some (.bool false)
  rf : W.frozen? ⟨w.heap.size + 1, 0, none⟩ = false
/-- A round has said no more. -/
structure MX (t : Tr) (w : World) (s : List (Int × Nat)) (W : World) : Prop where
  gd : ¬ Gd t s
  below : Below w.heap.size w W
  r0 : W.cell? ⟨w.heap.size + 1, 0, none⟩ = some (.bool false)
theorem MI.own_from {t : Tr} {w : World} {sv : Value} {r : Int} {B : Nat} (hB : w.heap.size + 1 + 1 < B) : OwnFrom B (MI t w sv r) := fun s X Y row hs hg hr =>
  ⟨hs.gd, hs.own.kept hg (fun e => by have := (hr _ e.symm).1; omega), ownFrom_below (β := Unit) (Nat.le_refl _) (by omega) () X Y row hs.below hg hr,
    cell_kept hs.c3 hg (fun r e => (hr r e).2), cell_kept hs.b0 hg (fun r e => (hr r e).2), cell_kept hs.b1 hg (fun r e => (hr r e).2), cell_kept hs.r0 hg (fun r e => (hr r e).2), (frozen_kept hs.r0 hg (fun r e => (hr r e).2)).trans hs.rf⟩
theorem MX.own_from {t : Tr} {w : World} {B : Nat} (hB : w.heap.size + 1 + 1 < B) : OwnFrom B (MX t w) := fun s X Y row hs hg hr =>
  ⟨hs.gd, ownFrom_below (β := Unit) (Nat.le_refl _) (by omega) () X Y row hs.below hg hr, cell_kept hs.r0 hg (fun r e => (hr r e).2)⟩
/-- Whatever a call lays. -/
theorem MI.on {t : Tr} {w W X : World} {sv : Value} {r : Int} {s : List (Int × Nat)} (h : MI t w sv r s W) (hb : Below W.heap.size W X) : MI t w sv r s X :=
  MI.own_from (t := t) (w := w) (sv := sv) (r := r) (B := w.heap.size + 1 + 1 + 1) (Nat.lt_succ_self _) s W X none h (gb_none hb) (fun r e => by cases e)
/-- A node more. -/
theorem MI.more {t : Tr} {w W X : World} {sv : Value} {r : Int} {s : List (Int × Nat)} {x : Int × Nat} (h : MI t w sv r s W) (hg : Gd t (s ++ [x])) (ho : X.ownsMap Tryz.prog 3 unitElem (w.heap.size + 1 + 1) (s.length + 1) ((metD s).put (.int .i64 x.1) (.agg []))) (hgr : W.grownBy X (some (w.heap.size + 1 + 1))) : MI t w sv r (s ++ [x]) X := by
  obtain ⟨es, ck, hh, _⟩ := h.own
  have kp : ∀ r, some (w.heap.size + 1 + 1) = some r → ∃ o : Obj, W.heap[r]? = some o ∧ o.isCells = false := fun r e => by cases e; exact ⟨_, hh, rfl⟩
  exact ⟨hg, by rw [met_snoc, List.length_append]; exact ho, h.below.grown hgr h.below.size (fun k e => by cases e; omega), cell_kept h.c3 hgr kp, cell_kept h.b0 hgr kp, cell_kept h.b1 hgr kp, cell_kept h.r0 hgr kp, (frozen_kept h.r0 hgr kp).trans h.rf⟩
theorem wNs_get : ∀ {l : List Nd} {i : Nat} {x : Nd}, l[i]? = some x → wN x ≤ wNs l
  | [], _, _, h => by simp at h
  | y :: r, 0, x, h => by obtain rfl : y = x := by simpa using h
                          rw [wNs]; omega
  | y :: r, i + 1, x, h => by have := wNs_get (l := r) (i := i) (by simpa using h); rw [wNs]; omega
theorem wNs_len : ∀ l : List Nd, l.length ≤ wNs l
  | [] => Nat.zero_le _
  | x :: r => by have := wNs_len r; rw [wNs, List.length_cons]; unfold wN; omega
theorem wNs_subs {l : List Nd} {x : Nd} (h : x ∈ l) : x.subs.length ≤ wNs l := by
  obtain ⟨i, hi, e⟩ := List.getElem_of_mem h
  have := wNs_get (l := l) (i := i) (x := x) (by rw [List.getElem?_eq_getElem hi, e])
  unfold wN at this; omega
theorem below_tr' {w W X : World} (h : Below w.heap.size w W) (h' : Below W.heap.size W X) : Below w.heap.size w X := below_tr h h'
theorem Gd.len {t : Tr} {s : List (Int × Nat)} (h : Gd t s) : s.length ≤ t.nodes.length := by
  have h1 : (s.map fun e => e.1.toNat).Nodup := by
    have hnd := h.nd
    rw [List.Nodup, List.pairwise_map] at hnd ⊢
    exact hnd.imp_of_mem fun {x y} hx hy hne e => hne (by have := fit_lt (h.ok x hx); have := fit_lt (h.ok y hy); omega)
  have := nodup_le h1 (n := t.nodes.length) (fun j hj => by
    obtain ⟨e, he, rfl⟩ := List.mem_map.1 hj
    have := fit_lt (h.ok e he); show e.1.toNat < _; omega)
  rwa [List.length_map] at this
set_option maxHeartbeats 16000000 in
theorem may_in {t : Tr} {v : Value} {p : Bool} (w : World) (hv : Tm w v t) (hx : wNs t.nodes ≤ 1000000) (hp : p = true ↔ Fit t) :
    CallsIn Fence.wide 9 Tryz.prog 12 #[v] w fun e w' => e = .returned (.bool p) ∧ Below w.heap.size w w' := by
  have hmm : ∀ (x : Int) (w : World), (Instr.makeMap 70 (some (.int .i64 x))).run Tryz.prog w = .ok (.map (some w.heap.size)) (w.alloc (.map #[] 0)) := fun x w => by kernel_rfl
  have hzu : ∀ w : World, (zeroValue 74).run Tryz.prog w = .ok (.agg #[]) w := fun w => by kernel_rfl
  have HV := Lib.hid hv
  have hn5 : t.nodes.length ≤ 1000000 := Nat.le_trans (wNs_len _) hx
  have HS5 := Lib.hid (show ∀ x ∈ t.nodes, x.subs.length ≤ 1000000 from fun x h => Nat.le_trans (wNs_subs h) hx)
  obtain ⟨A, c, rfl, hc1, hc2, hc3, hr, hN⟩ := hv
  obtain ⟨nn, hnn⟩ : ∃ n, n = t.nodes.length := ⟨_, rfl⟩
  obtain ⟨r, hrr⟩ : ∃ r, r = t.root := ⟨_, rfl⟩
  have HX := Lib.hid hx
  have HP := Lib.hid (hp.trans fit_gd)
  have HN5 := Lib.hid hn5
  rw [← hnn, ← hrr] at HV
  rw [← hnn, ← hrr]
  rw [← hnn] at hn5
  have HNN := Lib.hid (And.intro hnn hrr)
  have HNX := Lib.hid hN
  clear hnn hrr hx hp hN hc1 hc2 hc3 hr
  refine callsIn_of_wp_marks Tryz.func12 rfl trivial ?_ rfl
  simp only [Tryz.ntmps12, List.size_toArray, List.length_cons, List.length_nil, Nat.reduceAdd, Nat.reduceSub, Array.replicate_succ, Array.replicate_zero, List.push_toArray, List.append_toArray, List.nil_append, List.cons_append]
  gi_wp2_with (refine ⟨trivial, ?_⟩; gi_at_call 38; refine (reached_in Fence.wide _ trivial rfl A c nn r _).mono ?_; rintro e w' ⟨rfl, rfl⟩)
  have z1 : (w.alloc (tO (.slice A nn c) (.int .i64 r))).heap.size = w.heap.size + 1 := s1 _ _
  have z2 : ((w.alloc (tO (.slice A nn c) (.int .i64 r))).alloc (.cells #[.bool false] 4)).heap.size = w.heap.size + 1 + 1 := by rw [s1, z1]
  have z3 : (((w.alloc (tO (.slice A nn c) (.int .i64 r))).alloc (.cells #[.bool false] 4)).alloc (.map #[] 0)).heap.size = w.heap.size + 1 + 1 + 1 := by rw [s1, z2]
  have z4 : ((((w.alloc (tO (.slice A nn c) (.int .i64 r))).alloc (.cells #[.bool false] 4)).alloc (.map #[] 0)).alloc (.cells #[.map (some (w.heap.size + 1 + 1))] 70)).heap.size = w.heap.size + 1 + 1 + 1 + 1 := by rw [s1, z3]
  obtain ⟨W0, hW0⟩ : ∃ W0, W0 = (((((w.alloc (tO (.slice A nn c) (.int .i64 r))).alloc (.cells #[.bool false] 4)).alloc (.map #[] 0)).alloc (.cells #[.map (some (w.heap.size + 1 + 1))] 70)).alloc (tO (.slice A nn c) (.int .i64 r))) := ⟨_, rfl⟩
  have z5 : W0.heap.size = w.heap.size + 1 + 1 + 1 + 1 + 1 := by rw [hW0, s1, z4]
  have hB0 : Below w.heap.size w W0 := by
    rw [hW0]
    exact (((((Below.refl _ w).alloc (Nat.le_refl _) _).alloc (by rw [z1]; omega) _).alloc (by rw [z2]; omega) _).alloc (by rw [z3]; omega) _).alloc (by rw [z4]; omega) _
  have keep : ∀ (X : World) (o : Obj) (k : Nat) (q : Obj), X.heap[k]? = some q → (X.alloc o).heap[k]? = some q := fun X o k q h => ((below_new X o).block k (Array.getElem?_eq_some_iff.1 h).1).trans h
  have k0 : W0.heap[w.heap.size]? = some (tO (.slice A nn c) (.int .i64 r)) := by rw [hW0]; exact keep _ _ _ _ (keep _ _ _ _ (keep _ _ _ _ (keep _ _ _ _ (heap_alloc_new ..))))
  have k1 : W0.heap[w.heap.size + 1]? = some (.cells #[.bool false] 4) := by rw [hW0, ← z1]; exact keep _ _ _ _ (keep _ _ _ _ (keep _ _ _ _ (heap_alloc_new ..)))
  have k3 : W0.heap[w.heap.size + 1 + 1 + 1]? = some (.cells #[.map (some (w.heap.size + 1 + 1))] 70) := by rw [hW0, ← z3]; exact keep _ _ _ _ (heap_alloc_new ..)
  have k4 : W0.heap[w.heap.size + 1 + 1 + 1 + 1]? = some (tO (.slice A nn c) (.int .i64 r)) := by rw [hW0, ← z4]; exact heap_alloc_new ..
  have k2 : W0.ownsMap Tryz.prog 3 (unitElem (H := Unit)) (w.heap.size + 1 + 1) 0 (.map []) := by
    rw [hW0, ← z2]; exact ((World.ownsMap_made _ _ _ _).alloc _).alloc _
  have hI0 : MI t w (.slice A nn c) r [] W0 := ⟨Gd.nil t, k2, hB0, by simp [World.cell?, k3], by simp [World.cell?, k0], by simp [World.cell?, k0], by simp [World.cell?, k1], by simp [World.frozen?, k1]⟩
  rw [← hW0]
  clear hW0 z1 z2 z3 z4 k0 k1 k2 k3 keep
  refine over_good (b := w.heap.size + 1 + 1) (n0 := w.heap.size) rfl (by omega) (by omega) (by omega) (gf := 58) (lb := #[.pointer (some ⟨w.heap.size + 1 + 1 + 1 + 1, 0, none⟩)]) rfl trivial (enters_of Tryz.func58 (by kernel_rfl) rfl)
    (goes_reached Fence.wide rfl _ trivial trivial rfl HV.out hB0 HN5.out HS5.out (by omega) ⟨_, _, rfl, k4⟩) (fun _ => rfl)
    (MI t w (.slice A nn c) r) (MX t w) (MI.own_from (by omega)) (MX.own_from (by omega)) (fun _ _ h => h.gd) hI0
    (fun x => { tmps := #[.agg #[.slice A nn c, .int .i64 r], .pointer (some ⟨w.heap.size, 0, none⟩), .pointer (some ⟨w.heap.size + 1, 0, none⟩), .pointer (some ⟨w.heap.size + 1 + 1 + 1, 0, none⟩), .int .i64 x.1, .int .i64 (x.2 : Nat), undef, undef, .pointer (some ⟨w.heap.size, 0, none⟩), .slice A nn c, .int .i64 (nn : Nat), .map (some (w.heap.size + 1 + 1)), .agg #[.slice A nn c, .int .i64 r], .func (.func 58) #[] #[.pointer (some ⟨w.heap.size + 1 + 1 + 1 + 1, 0, none⟩)], .int .i64 x.1, .int .i64 (x.2 : Nat), undef, undef, undef, undef, undef, undef, undef, undef, undef, undef, undef, undef, undef, undef, undef, undef, undef, undef, undef, undef, undef, undef, undef, undef, undef, undef, undef, undef, undef, undef, undef, undef], defers := [] }) ?assign ?body ?done ?stop
  case assign =>
    intro l x W K hK
    gi_wp2
    exact hK
  case body =>
    rintro l s ⟨i, d⟩ W ⟨hi, hd⟩ hQ
    have hi : i64 i := hi
    have hd : d ≤ 257 := hd
    have HQ := Lib.hid hQ
    have HI := Lib.hid hi
    have hwf : (Lit.int .i64 i).wf = true := by
      unfold i64 at hi
      simp [Lit.wf, IntKind.min, IntKind.max, IntKind.signed, IntKind.bits]; omega
    have hown := hQ.own
    have c3 := hQ.c3
    have hq := hQ.on (below_new W (.cells #[] 74))
    have r0 := hq.r0
    have rf := hq.rf
    have b0 := hq.b0
    have b1 := hq.b1
    have HQ1 := Lib.hid hq
    clear hq hQ
    have CH := Lib.hid (fun (X : World) (h : Below W.heap.size W X) (p : Bool) (hp : p = decide (0 ≤ i ∧ i < t.nodes.length)) => has_any X (HV.out.on (below_tr' HQ.out.below h)) HN5.out HI.out hp)
    by_cases hm : i ∈ s.map Prod.fst
    · have hh : Maps.has (metD s) (.int .i64 i) = true := by rw [has_met]; exact decide_eq_true hm
      have HB := Lib.hid (show ¬ Gd t (s ++ [(i, d)]) from fun h => (Gd.snoc.1 h).2.1 hm)
      clear CH hm
      gi_wp2_with (gi_at_lookup; refine wpListIn_lookup_own_unit _ rfl _ _ 70 rfl 3 74 (Maps.int_keyed Tryz.underlying3) Tryz.underlying70 (hzu _) (w.heap.size + 1 + 1) s.length (metD s) rfl hown _ _ rfl (Maps.keyOf_int_mk Tryz.underlying3 hwf) ?_)
      refine ⟨trivial, ?_⟩
      gi_wp2
      refine ⟨trivial, ?_⟩
      gi_wp2
      exact ⟨((KeepsFrom.of_grownBy (gb_none (below_new W _)) (fun j e => by cases e)).trans ((KeepsOthers.setCell _ _ _).from _)), HB.out, HQ1.out.below.setCell (p := ⟨w.heap.size + 1, 0, none⟩) (Nat.le_succ _) _, World.cell?_setCell_same' _ _ _ (by rw [HQ1.out.r0]; rfl)⟩
    · have hh : Maps.has (metD s) (.int .i64 i) = false := by rw [has_met]; exact decide_eq_false hm
      by_cases hin : 0 ≤ i ∧ i < t.nodes.length
      · obtain ⟨a, rfl⟩ := Int.eq_ofNat_of_zero_le hin.1
        obtain ⟨x, hx⟩ := get_lt (l := t.nodes) (i := a) (by omega)
        obtain ⟨g, o, rfl, hg, hf⟩ := HNX.out (by omega)
        obtain ⟨K, S, U, ka, sb, uc, hcell, hNr⟩ := hf a x hx
        have han : a < nn := by rw [HNN.out.1]; omega
        have hwx : wN x ≤ 1000000 := Nat.le_trans (wNs_get hx) HX.out
        obtain ⟨q, hq⟩ : ∃ q, q = x.fits d := ⟨_, rfl⟩
        have HGN := Lib.hid (show q = false → ¬ Gd t (s ++ [((a : Int), d)]) from fun e h => by
          obtain ⟨_, y, hy, hfy⟩ := (Gd.snoc.1 h).2.2
          have hy : t.nodes[a]? = some y := by simpa using hy
          rw [hx] at hy; injection hy with hy
          subst hy
          have hfy : x.fits d = true := hfy
          rw [← hq, e] at hfy; cases hfy)
        have HGY := Lib.hid (show q = true → Gd t (s ++ [((a : Int), d)]) from fun e => Gd.snoc.2 ⟨HQ.out.gd, hm, hin.1, x, by simpa using hx, by rw [← e, hq]⟩)
        have HLE := Lib.hid (HQ.out.gd.len)
        have hsl : s.length < maxLen := by have := HLE.out; have := HN5.out; unfold maxLen; omega
        have CH2 := Lib.hid (fun (X : World) (h : Below W.heap.size W X) => CH.out X h true (decide_eq_true hin).symm)
        have KC := Lib.hid (fun (X : World) (h : Below w.heap.size w X) (j : Nat) (u : Value) (hu : (ndC x K S U ka sb uc)[j]? = some u) => (h.cell (p := ⟨g, o + a * 7 + j, none⟩) hg).trans (hcell j u hu))
        have CN := Lib.hid (fun (X : World) (h : Below w.heap.size w X) => mayNode_any X (⟨K, S, U, ka, sb, uc, rfl, hNr.on h⟩ : Nm X _ x) hwx (by omega : d ≤ 1000000) hq)
        obtain ⟨T, hT⟩ : ∃ T, T = txt x.text := ⟨_, rfl⟩
        obtain ⟨kl, hKL⟩ : ∃ n, n = x.keys.length := ⟨_, rfl⟩
        obtain ⟨sl, hSL⟩ : ∃ n, n = x.spots.length := ⟨_, rfl⟩
        obtain ⟨ul, hUL⟩ : ∃ n, n = x.subs.length := ⟨_, rfl⟩
        obtain ⟨k, hKD⟩ : ∃ n, n = x.kind := ⟨_, rfl⟩
        obtain ⟨y, hy⟩ : ∃ p, p = x.span.1 := ⟨_, rfl⟩
        obtain ⟨z, hz⟩ : ∃ p, p = x.span.2 := ⟨_, rfl⟩
        unfold ndC at CN KC
        rw [← hT, ← hKL, ← hSL, ← hUL, ← hKD, ← hy, ← hz] at CN KC
        clear hT hKL hSL hUL hKD hy hz hx hf hcell hNr hq hm CH hin
        cases q
        all_goals gi_wp2_with (first
          | (gi_at_lookup; refine wpListIn_lookup_own_unit _ rfl _ _ 70 rfl 3 74 (Maps.int_keyed Tryz.underlying3) Tryz.underlying70 (hzu _) (w.heap.size + 1 + 1) s.length (metD s) rfl hown _ _ rfl (Maps.keyOf_int_mk Tryz.underlying3 hwf) ?_)
          | (refine ⟨trivial, ?_⟩; gi_at_call 35; refine (CallsIn.inRound l (callsIn_wide.2 (CH2.out _ (below_new ..)))).mono ?_; clear CH2; rintro e w2 ⟨rfl, hb2⟩; have HQ2 := Lib.hid (HQ1.out.on hb2); have HB2 := Lib.hid (below_tr (below_new W _) hb2); have q0 := HQ2.out.b0; have n0 := KC.out w2 HQ2.out.below 0 _ rfl; have n1 := KC.out w2 HQ2.out.below 1 _ rfl; have n2 := KC.out w2 HQ2.out.below 2 _ rfl; have n3 := KC.out w2 HQ2.out.below 3 _ rfl; have n4 := KC.out w2 HQ2.out.below 4 _ rfl; have n5 := KC.out w2 HQ2.out.below 5 _ rfl; have n6 := KC.out w2 HQ2.out.below 6 _ rfl; rw [Nat.add_zero] at n0; clear KC hb2)
          | (refine ⟨trivial, ?_⟩; gi_at_call 39; refine (CallsIn.inRound l (callsIn_wide.2 (CN.out _ HQ2.out.below))).mono ?_; clear CN; rintro e w3 ⟨rfl, hb3⟩; have HQ3 := Lib.hid (HQ2.out.on hb3); have HB3 := Lib.hid (below_tr HB2.out hb3); have c7 := HQ3.out.c3; have r7 := HQ3.out.r0; have f7 := HQ3.out.rf; have own7 := HQ3.out.own; clear hb3; clear q0 n0 n1 n2 n3 n4 n5 n6)
          | (gi_at_mapUpdate; refine wpListIn_mapUpdate_own _ rfl _ _ _ 70 rfl 3 74 (Maps.int_keyed Tryz.underlying3) Tryz.underlying70 _ (w.heap.size + 1 + 1) s.length _ rfl own7 hsl _ _ _ rfl rfl (Maps.keyOf_int_mk Tryz.underlying3 hwf) _ [] unitElem_mk ?_; intro w5 hown5 hgrow5))
        · exact ⟨((KeepsFrom.of_grownBy (gb_none HB3.out) (fun j e => by cases e)).trans ((KeepsOthers.setCell _ _ _).from _)), HGN.out (by first | rfl | trivial), HQ3.out.below.setCell (p := ⟨w.heap.size + 1, 0, none⟩) (Nat.le_succ _) _, World.cell?_setCell_same' _ _ _ (by rw [HQ3.out.r0]; rfl)⟩
        · exact ⟨gb_join (gb_some HB3.out) hgrow5, HQ3.out.more (HGY.out (by first | rfl | trivial)) hown5 hgrow5⟩
      · have CH2 := Lib.hid (fun (X : World) (h : Below W.heap.size W X) => CH.out X h false (decide_eq_false hin).symm)
        have HB := Lib.hid (show ¬ Gd t (s ++ [(i, d)]) from fun h => hin (fit_lt (Gd.snoc.1 h).2.2))
        clear CH hin
        gi_wp2_with (first
          | (gi_at_lookup; refine wpListIn_lookup_own_unit _ rfl _ _ 70 rfl 3 74 (Maps.int_keyed Tryz.underlying3) Tryz.underlying70 (hzu _) (w.heap.size + 1 + 1) s.length (metD s) rfl hown _ _ rfl (Maps.keyOf_int_mk Tryz.underlying3 hwf) ?_)
          | (refine ⟨trivial, ?_⟩; gi_at_call 35; refine (CallsIn.inRound l (callsIn_wide.2 (CH2.out _ (below_new ..)))).mono ?_; clear CH2; rintro e w2 ⟨rfl, hb2⟩; have HQ2 := Lib.hid (HQ1.out.on hb2); have HB2 := Lib.hid (below_tr (below_new W _) hb2); have r2 := HQ2.out.r0; have f2 := HQ2.out.rf; clear hb2))
        refine ⟨trivial, ?_⟩
        gi_wp2
        exact ⟨((KeepsFrom.of_grownBy (gb_none HB2.out) (fun j e => by cases e)).trans ((KeepsOthers.setCell _ _ _).from _)), HB.out, HQ2.out.below.setCell (p := ⟨w.heap.size + 1, 0, none⟩) (Nat.le_succ _) _, World.cell?_setCell_same' _ _ _ (by rw [HQ2.out.r0]; rfl)⟩
  case done =>
    rintro D ys W hD rfl hQ hK
    have HF := Lib.hid (show p = true ↔ t.evA.length = nn from by rw [HP.out, HNN.out.1]; exact ⟨fun h => h.2, fun h => ⟨hQ.gd, h⟩⟩)
    obtain ⟨m, hm⟩ : ∃ m, m = t.evA.length := ⟨_, rfl⟩
    rw [← hm] at HF
    have hlen : ∀ ty, (Builtin.len_ #[70] ty #[.map (some (w.heap.size + 1 + 1))]).run Tryz.prog W = .ok (.int .i64 (m : Nat)) W := fun ty => by
      rw [hm, ← size_met hQ.gd.nd]; exact hQ.own.len Tryz.underlying70 ty
    have c3 := hQ.c3
    have b0 := hQ.b0
    have r0 := hQ.r0
    have rf := hQ.rf
    have HB := Lib.hid hQ.below
    clear hm hQ
    gi_wp2
    have hK2 := (KeepsOthers.setCell W ⟨w.heap.size + 1, 0, none⟩ (.bool ((m : Int) == (nn : Int)))).same D _ hK rfl
    refine ⟨by simp, .inl ⟨_, _, rfl, run_takeDeferred hK2, ?_⟩⟩
    have e9 : p = ((m : Int) == (nn : Int)) := by
      rw [Bool.eq_iff_iff, HF.out]; simp; omega
    have c9 := cell_kept (World.cell?_setCell_same' W ⟨w.heap.size + 1, 0, none⟩ (.bool ((m : Int) == (nn : Int))) (by rw [r0]; rfl)) (grownBy_putObj' _ D (.deferred none)) (fun r e => by cases e; exact ⟨_, hK2, rfl⟩)
    refine ⟨.bool p, ?_, rfl, ?_⟩
    · rw [e9]; simp [results, Tryz.results12, go_sem, c9]
    · exact (HB.out.setCell (p := ⟨w.heap.size + 1, 0, none⟩) (Nat.le_succ _) _).trans (belowK_b (w := w) (Nat.le_refl _) _ D _ _ (by omega) hK2 rfl rfl)
  case stop =>
    rintro D ys W hD hpre hQ hK
    obtain rfl : p = false := by
      cases p with
      | false => rfl
      | true => exact absurd ((HP.out.1 rfl).1.pre hpre) hQ.gd
    gi_wp2
    refine ⟨by simp, .inl ⟨_, _, rfl, run_takeDeferred hK, ?_⟩⟩
    have c9 := cell_kept hQ.r0 (grownBy_putObj' _ D (.deferred none)) (fun r e => by cases e; exact ⟨_, hK, rfl⟩)
    refine ⟨.bool false, ?_, rfl, ?_⟩
    · simp [results, Tryz.results12, go_sem, c9]
    · exact hQ.below.trans (belowK_b (w := w) (Nat.le_refl _) _ D _ _ (by omega) hK rfl rfl)
theorem tmay_any {t : Tr} {v : Value} {p : Bool} (w : World) (hv : Tm w v t) (hx : wNs t.nodes ≤ 1000000) (hp : p = true ↔ Fit t) :
    Calls Tryz.prog 12 #[v] w fun e w' => e = .returned (.bool p) ∧ Below w.heap.size w w' := (callsIn_wide (n := 9)).1 (may_in w hv hx hp)
end Tt
end Go.Proofs.YtggeiajbcehkjaaGreatDoor
