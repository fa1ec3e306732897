/- What landed of trees: Value. -/
import Derived.Test.YtggeiajbcehkjaaGreatDoorGbm
namespace Go.Proofs.YtggeiajbcehkjaaGreatDoor
open Go.RowKit
open Va (Bs V v0 Tx Vm Vk Vr vO below_tr below_new heap_alloc_new get_lt vcells vm_zero CP)
namespace Tt
set_option maxRecDepth 100000

theorem tvalue_any {t : Tr} (hb : wNs t.nodes ≤ 1000000) (hs : ∀ x ∈ t.nodes, x.shp = true) (hi : t.ins) : ∀ (f i : Nat), i < t.nodes.length → okD t.sub t.leaf f i → ∀ (w : World) (v : Value), Tm w v t →
    Calls Tryz.prog 36 #[v, .int .i64 (i : Nat)] w fun e w' => (∃ u, e = .returned u ∧ CP (f + 1) w.heap.size w' u (valT t f i)) ∧ Below w.heap.size w w'
  | 0, i, hlt, ⟨x, hx, hk⟩, w, v, hv => by
    have hm := List.mem_of_getElem? hx
    have h0 := shp_leaf (hs x hm) hk
    rw [valT_zero hx]
    exact tval_step (N := 0) hx (by rw [h0]; rfl) (Nat.le_trans (wNs_get hx) hb) (Nat.le_trans (wNs_len _) hb) (fun j s y hj => by rw [h0] at hj; simp at hj) w v hv
  | f + 1, i, hlt, h, w, v, hv => by
    have h : ∀ s ∈ t.sub i, okD t.sub t.leaf f s := h
    obtain ⟨x, hx⟩ := get_lt hlt
    have hm := List.mem_of_getElem? hx
    have hsub : t.sub i = x.subs.map Int.toNat := by rw [Tr.sub, hx]
    rw [valT_succ hx]
    refine tval_step (N := f + 1) hx (by rw [List.length_map, sub_len hx]) (Nat.le_trans (wNs_get hx) hb) (Nat.le_trans (wNs_len _) hb) (fun j s y hj hy w v hv => ?_) w v hv
    rw [hsub, List.map_map, List.getElem?_map, hj] at hy
    obtain rfl : valT t f s.toNat = y := by simpa using hy
    have hr := hi x hm s (List.mem_of_getElem? hj)
    have hmem : s.toNat ∈ t.sub i := by rw [hsub]; exact List.mem_map.2 ⟨s, List.mem_of_getElem? hj, rfl⟩
    have := tvalue_any hb hs hi f s.toNat (by omega) (h _ hmem) w v hv
    rwa [show ((s.toNat : Nat) : Int) = s by omega] at this
open Classical in
/-- A node's value; an empty one, if it has none. -/
noncomputable def VT (t : Tr) (i : Int) : V := if Fit t ∧ 0 ≤ i ∧ i < t.nodes.length then valT t 256 i.toNat else v0
open Classical in
/-- Has it one? -/
noncomputable def hasV (t : Tr) (i : Int) : Bool := decide (Fit t ∧ 0 ≤ i ∧ i < t.nodes.length)
theorem VT_no {t : Tr} {i : Int} (h : hasV t i = false) : VT t i = v0 := by
  classical
  unfold VT; rw [if_neg]; unfold hasV at h; exact of_decide_eq_false h
theorem VT_yes {t : Tr} {i : Int} (h : hasV t i = true) : VT t i = valT t 256 i.toNat ∧ Fit t ∧ 0 ≤ i ∧ i < t.nodes.length := by
  classical
  unfold hasV at h
  have h := of_decide_eq_true h
  exact ⟨by unfold VT; rw [if_pos h], h⟩
theorem cp_zero (N lo : Nat) (w : World) : CP (N + 1) lo w (.agg #[.int .u8 0, .string ⟨#[]⟩, .slice none 0 0, .slice none 0 0]) v0 := by
  refine ⟨fun _ => False, ?_, ⟨0, ⟨#[]⟩, none, none, 0, 0, 0, 0, rfl, Nat.le_refl _, Nat.le_refl _, Nat.zero_le _, Nat.zero_le _, fun _ => rfl, fun _ => rfl, fun h => absurd h (by omega), fun h => absurd h (by omega)⟩, fun _ h => h.elim⟩
  have := Vk.mk (w := w) (ok := fun _ => False) 0 [] [] [] none none 0 0 (fun _ _ => .int .u8 0) (by decide) (Nat.le_refl _) (Nat.zero_le _) (fun _ => rfl) (Nat.le_refl _) (Nat.zero_le _) (fun _ => rfl) (fun h => absurd h (by simp)) (fun h => absurd h (by simp)) (fun h => absurd h (by simp)) (fun h => absurd h (by simp)) (fun i x h => by simp at h)
  exact this
set_option maxHeartbeats 8000000 in
theorem tValue_any {t : Tr} {i : Int} {v : Value} (w : World) (hv : Tm w v t) (hx : wNs t.nodes ≤ 1000000) (hi : i64 i) :
    Calls Tryz.prog 10 #[v, .int .i64 i] w fun e w' => (∃ u, e = .returned (.tuple #[u, .bool (hasV t i)]) ∧ CP 257 w.heap.size w' u (VT t i)) ∧ Below w.heap.size w w' := by
  classical
  have hn5 : t.nodes.length ≤ 1000000 := Nat.le_trans (wNs_len _) hx
  obtain ⟨p, hp⟩ : ∃ p, p = decide (Fit t) := ⟨_, rfl⟩
  obtain ⟨s, hs⟩ : ∃ s, s = decide (0 ≤ i ∧ i < t.nodes.length) := ⟨_, rfl⟩
  have HPS := Lib.hid (show hasV t i = (s && p) from by rw [hp, hs, Bool.eq_iff_iff, Bool.and_eq_true, decide_eq_true_iff, decide_eq_true_iff]; unfold hasV; rw [decide_eq_true_iff]; exact ⟨fun h => ⟨h.2, h.1⟩, fun h => ⟨h.2, h.1⟩⟩)
  obtain ⟨y, hy⟩ : ∃ y, y = VT t i := ⟨_, rfl⟩
  have CH := Lib.hid (fun (X : World) (h : Below w.heap.size w X) => has_any X (hv.on h) hn5 hi hs)
  have CM := Lib.hid (fun (X : World) (h : Below w.heap.size w X) => tmay_any X (hv.on h) hx (show p = true ↔ Fit t from by rw [hp]; exact decide_eq_true_iff))
  have CV := Lib.hid (fun (X : World) (h : Below w.heap.size w X) (e : s = true ∧ p = true) => show Calls Tryz.prog 36 #[v, .int .i64 i] X fun e w' => (∃ u, e = .returned u ∧ CP 257 X.heap.size w' u y) ∧ Below X.heap.size X w' from by
    obtain ⟨h1, h2, h3, h4⟩ := VT_yes (t := t) (i := i) (by rw [HPS.out, e.1, e.2]; rfl)
    have := tvalue_any hx h2.shp h2.ins 256 i.toNat (by omega) (h2.okD (by omega)) X v (hv.on h)
    rwa [show ((i.toNat : Nat) : Int) = i by omega, ← h1, ← hy] at this)
  have HY0 := Lib.hid (show (s && p) = false → y = v0 from fun e => by rw [hy]; exact VT_no (by rw [HPS.out]; exact e))
  rw [HPS.out, ← hy]
  obtain ⟨A, c, rfl, hc1, hc2, hc3, hr, hN⟩ := hv
  obtain ⟨n, hn⟩ : ∃ n, n = t.nodes.length := ⟨_, rfl⟩
  obtain ⟨r, hrr⟩ : ∃ r, r = t.root := ⟨_, rfl⟩
  rw [← hn, ← hrr] at CH CM CV
  rw [← hn, ← hrr]
  clear hN hr hc1 hc2 hc3 hp hs hy hn hrr hx hn5 hi HPS
  obtain ⟨W1, hW1⟩ : ∃ W, W = w.alloc (tO (.slice A n c) (.int .i64 r)) := ⟨_, rfl⟩
  obtain ⟨W2, hW2⟩ : ∃ W, W = W1.alloc (vO (.int .u8 0) (.string ⟨#[]⟩) (.slice none 0 0) (.slice none 0 0)) := ⟨_, rfl⟩
  have hb1 : Below w.heap.size w W1 := by rw [hW1]; exact below_new ..
  have hb2 : Below W1.heap.size W1 W2 := by rw [hW2]; exact below_new ..
  have z1 : W1.heap.size = w.heap.size + 1 := by rw [hW1, s1]
  have b0 : W2.heap[w.heap.size]? = some (tO (.slice A n c) (.int .i64 r)) := (hb2.block _ (by omega)).trans (by rw [hW1]; exact heap_alloc_new ..)
  have b1 : W2.heap[w.heap.size + 1]? = some (vO (.int .u8 0) (.string ⟨#[]⟩) (.slice none 0 0) (.slice none 0 0)) := by rw [← z1, hW2]; exact heap_alloc_new ..
  have HB2 := Lib.hid (below_tr hb1 hb2)
  have HW1 := Lib.hid hW1
  have HW2 := Lib.hid hW2
  clear hW1 hW2 hb1 hb2 z1
  go_enter Tryz.func10, Tryz.ntmps10
  go_upto_region 1 with fail
  rw [← HW1.out, ← HW2.out]
  obtain ⟨h, hh⟩ : ∃ h, h = w.heap.size := ⟨_, rfl⟩
  rw [← hh] at b0 b1 ⊢
  have HH := Lib.hid hh
  clear HW1 HW2 hh
  have HO := Lib.hid b0
  have HP := Lib.hid b1
  have t0 : W2.cell? ⟨h, 0, none⟩ = some (.slice A n c) := by simp [World.cell?, b0]
  have t1 : W2.cell? ⟨h, 1, none⟩ = some (.int .i64 r) := by simp [World.cell?, b0]
  clear b0 b1
  have FIN := Lib.hid (fun (X : World) (hX : Below w.heap.size w X) (a b c d : Value) => show Below w.heap.size w ((((X.setCell ⟨h + 1, 0, none⟩ a).setCell ⟨h + 1, 1, none⟩ b).setCell ⟨h + 1, 2, none⟩ c).setCell ⟨h + 1, 3, none⟩ d) from by
    have hle : w.heap.size ≤ h + 1 := by have := HH.out; omega
    exact (((hX.setCell (p := ⟨h + 1, 0, none⟩) hle _).setCell (p := ⟨h + 1, 1, none⟩) hle _).setCell (p := ⟨h + 1, 2, none⟩) hle _).setCell (p := ⟨h + 1, 3, none⟩) hle _)
  go_wp2_with fail
  refine (CH.out _ HB2.out).mono ?_
  rintro e w3 ⟨rfl, hb⟩
  have HB3 := Lib.hid (below_tr HB2.out hb)
  have HO3 := Lib.hid ((hb.block h (Array.getElem?_eq_some_iff.1 HO.out).1).trans HO.out)
  have HP3 := Lib.hid ((hb.block (h + 1) (Array.getElem?_eq_some_iff.1 HP.out).1).trans HP.out)
  clear hb t0 t1 CH
  cases s with
  | false =>
    have HE := Lib.hid (HY0.out (by rfl))
    clear CM CV HY0
    obtain ⟨⟨r0, r1, r2, r3⟩, f0, f1, f2, f3⟩ := vcells HP3.out
    go_wp2_with fail
    refine bodyPost_ret (v := .tuple #[.agg #[.int .u8 0, .string ⟨#[]⟩, .slice none 0 0, .slice none 0 0], .bool false]) (by simp [results, Tryz.results10, go_sem, *]) rfl ?_
    exact ⟨⟨_, rfl, by rw [HE.out]; exact cp_zero _ _ _⟩, FIN.out _ HB3.out _ _ _ _⟩
  | true =>
    have t0 : w3.cell? ⟨h, 0, none⟩ = some (.slice A n c) := by simp [World.cell?, HO3.out]
    have t1 : w3.cell? ⟨h, 1, none⟩ = some (.int .i64 r) := by simp [World.cell?, HO3.out]
    go_wp2_with fail
    refine (CM.out _ HB3.out).mono ?_
    rintro e w4 ⟨rfl, hb⟩
    have HB4 := Lib.hid (below_tr HB3.out hb)
    have HO4 := Lib.hid ((hb.block h (Array.getElem?_eq_some_iff.1 HO3.out).1).trans HO3.out)
    have HP4 := Lib.hid ((hb.block (h + 1) (Array.getElem?_eq_some_iff.1 HP3.out).1).trans HP3.out)
    clear hb t0 t1 CM
    cases p with
    | false =>
      have HE := Lib.hid (HY0.out (by rfl))
      clear CV HY0
      obtain ⟨⟨r0, r1, r2, r3⟩, f0, f1, f2, f3⟩ := vcells HP4.out
      go_wp2_with fail
      refine bodyPost_ret (v := .tuple #[.agg #[.int .u8 0, .string ⟨#[]⟩, .slice none 0 0, .slice none 0 0], .bool false]) (by simp [results, Tryz.results10, go_sem, *]) rfl ?_
      exact ⟨⟨_, rfl, by rw [HE.out]; exact cp_zero _ _ _⟩, FIN.out _ HB4.out _ _ _ _⟩
    | true =>
      have CV4 := Lib.hid (CV.out w4 HB4.out ⟨by first | rfl | trivial, by first | rfl | trivial⟩)
      have t0 : w4.cell? ⟨h, 0, none⟩ = some (.slice A n c) := by simp [World.cell?, HO4.out]
      have t1 : w4.cell? ⟨h, 1, none⟩ = some (.int .i64 r) := by simp [World.cell?, HO4.out]
      clear CV HY0
      go_wp2_with fail
      refine CV4.out.mono ?_
      rintro e w5 ⟨⟨u, rfl, hu⟩, hb⟩
      have HU := Lib.hid hu
      obtain ⟨ok, a1, a2, a3⟩ := hu
      obtain ⟨pk, pt, pA, pB, pn, pc, pm, pd, rfl⟩ := a2.shape
      have HB5 := Lib.hid (below_tr HB4.out hb)
      have HP5 := Lib.hid ((hb.block (h + 1) (Array.getElem?_eq_some_iff.1 HP4.out).1).trans HP4.out)
      have HL4 := Lib.hid (show h + 1 < w4.heap.size from (Array.getElem?_eq_some_iff.1 HP4.out).1)
      clear hb a1 a2 a3 t0 t1
      obtain ⟨⟨r0, r1, r2, r3⟩, f0, f1, f2, f3⟩ := vcells HP5.out
      go_wp2_with fail
      have hkeep : ∀ g, g ≠ h + 1 → ((((w5.setCell ⟨h + 1, 0, none⟩ (.int .u8 pk)).setCell ⟨h + 1, 1, none⟩ (.string pt)).setCell ⟨h + 1, 2, none⟩ (.slice pA pn pc)).setCell ⟨h + 1, 3, none⟩ (.slice pB pm pd)).heap[g]? = w5.heap[g]? := fun g hg => by
        rw [Go.RowKit.Below.heap_setCell _ _ _ _ hg, Go.RowKit.Below.heap_setCell _ _ _ _ hg, Go.RowKit.Below.heap_setCell _ _ _ _ hg, Go.RowKit.Below.heap_setCell _ _ _ _ hg]
      refine bodyPost_ret (v := .tuple #[.agg #[.int .u8 pk, .string pt, .slice pA pn pc, .slice pB pm pd], .bool true]) (by simp [results, Tryz.results10, go_sem, *]) rfl ?_
      have hl := HL4.out
      have h4 := HB4.out.size
      exact ⟨⟨_, rfl, cp_lo (cp_keep HU.out (fun g h1 _ => hkeep g (by omega)) (by simp)) h4⟩, FIN.out _ HB5.out _ _ _ _⟩
end Tt
end Go.Proofs.YtggeiajbcehkjaaGreatDoor
/- What landed of trees: Same; a node's value is no more than its tree. -/
namespace Go.Proofs.YtggeiajbcehkjaaGreatDoor
open Go.RowKit
open Va (Bs V v0 Tx Vm Vk Vr vO below_tr below_new heap_alloc_new get_lt vcells vm_zero CP)
namespace Tt
set_option maxRecDepth 100000

/-- How much a node is. -/
def wA (t : Tr) (j : Nat) : Nat := match t.nodes[j]? with
  | some x => wN x
  | none => 1
theorem wA_get {t : Tr} {j : Nat} {x : Nd} (h : t.nodes[j]? = some x) : wA t j = wN x := by rw [wA, h]
theorem valT_wt {t : Tr} (hi : t.ins) : ∀ {f i : Nat}, i < t.nodes.length → Va.wt (valT t f i) ≤ ((pre t.sub f i).map (wA t)).sum
  | 0, i, hlt => by
    obtain ⟨x, hx⟩ := get_lt hlt
    rw [valT_zero hx, Va.wt, Va.wtL, pre, List.map_cons, List.map_nil, List.sum_cons, List.sum_nil, wA_get hx]
    unfold wN; omega
  | f + 1, i, hlt => by
    obtain ⟨x, hx⟩ := get_lt hlt
    have h : ∀ l : List Nat, (∀ s ∈ l, s < t.nodes.length) → Va.wtL (l.map (valT t f)) ≤ ((l.flatMap (pre t.sub f)).map (wA t)).sum := by
      intro l
      induction l with
      | nil => intro _; exact Nat.zero_le _
      | cons s r ih =>
        intro hl
        have h1 := valT_wt hi (f := f) (hl s (List.mem_cons_self ..))
        have h2 := ih fun y hy => hl y (List.mem_cons_of_mem _ hy)
        rw [List.map_cons, Va.wtL, List.flatMap_cons, List.map_append, List.sum_append]; omega
    have h1 := h _ (sub_lt hi i)
    rw [valT_succ hx, Va.wt, pre, List.map_cons, List.sum_cons, wA_get hx]
    unfold wN; omega
theorem nodup_sum (g : Nat → Nat) : ∀ (n : Nat) (l : List Nat), l.Nodup → (∀ j ∈ l, j < n) → (l.map g).sum ≤ ((List.range n).map g).sum
  | 0, l, _, hl => by
    cases l with
    | nil => exact Nat.le_refl _
    | cons a r => have := hl a (List.mem_cons_self ..); omega
  | n + 1, l, hd, hl => by
    rw [List.range_succ, List.map_append, List.sum_append]
    by_cases hm : n ∈ l
    · have hp := List.perm_cons_erase hm
      have h1 := nodup_sum g n (l.erase n) (hd.erase n) (fun j hj => by
        have h2 := (List.Nodup.mem_erase_iff hd).1 hj
        have := hl j h2.2
        have := h2.1
        omega)
      have h3 := (hp.map g).sum_nat
      rw [List.map_cons, List.sum_cons] at h3
      rw [h3]
      simp; omega
    · have h1 := nodup_sum g n l hd (fun j hj => by
        have := hl j hj
        have : j ≠ n := fun e => hm (e ▸ hj)
        omega)
      simp; omega
theorem wNs_range (t : Tr) : ((List.range t.nodes.length).map (wA t)).sum = wNs t.nodes := by
  have h : ∀ l : List Nd, ((List.range l.length).map fun i => match l[i]? with | some x => wN x | none => 1).sum = wNs l := by
    intro l
    induction l with
    | nil => rfl
    | cons x r ih =>
      rw [List.length_cons, List.range_succ_eq_map, List.map_cons, List.sum_cons, List.map_map, wNs, ← ih]
      rfl
  exact h t.nodes
theorem Fit.wt {t : Tr} (h : Fit t) {i : Nat} (hi : i < t.nodes.length) : Va.wt (valT t 256 i) ≤ wNs t.nodes := by
  have ho := (ref_fit.2 h).onep
  obtain ⟨a, ha⟩ := pre_rch (h.per.mem_iff.2 (List.mem_range.2 hi))
  have h1 := valT_wt h.ins (f := 256) hi
  have h2 := nodup_sum (wA t) t.nodes.length _ (ho.nodup (f := 256) ha) (pre_lt (sub_lt h.ins) hi)
  rw [wNs_range] at h2
  omega
theorem VT_wt {t : Tr} {i : Int} (hx : wNs t.nodes ≤ 1000000) : Va.wt (VT t i) ≤ 1000000 := by
  cases h : hasV t i with
  | false => rw [VT_no h]; decide
  | true =>
    obtain ⟨h1, h2, h3, h4⟩ := VT_yes h
    rw [h1]
    exact Nat.le_trans (h2.wt (by omega)) hx
theorem VT_may {t : Tr} {i : Int} (h : hasV t i = true) : Va.may (VT t i) = true := by
  obtain ⟨h1, h2, h3, h4⟩ := VT_yes h
  rw [h1]; exact h2.may (by omega)
set_option maxHeartbeats 8000000 in
theorem tSame_any {t u : Tr} {i j : Int} {v z : Value} (w : World) (hv : Tm w v t) (hu : Tm w z u) (hx : wNs t.nodes ≤ 1000000) (hy : wNs u.nodes ≤ 1000000) (hi : i64 i) (hj : i64 j) :
    Calls Tryz.prog 15 #[v, .int .i64 i, z, .int .i64 j] w fun e w' => e = .returned (.bool (hasV t i && hasV u j && Va.sm (VT t i) (VT u j))) ∧ Below w.heap.size w w' := by
  have CV := Lib.hid (fun (X : World) (h : Below w.heap.size w X) => tValue_any X (hv.on h) hx hi)
  have CU := Lib.hid (fun (X : World) (h : Below w.heap.size w X) => tValue_any X (hu.on h) hy hj)
  have CS := Lib.hid (fun (X : World) (a b : Value) (ha : Vm X a (VT t i)) (hb : Vm X b (VT u j)) (e : hasV t i = true ∧ hasV u j = true) => by
    have := Va.lsame_any X ha hb (VT_wt hx) (VT_wt hy)
    rw [VT_may e.1, VT_may e.2, Bool.true_and, Bool.true_and] at this
    exact this)
  obtain ⟨p, hp⟩ : ∃ p, p = hasV t i := ⟨_, rfl⟩
  obtain ⟨q, hq⟩ : ∃ q, q = hasV u j := ⟨_, rfl⟩
  obtain ⟨s, hs⟩ : ∃ s, s = Va.sm (VT t i) (VT u j) := ⟨_, rfl⟩
  rw [← hp] at CV
  rw [← hq] at CU
  rw [← hp, ← hq, ← hs] at CS
  rw [← hp, ← hq, ← hs]
  obtain ⟨A, c, rfl, _, _, _, _, _⟩ := hv
  obtain ⟨B, d, rfl, _, _, _, _, _⟩ := hu
  obtain ⟨n, hn⟩ : ∃ n, n = t.nodes.length := ⟨_, rfl⟩
  obtain ⟨r, hrr⟩ : ∃ r, r = t.root := ⟨_, rfl⟩
  obtain ⟨m, hm⟩ : ∃ n, n = u.nodes.length := ⟨_, rfl⟩
  obtain ⟨k, hkk⟩ : ∃ r, r = u.root := ⟨_, rfl⟩
  rw [← hn, ← hrr] at CV
  rw [← hm, ← hkk] at CU
  rw [← hn, ← hrr, ← hm, ← hkk]
  clear hp hq hs hn hrr hm hkk hx hy hi hj
  obtain ⟨W1, hW1⟩ : ∃ W, W = w.alloc (tO (.slice A n c) (.int .i64 r)) := ⟨_, rfl⟩
  obtain ⟨W2, hW2⟩ : ∃ W, W = W1.alloc (tO (.slice B m d) (.int .i64 k)) := ⟨_, rfl⟩
  have hb1 : Below w.heap.size w W1 := by rw [hW1]; exact below_new ..
  have hb2 : Below W1.heap.size W1 W2 := by rw [hW2]; exact below_new ..
  have z1 : W1.heap.size = w.heap.size + 1 := by rw [hW1, s1]
  have b0 : W2.heap[w.heap.size]? = some (tO (.slice A n c) (.int .i64 r)) := (hb2.block _ (by omega)).trans (by rw [hW1]; exact heap_alloc_new ..)
  have b1 : W2.heap[w.heap.size + 1]? = some (tO (.slice B m d) (.int .i64 k)) := by rw [← z1, hW2]; exact heap_alloc_new ..
  have HB2 := Lib.hid (below_tr hb1 hb2)
  have HW1 := Lib.hid hW1
  have HW2 := Lib.hid hW2
  clear hW1 hW2 hb1 hb2 z1
  go_enter Tryz.func15, Tryz.ntmps15
  go_upto_region 1 with fail
  rw [← HW1.out, ← HW2.out]
  obtain ⟨h, hh⟩ : ∃ h, h = w.heap.size := ⟨_, rfl⟩
  rw [← hh] at b0 b1 ⊢
  clear HW1 HW2 hh
  have HP := Lib.hid b1
  have t0 : W2.cell? ⟨h, 0, none⟩ = some (.slice A n c) := by simp [World.cell?, b0]
  have t1 : W2.cell? ⟨h, 1, none⟩ = some (.int .i64 r) := by simp [World.cell?, b0]
  clear b0 b1
  go_wp2_with fail
  refine (CV.out _ HB2.out).mono ?_
  rintro e w3 ⟨⟨a, rfl, ha⟩, hb⟩
  have HB3 := Lib.hid (below_tr HB2.out hb)
  have HP3 := Lib.hid ((hb.block (h + 1) (Array.getElem?_eq_some_iff.1 HP.out).1).trans HP.out)
  obtain ⟨ok, a1, a2, a3⟩ := ha
  obtain ⟨pk, pt, pA, pB, pn, pc, pm, pd, rfl⟩ := a2.shape
  have HA := Lib.hid a1.vm
  clear hb a1 a2 a3 t0 t1 CV
  go_upto_region 2 with fail
  obtain ⟨W4, hW4⟩ : ∃ W, W = w3.alloc (vO (.int .u8 pk) (.string pt) (.slice pA pn pc) (.slice pB pm pd)) := ⟨_, rfl⟩
  rw [← hW4]
  have hb4 : Below w3.heap.size w3 W4 := by rw [hW4]; exact below_new ..
  have HB4 := Lib.hid (below_tr HB3.out hb4)
  have HP4 := Lib.hid ((hb4.block (h + 1) (Array.getElem?_eq_some_iff.1 HP3.out).1).trans HP3.out)
  have HA4 := Lib.hid (HA.out.on hb4)
  have HX4 := Lib.hid (show W4.heap[w3.heap.size]? = some (vO (.int .u8 pk) (.string pt) (.slice pA pn pc) (.slice pB pm pd)) from by rw [hW4]; exact heap_alloc_new ..)
  obtain ⟨g1, hg1⟩ : ∃ g, g = w3.heap.size := ⟨_, rfl⟩
  rw [← hg1] at HX4 ⊢
  clear hb4 hW4 hg1
  have t0 : W4.cell? ⟨h + 1, 0, none⟩ = some (.slice B m d) := by simp [World.cell?, HP4.out]
  have t1 : W4.cell? ⟨h + 1, 1, none⟩ = some (.int .i64 k) := by simp [World.cell?, HP4.out]
  go_wp2_with fail
  refine (CU.out _ HB4.out).mono ?_
  rintro e w5 ⟨⟨b, rfl, hb⟩, hbb⟩
  have HB5 := Lib.hid (below_tr HB4.out hbb)
  have HA5 := Lib.hid (HA4.out.on hbb)
  have HX5 := Lib.hid ((hbb.block g1 (Array.getElem?_eq_some_iff.1 HX4.out).1).trans HX4.out)
  obtain ⟨ok, a1, a2, a3⟩ := hb
  obtain ⟨qk, qt, qA, qB, qn, qc, qm, qd, rfl⟩ := a2.shape
  have HZ := Lib.hid a1.vm
  clear hbb a1 a2 a3 t0 t1 CU
  go_upto_region 3 with fail
  obtain ⟨W6, hW6⟩ : ∃ W, W = w5.alloc (vO (.int .u8 qk) (.string qt) (.slice qA qn qc) (.slice qB qm qd)) := ⟨_, rfl⟩
  rw [← hW6]
  have hb6 : Below w5.heap.size w5 W6 := by rw [hW6]; exact below_new ..
  have HB6 := Lib.hid (below_tr HB5.out hb6)
  have HA6 := Lib.hid (HA5.out.on hb6)
  have HZ6 := Lib.hid (HZ.out.on hb6)
  have HX6 := Lib.hid ((hb6.block g1 (Array.getElem?_eq_some_iff.1 HX5.out).1).trans HX5.out)
  have HY6 := Lib.hid (show W6.heap[w5.heap.size]? = some (vO (.int .u8 qk) (.string qt) (.slice qA qn qc) (.slice qB qm qd)) from by rw [hW6]; exact heap_alloc_new ..)
  obtain ⟨g2, hg2⟩ : ∃ g, g = w5.heap.size := ⟨_, rfl⟩
  rw [← hg2] at HY6 ⊢
  clear hb6 hW6 hg2
  cases p with
  | false =>
    clear CS
    go_wp2_with fail
    go_ret
    exact ⟨by first | rfl | trivial, HB6.out⟩
  | true =>
    cases q with
    | false =>
      clear CS
      go_wp2_with fail
      go_ret
      exact ⟨by first | rfl | trivial, HB6.out⟩
    | true =>
      have CS6 := Lib.hid (CS.out W6 _ _ HA6.out HZ6.out ⟨by first | rfl | trivial, by first | rfl | trivial⟩)
      obtain ⟨⟨x0, x1, x2, x3⟩, _⟩ := vcells HX6.out
      obtain ⟨⟨y0, y1, y2, y3⟩, _⟩ := vcells HY6.out
      clear CS
      go_wp2_with fail
      refine CS6.out.mono ?_
      rintro e w7 ⟨rfl, hb⟩
      have HB7 := Lib.hid (below_tr HB6.out hb)
      clear hb x0 x1 x2 x3 y0 y1 y2 y3
      go_wp2_with fail
      go_ret
      exact ⟨by first | rfl | (simp), HB7.out⟩
end Tt
end Go.Proofs.YtggeiajbcehkjaaGreatDoor
