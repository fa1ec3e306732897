/- A value's tree may be; its root's value is the value; with a node more, or a Sub twice, it may not be. -/
import Derived.Test.YtggeiajbcehkjaaGreatDoorGbq
import Derived.Test.YtggeiajbcehkjaaGreatDoorGay
import Derived.Test.YtggeiajbcehkjaaGreatDoorGam
import Derived.Test.YtggeiajbcehkjaaGreatDoorGab
namespace Go.Proofs.YtggeiajbcehkjaaGreatDoor
open Va (Bs V v0 get_lt)
namespace Tt
theorem plL_rep : ∀ n : Nat, Va.plL (List.replicate n v0) = true
  | 0 => by rw [List.replicate_zero, Va.plL]
  | n + 1 => by rw [List.replicate_succ, Va.plL, plL_rep n]; decide
theorem dpL_rep : ∀ n : Nat, Va.dpL (List.replicate n v0) = 0
  | 0 => by rw [List.replicate_zero, Va.dpL]
  | n + 1 => by rw [List.replicate_succ, Va.dpL, dpL_rep n]; decide
theorem self_may {x : Nd} (h : Va.plH x.kind x.text x.subs.length x.keys = true) : Va.may x.self = true := by
  unfold Nd.self Va.may
  rw [Bool.and_eq_true, Va.pl, List.length_replicate, plL_rep, Bool.and_true]
  refine ⟨decide_eq_true ?_, h⟩
  rw [Va.dp, dpL_rep]
  split <;> omega
mutual
theorem nds_shp : ∀ (b : Nat) (x : V), Va.pl x = true → ∀ y ∈ nds b x, y.shp = true
  | b, .mk k t l ks, h => by
    rw [Va.pl, Bool.and_eq_true] at h
    intro y hy
    rw [nds] at hy
    rcases List.mem_cons.1 hy with rfl | hy
    · unfold Nd.shp
      rw [Bool.and_eq_true]
      refine ⟨decide_eq_true (by simp), self_may ?_⟩
      show Va.plH k t ((posL (b + 1) l).map Int.ofNat).length ks = true
      rw [List.length_map, posL_len]; exact h.1
    · exact ndsL_shp (b + 1) l h.2 y hy
theorem ndsL_shp : ∀ (b : Nat) (l : List V), Va.plL l = true → ∀ y ∈ ndsL b l, y.shp = true
  | _, [], _, y, hy => by rw [ndsL] at hy; cases hy
  | b, x :: r, h, y, hy => by
    rw [Va.plL, Bool.and_eq_true] at h
    rw [ndsL] at hy
    rcases List.mem_append.1 hy with hy | hy
    · exact nds_shp b x h.1 y hy
    · exact ndsL_shp _ r h.2 y hy
end
theorem posL_in : ∀ (b : Nat) (l : List V), ∀ p ∈ posL b l, b ≤ p ∧ p < b + Va.szL l
  | _, [], p, h => by rw [posL] at h; cases h
  | b, x :: r, p, h => by
    rw [posL] at h
    have := sz_pos x
    rw [Va.szL]
    rcases List.mem_cons.1 h with rfl | h
    · omega
    · have := posL_in _ r p h; omega
mutual
theorem nds_ins : ∀ (b : Nat) (x : V), ∀ y ∈ nds b x, ∀ s ∈ y.subs, (b : Int) ≤ s ∧ s < b + Va.sz x
  | b, .mk k t l ks => by
    intro y hy s hs
    rw [nds] at hy
    rw [Va.sz]
    rcases List.mem_cons.1 hy with rfl | hy
    · obtain ⟨p, hp, rfl⟩ := List.mem_map.1 hs
      have := posL_in _ l p hp
      show ((b : Nat) : Int) ≤ ((p : Nat) : Int) ∧ ((p : Nat) : Int) < _
      omega
    · have := ndsL_ins (b + 1) l y hy s hs; omega
theorem ndsL_ins : ∀ (b : Nat) (l : List V), ∀ y ∈ ndsL b l, ∀ s ∈ y.subs, (b : Int) ≤ s ∧ s < b + Va.szL l
  | _, [], y, hy => by rw [ndsL] at hy; cases hy
  | b, x :: r, y, hy => by
    intro s hs
    rw [ndsL] at hy
    rw [Va.szL]
    rcases List.mem_append.1 hy with hy | hy
    · have := nds_ins b x y hy s hs; omega
    · have := ndsL_ins _ r y hy s hs; omega
end
theorem mkT_yes {x : V} (h : Va.may x = true) : mkT x = ⟨nds 0 x, 0⟩ := by unfold mkT; rw [h]; rfl
theorem may_dp {x : V} (h : Va.may x = true) : Va.dp x ≤ 256 := by
  unfold Va.may at h
  rw [Bool.and_eq_true] at h
  exact of_decide_eq_true h.1
theorem mk_all {x : V} (h : Va.may x = true) : pre (mkT x).sub 256 0 = List.range' 0 (Va.sz x) ∧ okD (mkT x).sub (mkT x).leaf 256 0 ∧ valT (mkT x) 256 0 = x := by
  rw [mkT_yes h]
  exact nds_all 256 0 x ⟨nds 0 x, 0⟩ (fun i y hy => by rw [Nat.zero_add]; exact hy) (Va.may_pl h) (may_dp h)
theorem mk_len {x : V} (h : Va.may x = true) : (mkT x).nodes.length = Va.sz x := by rw [mkT_yes h]; exact nds_len 0 x
/-- A value's tree may be. -/
theorem mk_fit {x : V} (h : Va.may x = true) : Fit (mkT x) := by
  obtain ⟨h1, h2, _⟩ := mk_all h
  have hl := mk_len h
  refine ⟨?_, ?_, ?_, ?_, ?_⟩
  · rw [hl, show (mkT x).root = 0 from by rw [mkT_yes h]]
    have := sz_pos x; omega
  · intro y hy
    rw [mkT_yes h] at hy
    exact nds_shp 0 x (Va.may_pl h) y hy
  · intro y hy s hs
    rw [hl]
    rw [mkT_yes h] at hy
    have := nds_ins 0 x y hy s hs
    omega
  · rw [show (mkT x).root.toNat = 0 from by rw [mkT_yes h]; rfl]; exact h2
  · rw [show (mkT x).root.toNat = 0 from by rw [mkT_yes h]; rfl, h1, hl, ← List.range_eq_range']
/-- Its root's value is the value. -/
theorem mk_val {x : V} (h : Va.may x = true) : hasV (mkT x) 0 = true ∧ VT (mkT x) 0 = x := by
  have hf := mk_fit h
  have hs := sz_pos x
  have hl := mk_len h
  have h1 : hasV (mkT x) 0 = true := by
    classical
    unfold hasV
    exact decide_eq_true ⟨hf, by omega, by omega⟩
  exact ⟨h1, by rw [(VT_yes h1).1]; exact (mk_all h).2.2⟩
/-- Like another tree's Subs, as far as that has nodes. -/
theorem pre_same {s s' : Nat → List Nat} {n : Nat} (h : ∀ p, p < n → s' p = s p) (hs : ∀ p, ∀ j ∈ s p, j < n) : ∀ (f i : Nat), i < n → pre s' f i = pre s f i
  | 0, _, _ => rfl
  | f + 1, i, hi => by
    rw [pre, pre, h i hi]
    congr 1
    exact flatMap_same fun j hj => pre_same h hs f j (hs i j hj)
/-- With a node more that is not reached it may not be. -/
theorem more_no {t : Tr} {x : Nd} (hf : Fit t) : ¬ Fit ⟨t.nodes ++ [x], t.root⟩ := fun hm => by
  have h1 := hm.per.length_eq
  have hsub : ∀ p, p < t.nodes.length → Tr.sub ⟨t.nodes ++ [x], t.root⟩ p = t.sub p := fun p hp => by
    unfold Tr.sub
    rw [List.getElem?_append_left hp]
  have h2 := pre_same hsub (sub_lt hf.ins) 256 t.root.toNat (root_lt hf.root)
  have h3 := hf.per.length_eq
  rw [show (Tr.root ⟨t.nodes ++ [x], t.root⟩).toNat = t.root.toNat from rfl, h2, h3, List.length_range, List.length_range] at h1
  simp at h1
/-- With a Sub that is one twice it may not be. -/
theorem twice_no {t : Tr} {n : Nat} {x : Nd} {a : Int} {r : List Int} (hx : t.nodes[n]? = some x) (hs : x.subs = a :: a :: r) : ¬ Fit t := fun hf => by
  have := (ref_fit.2 hf).onep.nd n
  rw [Tr.sub, hx] at this
  have this : (x.subs.map Int.toNat).Nodup := this
  rw [hs] at this
  simp at this
end Tt
end Go.Proofs.YtggeiajbcehkjaaGreatDoor
/- What landed of trees: Slice, of a span that has bytes; it may not be. -/
namespace Go.Proofs.YtggeiajbcehkjaaGreatDoor
open Go.RowKit
open Va (Bs below_tr below_new heap_alloc_new gb_call gb_tr gb_below)
namespace Tt
set_option maxRecDepth 100000

set_option maxHeartbeats 8000000 in
/-- A span that has bytes. -/
theorem slice_some {l : List UInt8} {A : Option Addr} {n c f t m : Nat} (w : World) (hA : Byt w w.heap.size A l) (hn : n = l.length) (hnc : n ≤ c) (hn9 : n ≤ 1000000) (hft : f + m = t) (hm : 0 < m) (htn : t ≤ n) :
    Calls Tryz.prog 24 #[.slice A n c, .agg #[.int .i64 (f : Nat), .int .i64 (t : Nat)]] w fun e w' => (∃ v, e = .returned v ∧ w'.ownsRow w.heap.size 5 1 v m (bytV ((l.drop f).take m)) ∧ v.ownBlock ≠ none) ∧ Below w.heap.size w w' := by
  obtain ⟨ii, hi, hz0, hz1, hz2⟩ := info_parts (show (Tryz.prog.info? 5).map (fun i => (i.zero, i.size, i.bytes)) = some (some (.int .u8 0), 1, 1) by kernel_rfl)
  obtain ⟨g, o, rfl, hg, hf⟩ := hA.at_ (k := 0) (by omega)
  have HL := Lib.hid (show ∀ (j : Nat) (u : Value), (bytV ((l.drop f).take m))[j]? = some u → w.cell? ((⟨g, o + f, none⟩ : Addr).add j) = some u from fun j u hu => by
    obtain ⟨h1, rfl⟩ := bytV_at hu
    rw [addAt, bt_take _ (by simp at h1; omega), bt_drop, Nat.add_assoc]
    have := hf (f + j) (by simp at h1; omega)
    rw [this])
  have HLE := Lib.hid (show (bytV ((l.drop f).take m)).length = m * 1 from by rw [bytV_len, List.length_take, List.length_drop]; omega)
  obtain ⟨ys, hys⟩ : ∃ ys, ys = bytV ((l.drop f).take m) := ⟨_, rfl⟩
  have HONE := Lib.hid (show ∀ u ∈ ys, u.oneCell' = true from by rw [hys]; exact bytV_one _)
  rw [← hys] at HL HLE ⊢
  have hmt : (t : Int) - (f : Int) = (m : Int) := by omega
  have hmc : (m : Nat) ≤ 1000000 := by omega
  clear hA hf hn hys
  have hwr : IntKind.i64.wrap (m : Int) = (m : Int) := by rw [IntKind.wrap_i64]; omega
  have f1 : ¬ ((f : Int) < 0) := by omega
  have f2 : ¬ ((n : Int) < (t : Int)) := by omega
  have f3 : ¬ ((t : Int) < (f : Int)) := by omega
  obtain ⟨O, HO⟩ : ∃ O, Hid (O = Obj.cells (madeCells #[.int .u8 0] (m * 1)) 5) := ⟨_, Lib.hid rfl⟩
  have HMK : ∀ w', (Instr.makeSlice 41 (.int .i64 0) (.int .i64 (m : Int))).run Tryz.prog w' = .ok (.slice (some ⟨w'.heap.size, 0, none⟩) 0 m) (w'.alloc O) := fun w' => by
    have := run_make (P := Tryz.prog) w' 41 5 ii _ Tryz.underlying41 hi hz0 .i64 .i64 0 (m : Int) (by omega) (by omega) (by rw [hz2]; omega) (by omega)
    rw [this, hz1, HO.out]; rfl
  have HSL : ∀ w', (Instr.sliceAt 41 (.slice (some ⟨g, o, none⟩) n c) (some (.int .i64 (f : Int))) (some (.int .i64 (t : Int))) none).run Tryz.prog w' = .ok (.slice (some ⟨g, o + f, none⟩) m (c - f)) w' := fun w' => by
    rw [run_sliceAt_slice _ _ _ _ _ _ (by kernel_rfl), run_slice_lh _ _ _ _ _ (by kernel_rfl) _ _ _ _ (by omega) (by omega) (by omega), show (sizeOf (Tryz.prog.elem 41)).run Tryz.prog w' = .ok 1 w' from by kernel_rfl]
    have h9 : ¬ c = f := by omega
    have h8 : t - f = m := by omega
    simp [Result.andThen, sliced, Addr.add, h9, h8]
    try omega
  have NEW := Lib.hid (fun (X : World) (hX : w.heap.size ≤ X.heap.size) => show (X.alloc O).ownsRow w.heap.size 5 1 (.slice (some ⟨X.heap.size, 0, none⟩) 0 m) 0 [] from by
    have e := World.ownsRow_made (base := w.heap.size) (e := 5) (size := 1) X (madeCells #[.int .u8 0] (m * 1)) m hX (by unfold maxLen; omega) (by rw [size_madeCells])
    rw [← HO.out] at e; exact e)
  obtain ⟨h, hh⟩ : ∃ h, h = w.heap.size := ⟨_, rfl⟩
  obtain ⟨W1, hW1⟩ : ∃ W, W = w.alloc (.cells #[.int .i64 (f : Nat), .int .i64 (t : Nat)] 43) := ⟨_, rfl⟩
  have HB1 := Lib.hid (show Below w.heap.size w W1 from by rw [hW1]; exact below_new ..)
  have hx1 : W1.heap[h]? = some (.cells #[.int .i64 (f : Nat), .int .i64 (t : Nat)] 43) := by rw [hW1, hh]; exact heap_alloc_new ..
  have HW1 := Lib.hid hW1
  clear hW1
  go_enter Tryz.func24, Tryz.ntmps24
  go_upto_region 1 with fail
  rw [← HW1.out, ← hh]
  have HH := Lib.hid hh
  clear HW1 hh
  have c0 : W1.cell? ⟨h, 0, none⟩ = some (.int .i64 (f : Nat)) := by simp [World.cell?, hx1]
  have c1 : W1.cell? ⟨h, 1, none⟩ = some (.int .i64 (t : Nat)) := by simp [World.cell?, hx1]
  have hl1 : h < W1.heap.size := (Array.getElem?_eq_some_iff.1 hx1).1
  clear hx1
  go_upto_region 3 with fail
  have d0 : (W1.alloc O).cell? ⟨h, 0, none⟩ = some (.int .i64 (f : Nat)) := by rw [World.cell?_alloc_lt _ _ _ hl1]; exact c0
  have d1 : (W1.alloc O).cell? ⟨h, 1, none⟩ = some (.int .i64 (t : Nat)) := by rw [World.cell?_alloc_lt _ _ _ hl1]; exact c1
  have hws := HB1.out.size
  have HSZ := Lib.hid (show w.heap.size ≤ (W1.alloc O).drew.heap.size from by show w.heap.size ≤ (W1.alloc O).heap.size; rw [s1]; omega)
  have HXX := Lib.hid (fun (X : World) (hX : (W1.alloc O).drew.grownBy X (some W1.heap.size)) => show X.cell? ⟨h, 0, none⟩ = some (.int .i64 (f : Nat)) ∧ X.cell? ⟨h, 1, none⟩ = some (.int .i64 (t : Nat)) from by
    have e := hX.block h (by show h < (W1.alloc O).heap.size; rw [s1]; omega) (fun e => by injection e with e; omega)
    exact ⟨Va.cell_eq e d0, Va.cell_eq e d1⟩)
  have HBB := Lib.hid (fun (X : World) (hX : (W1.alloc O).drew.grownBy X (some W1.heap.size)) => show Below w.heap.size w X from (HB1.out.alloc HB1.out.size O).drew.trans (gb_below hX HB1.out.size HSZ.out))
  clear hws
  go_region_held_law (fun X => X.cell? ⟨h, 0, none⟩ = some (.int .i64 (f : Nat)) ∧ X.cell? ⟨h, 1, none⟩ = some (.int .i64 (t : Nat))) (first | exact ⟨c0, c1⟩ | exact ⟨d0, d1⟩ | exact HX5.out)
    (first
      | (refine step_append_lies _ rfl (.tmp 27) (.tmp 33) 41 rfl w.heap.size 5 ii (.int .u8 0) 1 1 Tryz.underlying41 hi hz0 hz1 hz2 rfl (by decide) (.slice (some ⟨W1.heap.size, 0, none⟩) 0 m) 0 [] (by simp [Act.eval]) (NEW.out W1 HB1.out.size) ⟨g, o + f, none⟩ m (c - f) ys (by simp [Act.eval]) HLE.out (fun j u hu => ((HB1.out.alloc HB1.out.size O).cell (p := (⟨g, o + f, none⟩ : Addr).add j) (by rw [addAt]; exact hg)).trans (HL.out j u hu)) HONE.out hm (by unfold maxLen; omega) (by omega) HSZ.out _ rfl ?_; intro g5 c5 w5 own5 hg5 hb5 hl5; have HX5 := Lib.hid (HXX.out w5 hg5); have HB5 := Lib.hid (HBB.out w5 hg5); have HO5 := Lib.hid own5; clear own5 hg5 hb5))
  all_goals
    go_wp2_with fail
    go_ret
    exact ⟨⟨_, rfl, by have e := HO5.out; rw [Nat.zero_add, List.nil_append] at e; exact e, by simp [Value.ownBlock]⟩, HB5.out⟩
end Tt
end Go.Proofs.YtggeiajbcehkjaaGreatDoor
