/- What landed of values: the library's iterator over a map's keys, its sorted keys. -/
import Derived.RangeFuncBox
import Derived.RangeFuncLeaves
import Derived.Shelf.Abstract
import Derived.WalkKit
import Derived.OwnWalkIn
import Derived.TacticsInMore
import Derived.LoopNIn
import Derived.LoopIn
import Derived.Maps.AppendAt
import Derived.Sort.OwnSorted
import Derived.Test.YtnnlgodgaolkkaaGreatDoorHd
import Derived.Test.YtnnlgodgaolkkaaGreatDoorShelfm
namespace Go.Proofs.YtnnlgodgaolkkaaGreatDoor
open Go.RowKit Go.Shelf
attribute [local go_sem] Oper.semAt_some
namespace Va
set_option maxRecDepth 100000

theorem takeW_more {l : List Bs} {k : Nat} {t : Bs} (h : l[k]? = some t) : l.take (k + 1) = l.take k ++ [t] := by rw [List.take_add_one, h]; rfl
set_option maxHeartbeats 4000000 in
/-- The iterator over a row of texts. -/
theorem vals1_in (F : Fence) (n : Nat) (hf : F.fn 90) (hro : F.round = none) (hn : 1 ≤ n) (l q n0 m cap : Nat) (A : Option Addr) (ks : List Bs) (hm : m = ks.length) (hmb : m ≤ 1000000) (hb : 0 < ks.length → ∀ g o, A = some ⟨g, o, none⟩ → g < n0) (J Jx : List Bs → World → Prop)
    (hY : ∀ pre x W, J pre W → pre.length < ks.length → YieldAt F (n - 1) Tryz.prog l #[.string (txt x)] W fun e W' => (e = .returned (.bool true) ∧ J (pre ++ [x]) W' ∧ Below n0 W W') ∨ (e = .returned (.bool false) ∧ Jx (pre ++ [x]) W'))
    (W : World) (hq : W.cell? ⟨q, 0, none⟩ = some (.slice A m cap)) (hK : Tx W A ks) (h0 : J [] W) :
    CallsIn F n Tryz.prog 90 #[.func (.yield l) #[] #[], .pointer (some ⟨q, 0, none⟩)] W fun e W' => (∃ v, e = .returned v) ∧ ((∃ ys, ys = ks ∧ J ys W') ∨ (∃ pre, pre <+: ks ∧ Jx pre W')) := by
  have HY := Lib.hid hY
  have HK := Lib.hid hK
  have HM := Lib.hid hm
  have HB := Lib.hid hb
  clear hY hK hm hb
  refine callsIn_of_wp Tryz.func90 rfl hf ?_ hro
  simp only [Tryz.ntmps90, List.size_toArray, List.length_cons, List.length_nil, Nat.reduceAdd, Nat.reduceSub, Array.replicate_succ, Array.replicate_zero, List.push_toArray, List.append_toArray, List.nil_append, List.cons_append]
  gi_wp2
  gi_loopw [4, 7] (fun _ i wr => ∃ k : Nat, k ≤ m ∧ i = .int .i64 k ∧ Hid (J (ks.take k) wr ∧ Below n0 W wr)) (fun _ i _ => m - (intOf i).toNat)
  case atStart => exact ⟨0, Nat.zero_le _, rfl, Lib.hid ⟨by rw [List.take_zero]; exact h0, Below.refl _ _⟩⟩
  case round =>
    obtain ⟨k, hk, rfl, HQ⟩ := hrel
    by_cases hlt : k < m
    · obtain ⟨t, ht⟩ := get_lt (l := ks) (i := k) (by rw [← HM.out]; exact hlt)
      obtain ⟨g, o, rfl, hg, hf1⟩ := HK.out (by rw [← HM.out]; omega)
      have hcx : wr.cell? ⟨g, o + k, none⟩ = some (.string (txt t)) := (HQ.out.2.cell (p := ⟨g, o + k, none⟩) (HB.out (by rw [← HM.out]; omega) _ _ rfl)).trans (hf1 k t ht)
      obtain ⟨fn, tmps, assign, body, hy, hR⟩ := HY.out _ t wr HQ.out.1 (by rw [List.length_take, ← HM.out]; omega)
      have HE := Lib.hid (takeW_more ht)
      have HTK := Lib.hid ht
      obtain ⟨T, hT⟩ : ∃ T, T = txt t := ⟨_, rfl⟩
      rw [← hT] at hcx hy
      clear ht hf1 hT
      gi_wp2
      refine hR.mono ?_
      rintro e W3 (⟨rfl, hJ3, hk3⟩ | ⟨rfl, hJx3⟩)
      · have HQ3 := Lib.hid (show J (ks.take (k + 1)) W3 ∧ Below n0 W W3 from ⟨by rw [HE.out]; exact hJ3, HQ.out.2.trans hk3⟩)
        clear hJ3 hk3 hR hy hcx
        gi_wp2
        go_roundw
        case rel => exact ⟨k + 1, by omega, by go_num, HQ3⟩
        case measure => simp [intOf]; omega
      · have HX3 := Lib.hid (show ∃ pre, pre <+: ks ∧ Jx pre W3 from ⟨_, by rw [← HE.out]; exact List.take_prefix _ _, hJx3⟩)
        clear hJx3 hR hy hcx
        gi_wp2
        refine bodyPost_ret (results_none rfl _ _ _) rfl ?_
        exact ⟨⟨_, rfl⟩, .inr HX3.out⟩
    · have HE := Lib.hid (show J ks wr from by have := HQ.out.1; rw [List.take_of_length_le (by rw [← HM.out]; omega)] at this; exact this)
      gi_wp2
      go_end0
      exact ⟨⟨_, rfl⟩, .inl ⟨_, rfl, HE.out⟩⟩
set_option maxHeartbeats 4000000 in
/-- slices.Values: the slice in a box; the function value holds the box. -/
theorem values_in (F : Fence) (n : Nat) (hf : F.fn 70) (hro : F.round = none) (A : Option Addr) (m cap : Nat) (w : World) :
    CallsIn F n Tryz.prog 70 #[.slice A m cap] w fun e w' => e = .returned (.func (.func 90) #[] #[.pointer (some ⟨w.heap.size, 0, none⟩)]) ∧ w' = w.alloc (.cells #[.slice A m cap] 24) := by
  refine callsIn_of_wp Tryz.func70 rfl hf ?_ hro
  simp only [Tryz.ntmps70, List.size_toArray, List.length_cons, List.length_nil, Nat.reduceAdd, Nat.reduceSub, Array.replicate_succ, Array.replicate_zero, List.push_toArray, List.append_toArray, List.nil_append, List.cons_append]
  gi_wp2
  go_ret
  exact ⟨rfl, rfl⟩
theorem vals_stops (F : Fence) (n : Nat) (hf : F.fn 90) (hro : F.round = none) (hn : 1 ≤ n) (q n0 m cap : Nat) (A : Option Addr) (ks : List Bs) (w : World) (hq0 : q < w.heap.size) (_hn0 : n0 ≤ w.heap.size) (hm : m = ks.length) (hmb : m ≤ 1000000) (hb : 0 < ks.length → ∀ g o, A = some ⟨g, o, none⟩ → g < n0)
    (hq : w.cell? ⟨q, 0, none⟩ = some (.slice A m cap)) (hK : Tx w A ks) :
    SeqStopsK F n Tryz.prog 90 #[.pointer (some ⟨q, 0, none⟩)] (fun x : Bs => #[Value.string (txt x)]) (Below n0) (fun ys => ys = ks) (fun pre => pre <+: ks) ks.length w := fun l J Jx W hW _ _ hY h0 =>
  vals1_in F n hf hro hn l q n0 m cap A ks hm hmb hb J Jx hY W ((hW.cell (p := ⟨q, 0, none⟩) hq0).trans hq) (hK.on hW) h0
set_option maxHeartbeats 4000000 in
/-- slices.AppendSeq onto nothing, of what slices.Values has handed back. -/
theorem appSeq_in (F : Fence) (n : Nat) (h86 : F.fn 96) (h75 : F.fn 90) (hro : F.round = none) (hn : 3 ≤ n) (q m cap : Nat) (A : Option Addr) (ks : List Bs) (w : World) (hq0 : q < w.heap.size) (hm : m = ks.length) (hmb : m ≤ 1000000) (hb : 0 < ks.length → ∀ g o, A = some ⟨g, o, none⟩ → g < w.heap.size)
    (hq : w.cell? ⟨q, 0, none⟩ = some (.slice A m cap)) (hK : Tx w A ks) :
    CallsIn F n Tryz.prog 96 #[.slice none 0 0, .func (.func 90) #[] #[.pointer (some ⟨q, 0, none⟩)]] w fun e W' => ∃ v, e = .returned v ∧ W'.ownsRow w.heap.size 9 1 v ks.length (ks.map fun t => .string (txt t)) ∧ Below w.heap.size w W' := by
  have h1 : 1 ≤ n := by omega
  obtain ⟨i0, hi, hz0, hz1, hz2⟩ := info_parts (show (Tryz.prog.info? 9).map (fun i => (i.zero, i.size, i.bytes)) = some (some (.string ⟨#[]⟩), 1, 16) by kernel_rfl)
  refine callsIn_of_wp_marks Tryz.func96 rfl h86 ?_ hro
  simp only [Tryz.ntmps96, List.size_toArray, List.length_cons, List.length_nil, Nat.reduceAdd, Nat.reduceSub, Array.replicate_succ, Array.replicate_zero, List.push_toArray, List.append_toArray, List.nil_append, List.cons_append]
  gi_wp2
  have bO := Boxed.new w 24 (.slice none 0 0)
  have hB0 : Below w.heap.size w (w.alloc (.cells #[.slice none 0 0] 24)) := (Below.refl _ w).alloc (Nat.le_refl _) _
  refine wpIn_rangeFunc_ownG hro h1 (gf := 90) (lb := #[.pointer (some ⟨q, 0, none⟩)]) rfl h75 (enters_of Tryz.func90 (by kernel_rfl) rfl)
    (vals_stops F (n - 1) h75 hro (by omega) q w.heap.size m cap A ks _ (by simp; omega) (by simp) hm hmb hb ((hB0.cell (p := ⟨q, 0, none⟩) hq0).trans hq) (hK.on hB0)) belowK_t (belowK_b (by simp)) (Below.refl _ _) (fun _ => rfl)
    (fun (pre : List Bs) W => (∃ v, Boxed W w.heap.size 24 v ∧ W.ownsRow w.heap.size 9 1 v pre.length (pre.map fun t => .string (txt t)) ∧ True) ∧ Below w.heap.size w W)
    (fun _ _ _ => False)
    (OwnFrom.and (Own.from (holdsRow_own w.heap.size w.heap.size 24 9 1 (fun pre : List Bs => pre.length) (fun pre => pre.map fun t => .string (txt t)) (fun _ _ => True)) _) (ownFrom_below (Nat.le_refl _) (by simp)))
    (fun _ _ _ _ _ hs _ _ => hs)
    ⟨⟨_, bO, World.ownsRow_nil _ _ _ _, trivial⟩, hB0⟩
    (fun x => { tmps := #[.slice none 0 0, .func (.func 90) #[] #[.pointer (some ⟨q, 0, none⟩)], .pointer (some ⟨w.heap.size, 0, none⟩), undef, .slice none 0 0, .string (txt x), .func (.func 90) #[] #[.pointer (some ⟨q, 0, none⟩)], .string (txt x), undef, undef, undef, undef, undef], defers := [] }) ?assign ?body ?done ?stop
  case assign =>
    intro l x W K hK
    gi_wp2
    exact hK
  case body =>
    rintro l pre x W ⟨⟨v, hv, hrow, _⟩, hB⟩ hlt
    have hc := hv.cell
    have hlt2 : pre.length < 1000000 := by omega
    obtain ⟨X, hX⟩ : ∃ X, X = txt x := ⟨_, rfl⟩
    have HXX := Lib.hid hX
    rw [← hX]
    clear hX hlt hq hK hb hm
    gi_wp2_with (gi_at_builtin; refine wpListIn_append_own _ rfl _ _ 24 rfl w.heap.size 9 i0 (.string ⟨#[]⟩) 1 16 Tryz.underlying24 hi hz0 hz1 hz2 rfl (by decide) _ _ _ rfl (hrow.alloc _) ⟨W.heap.size, 0, none⟩ 1 1 [.string X] rfl rfl (cell_one_new _ _ _) (by simp [Value.oneCell']) (by unfold maxLen; omega) (by omega) (by have := hB.size; simp; omega) ?_; intro v' w1 hown' hgrow _; obtain ⟨g', cap', rfl⟩ := ownsRow_succ hown'; obtain ⟨hv1, hv2, hr2, hk2, hb2⟩ := hv.appended (by decide) hrow hB.size (Nat.le_refl _) hown' hgrow; have hc1 := hv1.cell; have hf1 := hv1.frozen)
    exact ⟨hk2.from _, hb2, ⟨_, hv2, by rw [List.length_append, List.map_append]; rw [HXX.out] at hr2; exact hr2, trivial⟩, hB.trans hb2⟩
  case done =>
    rintro D ys W hD rfl ⟨⟨v, hv, hrow, _⟩, hB⟩ hK9
    have hc := hv.cell
    gi_wp2
    refine ⟨by simp, .inl ⟨_, _, rfl, run_takeDeferred hK9, ?_⟩⟩
    exact ⟨_, results_tmp rfl _ _ _, v, rfl, ownsRow_putObj hrow _ hK9 rfl, hB.trans (belowK_b (w := w) (Nat.le_refl _) W D _ _ (by simp at hD; omega) hK9 rfl rfl)⟩
  case stop =>
    rintro D c pre W _ _ h _
    exact h.elim
end Va
end Go.Proofs.YtnnlgodgaolkkaaGreatDoor
