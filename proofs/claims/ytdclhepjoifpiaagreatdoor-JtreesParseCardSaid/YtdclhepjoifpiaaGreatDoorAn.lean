/- The bytes of a rune put behind others: the program's put. -/
import Derived.Test.YtdclhepjoifpiaaGreatDoorAm
import Derived.LoopTactic
import Derived.Outline
import Derived.Deep.RegionLaw
import Derived.Deep.DeepAppendRoom
import Derived.Deep.LoopGhost
import Derived.OwnWalk
import Derived.Laws.MakeOwn
namespace Go.Proofs.YtdclhepjoifpiaaGreatDoor
open Go.RowKit

/-- The heads of runes, as the program lays them. -/
def Heads (w : World) : Prop := w.cell? ⟨3, 0, none⟩ = some (.int .u8 0) ∧ w.cell? ⟨3, 1, none⟩ = some (.int .u8 192) ∧ w.cell? ⟨3, 2, none⟩ = some (.int .u8 224) ∧ w.cell? ⟨3, 3, none⟩ = some (.int .u8 240)
theorem more_is {r k : Int} (h : mor r = k) (w : World) : Calls Tryz.prog 133 #[.int .i64 r] w fun e w' => e = .returned (.int .i64 k) ∧ w = w' := h ▸ more_any r w

/-- append within the capacity, as a step of a region that draws its order. -/
theorem step_spare {P : Program} {w : World} {ops : Array Oper} {o : Oper} {a : Act} {K : Act → World → Prop} {Q : Exit → Act → World → Prop} {E : Prop} (hgd : o.guard = none) (s x : Operand) (t : TypeId)
    (ho : o.op = .call { callee := .builtin .append, args := #[s, x], argTypes := #[t, t] })
    (base : Nat) (e : TypeId) (i : TypeInfo) (size : Nat) (ht : P.underlying t = some (.slice e)) (hi : P.info? e = some i) (hsize : i.size = size)
    (g n cap : Nat) (xs : List Value) (hs : a.eval s = .slice (some ⟨g, 0, none⟩) n cap) (hown : w.ownsRow base e size (.slice (some ⟨g, 0, none⟩) n cap) n xs)
    (ad : Addr) (m c : Nat) (news : List Value) (hx : a.eval x = .slice (some ad) m c) (hl : news.length = m * size) (hnews : ∀ j u, news[j]? = some u → w.cell? (ad.add j) = some u) (h1 : ∀ u ∈ news, u.oneCell' = true)
    (hroom : n + m ≤ cap)
    (h : ∀ w', w'.ownsRow base e size (.slice (some ⟨g, 0, none⟩) (n + m) cap) (n + m) (xs ++ news) → w.grownBy w' (some g) → K (a.put o.dst (.slice (some ⟨g, 0, none⟩) (n + m) cap)) w') :
    if Region.wanted o (yielded ops a.tmps) = true then Oper.wp P o a w K Q else E := by
  have hw : Region.wanted o (yielded ops a.tmps) = true := by simp [Region.wanted, hgd]
  rw [if_pos hw]
  exact wp_append_own_spare w s x t ho base e i size ht hi hsize g n cap xs hs hown ad m c news hx hl hnews h1 hroom h

theorem gTrans {a b c : World} {row : Option Nat} (h : a.grownBy b row) (k : b.grownBy c row) : a.grownBy c row :=
  ⟨k.os.trans h.os, k.tape.trans h.tape, k.output.trans h.output, Nat.le_trans h.size k.size, fun i hi hn => (k.block i (Nat.lt_of_lt_of_le hi h.size) hn).trans (h.block i hi hn)⟩
theorem gDrew {a b : World} {row : Option Nat} (h : a.drew.grownBy b row) : a.grownBy b row := ⟨h.os, h.tape, h.output, h.size, h.block⟩
/-- The row that is put to, and that nothing else has turned. -/
def PR (w wr : World) (base g N m : Nat) (xs : List Value) : Prop := wr.ownsRow base 5 1 (.slice (some ⟨g, 0, none⟩) m N) m xs ∧ w.grownBy wr (some g)
theorem PR.step {w wr w1 : World} {base g N m : Nat} {xs ys : List Value} {o : Obj} (h : PR w wr base g N m xs) (hown : w1.ownsRow base 5 1 (.slice (some ⟨g, 0, none⟩) (m + 1) N) (m + 1) ys) (hg : (wr.alloc o).grownBy w1 (some g)) : PR w w1 base g N (m + 1) ys :=
  ⟨hown, gTrans (gTrans h.2 (World.grownBy_alloc wr o _)) hg⟩
theorem wrap8 (x : Int) : IntKind.u8.wrap x = x % 256 := IntKind.wrap_u8' x
theorem and63' (x : Int) : bits .and .u8 (x % 256) 63 = x % 64 := by rw [and63 _ (by omega) (by omega)]; omega
theorem or128' (x : Int) : bits .or .u8 128 (x % 64) = 128 + x % 64 := or128 _ (by omega) (by omega)
set_option maxHeartbeats 1000000 in
theorem put_0 {r : Int} (h1 : 0 ≤ r) (h2 : r < 128) (g j N : Nat) (ds : List Value) {w : World} {base : Nat} (hown : w.ownsRow base 5 1 (.slice (some ⟨g, 0, none⟩) j N) j ds) (hr : j + 1 ≤ N) (_hN : N ≤ 65536 * 4) (hh : w.cell? ⟨3, 0, none⟩ = some (.int .u8 0)) :
    Calls Tryz.prog 135 #[.slice (some ⟨g, 0, none⟩) j N, .int .i64 r] w fun e w' => e = .returned (.slice (some ⟨g, 0, none⟩) (j + 1) N) ∧ PR w w' base g N (j + 1) (ds ++ [.int .u8 (r)]) := by
  obtain ⟨i0, hi, hz0, hz1, hz2⟩ := info_parts (show (Tryz.prog.info? 5).map (fun i => (i.zero, i.size, i.bytes)) = some (some (.int .u8 0), 1, 1) by kernel_rfl)
  have HM := Lib.hid (show mor r = 0 by unfold mor; split <;> (try split) <;> (try split) <;> omega)
  have e12 : IntKind.i64.wrap 0 = 0 := by decide
  have e16 : IntKind.u8.wrap (r) = r := by rw [IntKind.wrap_u8']; omega
  have eor : bits .or .u8 0 (r) = r := or0 _ (by omega) (by omega)
  go_enter Tryz.func135, Tryz.ntmps135
  go_wp2_with (go_at_call 133; refine (more_is HM.out _).mono ?_; rintro e w' ⟨rfl, rfl⟩)
  go_region_law (refine step_spare (w := (w.alloc (.cells #[.int .u8 (r)] 5)).drew) rfl (.tmp 8) (.tmp 18) 22 rfl base 5 i0 1 Tryz.underlying22 hi hz1 g j N ds rfl (World.ownsRow.drew (hown.alloc _)) ⟨w.heap.size, 0, none⟩ 1 1 [.int .u8 (r)] rfl rfl (fun x u hx => cell_one_new w _ _ x u hx) (ints_oneCell .u8 [r]) (by omega) ?_; intro w1 hown1 hg1)
  have P1 : PR w w1 base g N (j + 1) (ds ++ [.int .u8 (r)]) := PR.step ⟨hown, World.grownBy.refl _ _⟩ hown1 (gDrew hg1)
  clear hown1 hg1 e16 eor hh
  go_simp
  have f1 := wrap8
  have f2 := and63'
  have f3 := or128'
  go_wp2

  go_loopw [0, 5] (fun b i wr => (i = .int .i64 0 ∧ b = .slice (some ⟨g, 0, none⟩) (j + 1) N ∧ PR w wr base g N (j + 1) (ds ++ [.int .u8 (r)]))) (fun _ i _ => (intOf i).toNat)
  case atStart => exact ⟨rfl, rfl, P1⟩
  case round =>
    clear P1
    rcases hrel with ⟨rfl, rfl, P⟩
    · go_wp2
      go_ret
      exact ⟨rfl, P⟩
set_option maxHeartbeats 1000000 in
theorem put_1 {r : Int} (h1 : 128 ≤ r) (h2 : r < 2048) (g j N : Nat) (ds : List Value) {w : World} {base : Nat} (hown : w.ownsRow base 5 1 (.slice (some ⟨g, 0, none⟩) j N) j ds) (hr : j + 2 ≤ N) (_hN : N ≤ 65536 * 4) (hh : w.cell? ⟨3, 1, none⟩ = some (.int .u8 192)) :
    Calls Tryz.prog 135 #[.slice (some ⟨g, 0, none⟩) j N, .int .i64 r] w fun e w' => e = .returned (.slice (some ⟨g, 0, none⟩) (j + 1 + 1) N) ∧ PR w w' base g N (j + 1 + 1) (ds ++ [.int .u8 (192 + r / 64)] ++ [.int .u8 (128 + r % 64)]) := by
  obtain ⟨i0, hi, hz0, hz1, hz2⟩ := info_parts (show (Tryz.prog.info? 5).map (fun i => (i.zero, i.size, i.bytes)) = some (some (.int .u8 0), 1, 1) by kernel_rfl)
  have HM := Lib.hid (show mor r = 1 by unfold mor; split <;> (try split) <;> (try split) <;> omega)
  have e12 : IntKind.i64.wrap 6 = 6 := by decide
  have e16 : IntKind.u8.wrap (r / 64) = r / 64 := by rw [IntKind.wrap_u8']; omega
  have eor : bits .or .u8 192 (r / 64) = 192 + r / 64 := or192 _ (by omega) (by omega)
  go_enter Tryz.func135, Tryz.ntmps135
  go_wp2_with (go_at_call 133; refine (more_is HM.out _).mono ?_; rintro e w' ⟨rfl, rfl⟩)
  go_region_law (refine step_spare (w := (w.alloc (.cells #[.int .u8 (192 + r / 64)] 5)).drew) rfl (.tmp 8) (.tmp 18) 22 rfl base 5 i0 1 Tryz.underlying22 hi hz1 g j N ds rfl (World.ownsRow.drew (hown.alloc _)) ⟨w.heap.size, 0, none⟩ 1 1 [.int .u8 (192 + r / 64)] rfl rfl (fun x u hx => cell_one_new w _ _ x u hx) (ints_oneCell .u8 [192 + r / 64]) (by omega) ?_; intro w1 hown1 hg1)
  have P1 : PR w w1 base g N (j + 1) (ds ++ [.int .u8 (192 + r / 64)]) := PR.step ⟨hown, World.grownBy.refl _ _⟩ hown1 (gDrew hg1)
  clear hown1 hg1 e16 eor hh
  go_simp
  have f1 := wrap8
  have f2 := and63'
  have f3 := or128'
  go_wp2
  go_loopw [0, 5] (fun b i wr => (i = .int .i64 1 ∧ b = .slice (some ⟨g, 0, none⟩) (j + 1) N ∧ PR w wr base g N (j + 1) (ds ++ [.int .u8 (192 + r / 64)])) ∨ (i = .int .i64 0 ∧ b = .slice (some ⟨g, 0, none⟩) (j + 1 + 1) N ∧ PR w wr base g N (j + 1 + 1) (ds ++ [.int .u8 (192 + r / 64)] ++ [.int .u8 (128 + r % 64)]))) (fun _ i _ => (intOf i).toNat)
  case atStart => exact Or.inl ⟨rfl, rfl, P1⟩
  case round =>
    clear P1
    rcases hrel with ⟨rfl, rfl, P⟩ | ⟨rfl, rfl, P⟩
    · have hown := P.1
      go_wp2_with (at_builtin; refine wpList_append_own_spare _ rfl (.tmp 24) (.tmp 32) 22 rfl base 5 i0 1 Tryz.underlying22 hi hz1 g (j + 1) N (ds ++ [.int .u8 (192 + r / 64)]) rfl (hown.alloc _) ⟨wr.heap.size, 0, none⟩ 1 1 [.int .u8 (128 + r % 64)] rfl rfl (cell_one_new _ _ _) (ints_oneCell .u8 [128 + r % 64]) (by omega) ?_; intro w2 hown2 hg2)
      have P2 := PR.step P hown2 hg2
      clear hown2 hg2
      go_roundw
      case rel => exact (Or.inr ⟨rfl, rfl, P2⟩)
      case measure => simp [intOf]
    · go_wp2
      go_ret
      exact ⟨rfl, P⟩
set_option maxHeartbeats 1000000 in
theorem put_2 {r : Int} (h1 : 2048 ≤ r) (h2 : r < 65536) (g j N : Nat) (ds : List Value) {w : World} {base : Nat} (hown : w.ownsRow base 5 1 (.slice (some ⟨g, 0, none⟩) j N) j ds) (hr : j + 3 ≤ N) (_hN : N ≤ 65536 * 4) (hh : w.cell? ⟨3, 2, none⟩ = some (.int .u8 224)) :
    Calls Tryz.prog 135 #[.slice (some ⟨g, 0, none⟩) j N, .int .i64 r] w fun e w' => e = .returned (.slice (some ⟨g, 0, none⟩) (j + 1 + 1 + 1) N) ∧ PR w w' base g N (j + 1 + 1 + 1) (ds ++ [.int .u8 (224 + r / 4096)] ++ [.int .u8 (128 + r / 64 % 64)] ++ [.int .u8 (128 + r % 64)]) := by
  obtain ⟨i0, hi, hz0, hz1, hz2⟩ := info_parts (show (Tryz.prog.info? 5).map (fun i => (i.zero, i.size, i.bytes)) = some (some (.int .u8 0), 1, 1) by kernel_rfl)
  have HM := Lib.hid (show mor r = 2 by unfold mor; split <;> (try split) <;> (try split) <;> omega)
  have e12 : IntKind.i64.wrap 12 = 12 := by decide
  have e16 : IntKind.u8.wrap (r / 4096) = r / 4096 := by rw [IntKind.wrap_u8']; omega
  have eor : bits .or .u8 224 (r / 4096) = 224 + r / 4096 := or224 _ (by omega) (by omega)
  go_enter Tryz.func135, Tryz.ntmps135
  go_wp2_with (go_at_call 133; refine (more_is HM.out _).mono ?_; rintro e w' ⟨rfl, rfl⟩)
  go_region_law (refine step_spare (w := (w.alloc (.cells #[.int .u8 (224 + r / 4096)] 5)).drew) rfl (.tmp 8) (.tmp 18) 22 rfl base 5 i0 1 Tryz.underlying22 hi hz1 g j N ds rfl (World.ownsRow.drew (hown.alloc _)) ⟨w.heap.size, 0, none⟩ 1 1 [.int .u8 (224 + r / 4096)] rfl rfl (fun x u hx => cell_one_new w _ _ x u hx) (ints_oneCell .u8 [224 + r / 4096]) (by omega) ?_; intro w1 hown1 hg1)
  have P1 : PR w w1 base g N (j + 1) (ds ++ [.int .u8 (224 + r / 4096)]) := PR.step ⟨hown, World.grownBy.refl _ _⟩ hown1 (gDrew hg1)
  clear hown1 hg1 e16 eor hh
  go_simp
  have f1 := wrap8
  have f2 := and63'
  have f3 := or128'
  go_wp2
  go_loopw [0, 5] (fun b i wr => (i = .int .i64 2 ∧ b = .slice (some ⟨g, 0, none⟩) (j + 1) N ∧ PR w wr base g N (j + 1) (ds ++ [.int .u8 (224 + r / 4096)])) ∨ (i = .int .i64 1 ∧ b = .slice (some ⟨g, 0, none⟩) (j + 1 + 1) N ∧ PR w wr base g N (j + 1 + 1) (ds ++ [.int .u8 (224 + r / 4096)] ++ [.int .u8 (128 + r / 64 % 64)])) ∨ (i = .int .i64 0 ∧ b = .slice (some ⟨g, 0, none⟩) (j + 1 + 1 + 1) N ∧ PR w wr base g N (j + 1 + 1 + 1) (ds ++ [.int .u8 (224 + r / 4096)] ++ [.int .u8 (128 + r / 64 % 64)] ++ [.int .u8 (128 + r % 64)]))) (fun _ i _ => (intOf i).toNat)
  case atStart => exact Or.inl ⟨rfl, rfl, P1⟩
  case round =>
    clear P1
    rcases hrel with ⟨rfl, rfl, P⟩ | ⟨rfl, rfl, P⟩ | ⟨rfl, rfl, P⟩
    · have hown := P.1
      go_wp2_with (at_builtin; refine wpList_append_own_spare _ rfl (.tmp 24) (.tmp 32) 22 rfl base 5 i0 1 Tryz.underlying22 hi hz1 g (j + 1) N (ds ++ [.int .u8 (224 + r / 4096)]) rfl (hown.alloc _) ⟨wr.heap.size, 0, none⟩ 1 1 [.int .u8 (128 + r / 64 % 64)] rfl rfl (cell_one_new _ _ _) (ints_oneCell .u8 [128 + r / 64 % 64]) (by omega) ?_; intro w2 hown2 hg2)
      have P2 := PR.step P hown2 hg2
      clear hown2 hg2
      go_roundw
      case rel => exact (Or.inr (Or.inl ⟨rfl, rfl, P2⟩))
      case measure => simp [intOf]
    · have hown := P.1
      go_wp2_with (at_builtin; refine wpList_append_own_spare _ rfl (.tmp 24) (.tmp 32) 22 rfl base 5 i0 1 Tryz.underlying22 hi hz1 g (j + 1 + 1) N (ds ++ [.int .u8 (224 + r / 4096)] ++ [.int .u8 (128 + r / 64 % 64)]) rfl (hown.alloc _) ⟨wr.heap.size, 0, none⟩ 1 1 [.int .u8 (128 + r % 64)] rfl rfl (cell_one_new _ _ _) (ints_oneCell .u8 [128 + r % 64]) (by omega) ?_; intro w2 hown2 hg2)
      have P2 := PR.step P hown2 hg2
      clear hown2 hg2
      go_roundw
      case rel => exact (Or.inr (Or.inr ⟨rfl, rfl, P2⟩))
      case measure => simp [intOf]
    · go_wp2
      go_ret
      exact ⟨rfl, P⟩
set_option maxHeartbeats 1000000 in
theorem put_3 {r : Int} (h1 : 65536 ≤ r) (h2 : r ≤ 1114111) (g j N : Nat) (ds : List Value) {w : World} {base : Nat} (hown : w.ownsRow base 5 1 (.slice (some ⟨g, 0, none⟩) j N) j ds) (hr : j + 4 ≤ N) (_hN : N ≤ 65536 * 4) (hh : w.cell? ⟨3, 3, none⟩ = some (.int .u8 240)) :
    Calls Tryz.prog 135 #[.slice (some ⟨g, 0, none⟩) j N, .int .i64 r] w fun e w' => e = .returned (.slice (some ⟨g, 0, none⟩) (j + 1 + 1 + 1 + 1) N) ∧ PR w w' base g N (j + 1 + 1 + 1 + 1) (ds ++ [.int .u8 (240 + r / 262144)] ++ [.int .u8 (128 + r / 4096 % 64)] ++ [.int .u8 (128 + r / 64 % 64)] ++ [.int .u8 (128 + r % 64)]) := by
  obtain ⟨i0, hi, hz0, hz1, hz2⟩ := info_parts (show (Tryz.prog.info? 5).map (fun i => (i.zero, i.size, i.bytes)) = some (some (.int .u8 0), 1, 1) by kernel_rfl)
  have HM := Lib.hid (show mor r = 3 by unfold mor; split <;> (try split) <;> (try split) <;> omega)
  have e12 : IntKind.i64.wrap 18 = 18 := by decide
  have e16 : IntKind.u8.wrap (r / 262144) = r / 262144 := by rw [IntKind.wrap_u8']; omega
  have eor : bits .or .u8 240 (r / 262144) = 240 + r / 262144 := or240 _ (by omega) (by omega)
  go_enter Tryz.func135, Tryz.ntmps135
  go_wp2_with (go_at_call 133; refine (more_is HM.out _).mono ?_; rintro e w' ⟨rfl, rfl⟩)
  go_region_law (refine step_spare (w := (w.alloc (.cells #[.int .u8 (240 + r / 262144)] 5)).drew) rfl (.tmp 8) (.tmp 18) 22 rfl base 5 i0 1 Tryz.underlying22 hi hz1 g j N ds rfl (World.ownsRow.drew (hown.alloc _)) ⟨w.heap.size, 0, none⟩ 1 1 [.int .u8 (240 + r / 262144)] rfl rfl (fun x u hx => cell_one_new w _ _ x u hx) (ints_oneCell .u8 [240 + r / 262144]) (by omega) ?_; intro w1 hown1 hg1)
  have P1 : PR w w1 base g N (j + 1) (ds ++ [.int .u8 (240 + r / 262144)]) := PR.step ⟨hown, World.grownBy.refl _ _⟩ hown1 (gDrew hg1)
  clear hown1 hg1 e16 eor hh
  go_simp
  have f1 := wrap8
  have f2 := and63'
  have f3 := or128'
  go_wp2
  go_loopw [0, 5] (fun b i wr => (i = .int .i64 3 ∧ b = .slice (some ⟨g, 0, none⟩) (j + 1) N ∧ PR w wr base g N (j + 1) (ds ++ [.int .u8 (240 + r / 262144)])) ∨ (i = .int .i64 2 ∧ b = .slice (some ⟨g, 0, none⟩) (j + 1 + 1) N ∧ PR w wr base g N (j + 1 + 1) (ds ++ [.int .u8 (240 + r / 262144)] ++ [.int .u8 (128 + r / 4096 % 64)])) ∨ (i = .int .i64 1 ∧ b = .slice (some ⟨g, 0, none⟩) (j + 1 + 1 + 1) N ∧ PR w wr base g N (j + 1 + 1 + 1) (ds ++ [.int .u8 (240 + r / 262144)] ++ [.int .u8 (128 + r / 4096 % 64)] ++ [.int .u8 (128 + r / 64 % 64)])) ∨ (i = .int .i64 0 ∧ b = .slice (some ⟨g, 0, none⟩) (j + 1 + 1 + 1 + 1) N ∧ PR w wr base g N (j + 1 + 1 + 1 + 1) (ds ++ [.int .u8 (240 + r / 262144)] ++ [.int .u8 (128 + r / 4096 % 64)] ++ [.int .u8 (128 + r / 64 % 64)] ++ [.int .u8 (128 + r % 64)]))) (fun _ i _ => (intOf i).toNat)
  case atStart => exact Or.inl ⟨rfl, rfl, P1⟩
  case round =>
    clear P1
    rcases hrel with ⟨rfl, rfl, P⟩ | ⟨rfl, rfl, P⟩ | ⟨rfl, rfl, P⟩ | ⟨rfl, rfl, P⟩
    · have hown := P.1
      go_wp2_with (at_builtin; refine wpList_append_own_spare _ rfl (.tmp 24) (.tmp 32) 22 rfl base 5 i0 1 Tryz.underlying22 hi hz1 g (j + 1) N (ds ++ [.int .u8 (240 + r / 262144)]) rfl (hown.alloc _) ⟨wr.heap.size, 0, none⟩ 1 1 [.int .u8 (128 + r / 4096 % 64)] rfl rfl (cell_one_new _ _ _) (ints_oneCell .u8 [128 + r / 4096 % 64]) (by omega) ?_; intro w2 hown2 hg2)
      have P2 := PR.step P hown2 hg2
      clear hown2 hg2
      go_roundw
      case rel => exact (Or.inr (Or.inl ⟨rfl, rfl, P2⟩))
      case measure => simp [intOf]
    · have hown := P.1
      go_wp2_with (at_builtin; refine wpList_append_own_spare _ rfl (.tmp 24) (.tmp 32) 22 rfl base 5 i0 1 Tryz.underlying22 hi hz1 g (j + 1 + 1) N (ds ++ [.int .u8 (240 + r / 262144)] ++ [.int .u8 (128 + r / 4096 % 64)]) rfl (hown.alloc _) ⟨wr.heap.size, 0, none⟩ 1 1 [.int .u8 (128 + r / 64 % 64)] rfl rfl (cell_one_new _ _ _) (ints_oneCell .u8 [128 + r / 64 % 64]) (by omega) ?_; intro w2 hown2 hg2)
      have P2 := PR.step P hown2 hg2
      clear hown2 hg2
      go_roundw
      case rel => exact (Or.inr (Or.inr (Or.inl ⟨rfl, rfl, P2⟩)))
      case measure => simp [intOf]
    · have hown := P.1
      go_wp2_with (at_builtin; refine wpList_append_own_spare _ rfl (.tmp 24) (.tmp 32) 22 rfl base 5 i0 1 Tryz.underlying22 hi hz1 g (j + 1 + 1 + 1) N (ds ++ [.int .u8 (240 + r / 262144)] ++ [.int .u8 (128 + r / 4096 % 64)] ++ [.int .u8 (128 + r / 64 % 64)]) rfl (hown.alloc _) ⟨wr.heap.size, 0, none⟩ 1 1 [.int .u8 (128 + r % 64)] rfl rfl (cell_one_new _ _ _) (ints_oneCell .u8 [128 + r % 64]) (by omega) ?_; intro w2 hown2 hg2)
      have P2 := PR.step P hown2 hg2
      clear hown2 hg2
      go_roundw
      case rel => exact (Or.inr (Or.inr (Or.inr ⟨rfl, rfl, P2⟩)))
      case measure => simp [intOf]
    · go_wp2
      go_ret
      exact ⟨rfl, P⟩
end Go.Proofs.YtdclhepjoifpiaaGreatDoor
/- The bytes of runes, one behind the other: the program's Put. -/
namespace Go.Proofs.YtdclhepjoifpiaaGreatDoor
open Go.RowKit

/-- A number of a list; 0 behind its end. -/
def it (l : List Int) (k : Nat) : Int := l.getD k 0
theorem it_drop (l : List Int) (i k : Nat) : it (l.drop i) k = it l (i + k) := by simp [it, List.getElem?_drop]
/-- A slice of numbers. -/
def Num (w : World) (B : Nat) (A : Option Addr) (l : List Int) : Prop := Lst w B A l.length (fun k => .int .i64 (it l k))
theorem Num.at_ {w : World} {B : Nat} {A : Option Addr} {l : List Int} (h : Num w B A l) {k : Nat} (hk : k < l.length) : ∃ b off, A = some ⟨b, off, none⟩ ∧ b < B ∧ ∀ k, k < l.length → w.cell? ⟨b, off + k, none⟩ = some (.int .i64 (it l k)) := h (by omega)

/-- A rune's bytes, as numbers. -/
def encI (r : Int) : List Int :=
  if r < 128 then [r] else if r < 2048 then [192 + r / 64, 128 + r % 64] else if r < 65536 then [224 + r / 4096, 128 + r / 64 % 64, 128 + r % 64]
  else [240 + r / 262144, 128 + r / 4096 % 64, 128 + r / 64 % 64, 128 + r % 64]
theorem encI_len (r : Int) : ((encI r).length : Int) = 1 + mor r := by
  unfold encI mor; split <;> (try split) <;> (try split) <;> simp
theorem encI_len4 (r : Int) : (encI r).length ≤ 4 ∧ 0 < (encI r).length := by
  unfold encI; split <;> (try split) <;> (try split) <;> simp
theorem knw_bd (r : Int) : 0 ≤ knw r ∧ knw r ≤ 1114111 := by unfold knw; split <;> omega
/-- Bytes as a slice's cells. -/
def bytI (l : List Int) : List Value := l.map (.int .u8)

def PutPost (w : World) (base g j N : Nat) (ds : List Value) (r : Int) (e : Ending) (w' : World) : Prop :=
  e = .returned (.slice (some ⟨g, 0, none⟩) (j + (encI r).length) N) ∧ PR w w' base g N (j + (encI r).length) (ds ++ bytI (encI r))
theorem put_any {r : Int} (h1 : 0 ≤ r) (h2 : r ≤ 1114111) (g j N : Nat) (ds : List Value) {w : World} {base : Nat} (hown : w.ownsRow base 5 1 (.slice (some ⟨g, 0, none⟩) j N) j ds) (hr : j + (encI r).length ≤ N) (hN : N ≤ 65536 * 4) (hh : Heads w) :
    Calls Tryz.prog 135 #[.slice (some ⟨g, 0, none⟩) j N, .int .i64 r] w (PutPost w base g j N ds r) := by
  obtain ⟨p0, p1, p2, p3⟩ := hh
  by_cases a : r < 128
  · have e : encI r = [r] := by rw [encI, if_pos a]
    unfold PutPost
    rw [e] at hr ⊢
    refine (put_0 h1 a g j N ds hown (by simpa using hr) hN p0).mono fun e w' ⟨h, k⟩ => ⟨by simpa using h, by simpa [bytI] using k⟩
  by_cases b : r < 2048
  · have e : encI r = [192 + r / 64, 128 + r % 64] := by rw [encI, if_neg a, if_pos b]
    unfold PutPost
    rw [e] at hr ⊢
    refine (put_1 (by omega) b g j N ds hown (by simpa using hr) hN p1).mono fun e w' ⟨h, k⟩ => ⟨by simpa using h, by simpa [bytI] using k⟩
  by_cases c : r < 65536
  · have e : encI r = [224 + r / 4096, 128 + r / 64 % 64, 128 + r % 64] := by rw [encI, if_neg a, if_neg b, if_pos c]
    unfold PutPost
    rw [e] at hr ⊢
    refine (put_2 (by omega) c g j N ds hown (by simpa using hr) hN p2).mono fun e w' ⟨h, k⟩ => ⟨by simpa using h, by simpa [bytI] using k⟩
  · have e : encI r = [240 + r / 262144, 128 + r / 4096 % 64, 128 + r / 64 % 64, 128 + r % 64] := by rw [encI, if_neg a, if_neg b, if_neg c]
    unfold PutPost
    rw [e] at hr ⊢
    refine (put_3 (by omega) h2 g j N ds hown (by simpa using hr) hN p3).mono fun e w' ⟨h, k⟩ => ⟨by simpa using h, by simpa [bytI] using k⟩

/-- The bytes of the first k numbers. -/
def putTo (l : List Int) : Nat → List Int
  | 0 => []
  | k + 1 => putTo l k ++ encI (knw (it l k))
theorem putTo_len (l : List Int) (k : Nat) : (putTo l k).length ≤ 4 * k := by
  induction k with
  | zero => simp [putTo]
  | succ k ih => have := (encI_len4 (knw (it l k))).1; simp [putTo]; omega
theorem putTo_mono (l : List Int) {i k : Nat} (h : i ≤ k) : (putTo l i).length ≤ (putTo l k).length := by
  induction h with
  | refl => exact Nat.le_refl _
  | step _ ih => simp only [putTo, List.length_append]; omega
/-- The bytes of runes, one behind the other, as numbers. -/
def putI (l : List Int) : List Int := putTo l l.length

theorem known_is {r x : Int} (h : x = knw r) (w : World) : Calls Tryz.prog 134 #[.int .i64 r] w fun e w' => e = .returned (.int .i64 x) ∧ w = w' := h ▸ known_any r w
theorem Heads.below {B : Nat} {w w' : World} (h : Heads w) (hb : Below B w w') (hB : 3 < B) : Heads w' := by
  obtain ⟨h0, h1, h2, h3⟩ := h
  exact ⟨(hb.cell (p := ⟨3, 0, none⟩) hB).trans h0, (hb.cell (p := ⟨3, 1, none⟩) hB).trans h1, (hb.cell (p := ⟨3, 2, none⟩) hB).trans h2, (hb.cell (p := ⟨3, 3, none⟩) hB).trans h3⟩

def PutsPost (w : World) (l : List Int) (e : Ending) (w' : World) : Prop :=
  e = .returned (.slice (some ⟨w.heap.size, 0, none⟩) (putI l).length (putI l).length) ∧ w'.ownsRow w.heap.size 5 1 (.slice (some ⟨w.heap.size, 0, none⟩) (putI l).length (putI l).length) (putI l).length (bytI (putI l)) ∧ Below w.heap.size w w'
/-- What holds at each round's head of the second loop. -/
def SRel (w wr : World) (l : List Int) (k M j : Nat) : Prop :=
  j = (putTo l k).length ∧ wr.ownsRow w.heap.size 5 1 (.slice (some ⟨w.heap.size, 0, none⟩) j M) j (bytI (putTo l k)) ∧ Below w.heap.size w wr ∧ w.heap.size < wr.heap.size
theorem SRel.next {w wr w' : World} {l : List Int} {k M j : Nat} {x : Int} {e : Ending} (h : SRel w wr l k M j) (hx : x = knw (it l k)) (hp : PutPost wr w.heap.size w.heap.size j M (bytI (putTo l k)) x e w') :
    ∃ j', e = .returned (.slice (some ⟨w.heap.size, 0, none⟩) j' M) ∧ SRel w w' l (k + 1) M j' := by
  obtain ⟨hj, hown, hb, hs⟩ := h
  obtain ⟨he, hown', hg⟩ := hp
  subst hx
  refine ⟨_, he, by simp [putTo]; omega, by simpa [putTo, bytI] using hown', hb.grown hg (by omega) (fun _ h => by cases h; exact Nat.le_refl _), Nat.lt_of_lt_of_le hs hg.size⟩

set_option maxHeartbeats 1000000 in
theorem puts_any {l : List Int} {B : Nat} {A : Option Addr} (n c : Nat) {w : World} (hn : n = l.length) (hA : Num w B A l) (hB : B ≤ w.heap.size) (hs : n ≤ 65536) (hH : Heads w) (hz : 3 < w.heap.size) :
    Calls Tryz.prog 123 #[.slice A n c] w (PutsPost w l) := by
  obtain ⟨i0, hi, hz0, hz1, hz2⟩ := info_parts (show (Tryz.prog.info? 5).map (fun i => (i.zero, i.size, i.bytes)) = some (some (.int .u8 0), 1, 1) by kernel_rfl)
  have HH := Lib.hid hH
  have Hn := Lib.hid hn
  have hlen := putTo_len l n
  obtain ⟨M, HM⟩ : ∃ M, Hid (M = (putTo l n).length) := ⟨_, rfl⟩
  clear hn hH
  go_enter Tryz.func123, Tryz.ntmps123
  go_wp2
  go_loop [3, 11] (fun s i => ∃ k : Nat, k ≤ n ∧ i = .int .i64 k ∧ s = .int .i64 ((putTo l k).length : Int)) (fun _ i => n - (intOf i).toNat)
  case atStart => exact ⟨0, Nat.zero_le _, rfl, rfl⟩
  case round =>
    obtain ⟨k, hk, rfl, rfl⟩ := hrel
    have hlk := putTo_len l k
    by_cases hlt : k < n
    · obtain ⟨b, off, rfl, _, hc⟩ := hA.at_ (k := k) (by have := Hn.out; omega)
      have hck := hc k (by have := Hn.out; omega)
      clear hc
      obtain ⟨x, HX⟩ : ∃ x, Hid (x = knw (it l k)) := ⟨_, rfl⟩
      obtain ⟨y, HY⟩ : ∃ y : Int, Hid (mor x = y) := ⟨_, rfl⟩
      have hy : 0 ≤ y ∧ y ≤ 3 := by have := HY.out; unfold mor at this; repeat' split at this
                                    all_goals omega
      have HS := Lib.hid (show (((putTo l (k + 1)).length : Nat) : Int) = (putTo l k).length + (1 + y) by rw [← HY.out, ← encI_len, HX.out]; simp [putTo])
      obtain ⟨hy0, hy3⟩ := hy
      go_wp2_with (first
        | (go_at_call 134; refine (known_is HX.out _).mono ?_; rintro e w' ⟨rfl, rfl⟩)
        | (go_at_call 133; refine (more_is HY.out _).mono ?_; rintro e w' ⟨rfl, rfl⟩))
      go_round
      case rel => exact ⟨k + 1, by omega, by go_num, by rw [HS.out]⟩
      case measure => simp [intOf]; omega
    · obtain rfl : n = k := by omega
      go_wp2_with (at_make; refine wpList_make_own _ rfl _ _ 22 rfl w.heap.size 5 i0 (.int .u8 0) 1 Tryz.underlying22 hi hz0 hz1 .i64 .i64 _ (putTo l n).length rfl rfl rfl (by rw [hz2]; omega) (by unfold maxLen; omega) (Nat.le_refl _) ?_; intro w1 hown1 hg1)
      have R0 : SRel w w1 l 0 (putTo l n).length 0 := ⟨rfl, hown1, (Below.refl _ _).grown hg1 (Nat.le_refl _) (fun _ h => by cases h), (hown1.lt _ rfl).2⟩
      clear hown1 hg1
      go_loopw [6, 26] (fun s i wr => ∃ k j : Nat, k ≤ n ∧ i = .int .i64 k ∧ s = .slice (some ⟨w.heap.size, 0, none⟩) j (putTo l n).length ∧ SRel w wr l k (putTo l n).length j) (fun _ i _ => n - (intOf i).toNat)
      case atStart => exact ⟨0, 0, Nat.zero_le _, rfl, rfl, R0⟩
      case round =>
        obtain ⟨k, j, hk, rfl, rfl, R⟩ := hrel
        clear R0
        by_cases hlt : k < n
        · obtain ⟨b, off, rfl, hbB, hc⟩ := hA.at_ (k := k) (by have := Hn.out; omega)
          have hck : wr.cell? ⟨b, off + k, none⟩ = some (.int .i64 (it l k)) := (R.2.2.1.cell (p := ⟨b, off + k, none⟩) (by show b < _; omega)).trans (hc k (by have := Hn.out; omega))
          clear hc
          obtain ⟨x, HX⟩ : ∃ x, Hid (x = knw (it l k)) := ⟨_, rfl⟩
          have hx := knw_bd (it l k)
          rw [← HX.out] at hx
          obtain ⟨hx0, hx1⟩ := hx
          have hroom : j + (encI x).length ≤ (putTo l n).length := by
            have h1 := putTo_mono l (show k + 1 ≤ n by omega)
            rw [putTo, List.length_append, ← HX.out] at h1
            have := R.1; omega
          have HR := Lib.hid R
          have Hh := Lib.hid (HH.out.below R.2.2.1 hz)
          clear R
          go_wp2_with (first
            | (go_at_call 134; refine (known_is HX.out _).mono ?_; rintro e w' ⟨rfl, rfl⟩)
            | (go_at_call 135; refine (put_any hx0 hx1 w.heap.size j (putTo l n).length (bytI (putTo l k)) HR.out.2.1 hroom (by omega) Hh.out).mono ?_; rintro e w' P; obtain ⟨j', rfl, R'⟩ := SRel.next HR.out HX.out P; clear P))
          go_roundw
          case rel => exact ⟨k + 1, j', by omega, by go_num, rfl, R'⟩
          case measure => simp [intOf]; omega
        · obtain rfl : n = k := by omega
          have hj : j = (putTo l n).length := R.1
          have HR := Lib.hid R
          have e := Lib.hid Hn.out
          clear R
          subst hj
          go_wp2
          go_ret
          have e : putI l = putTo l n := by rw [putI, ← Hn.out]
          unfold PutsPost
          rw [e]
          exact ⟨rfl, HR.out.2.1, HR.out.2.2.1⟩
end Go.Proofs.YtdclhepjoifpiaaGreatDoor
/- The document's answer on the bytes of runes, walked. -/
namespace Go.Proofs.YtdclhepjoifpiaaGreatDoor
open Go.RowKit

theorem cells_new {w : World} {t : TypeId} (cs : Array Value) (xs : List Value) (h : cs.toList = xs) : ∀ j u, xs[j]? = some u → (w.alloc (.cells cs t)).cell? ((⟨w.heap.size, 0, none⟩ : Addr).add j) = some u := fun j u hu => by
  rw [addAt, World.cell?_alloc_at _ _ _ _ rfl, ← Array.getElem?_toList, h, Nat.zero_add, hu]
theorem bytI_one (l : List Int) : ∀ u ∈ bytI l, u.oneCell' = true := ints_oneCell .u8 l
/-- A byte of a number. -/
def b8 (x : Int) : UInt8 := UInt8.ofNat x.toNat
theorem encI_bd {r : Int} (h0 : 0 ≤ r) (h1 : r ≤ 1114111) : ∀ x ∈ encI r, 0 ≤ x ∧ x ≤ 255 := by
  unfold encI
  intro x hx
  repeat' split at hx
  all_goals
    simp at hx
    omega
theorem putTo_bd (l : List Int) (k : Nat) : ∀ x ∈ putTo l k, 0 ≤ x ∧ x ≤ 255 := by
  induction k with
  | zero => intro x hx; simp [putTo] at hx
  | succ k ih =>
    intro x hx
    simp only [putTo, List.mem_append] at hx
    rcases hx with hx | hx
    · exact ih x hx
    · exact encI_bd (knw_bd _).1 (knw_bd _).2 x hx
/-- The bytes of runes. -/
def puts (l : List Int) : List UInt8 := (putI l).map b8
theorem bytV_puts (l : List Int) : bytI (putI l) = bytV (puts l) := by
  unfold bytI bytV puts
  rw [List.map_map]
  apply List.map_congr_left
  intro x hx
  have := putTo_bd l _ x hx
  simp only [Function.comp, b8]
  rw [UInt8.toNat_ofNat_of_lt' (by simp [UInt8.size]; omega)]
  congr 1; omega
/-- What holds at each round's head. -/
def URel (w wr : World) (l : List Int) (k j : Nat) (v : Value) : Prop :=
  j = (putTo l k).length ∧ wr.ownsRow w.heap.size 5 1 v j (bytI (putTo l k)) ∧ Below w.heap.size w wr ∧ (v.ownBlock = none ∨ ∃ g, v.ownBlock = some g ∧ w.heap.size ≤ g)
theorem URel.next {w wr w2 : World} {l : List Int} {k j m : Nat} {v v2 : Value} {o : Obj} {r : Int} {news : List Value} (h : URel w wr l k j v) (hr : r = knw (it l k)) (hn : news = bytI (encI r)) (hm : m = news.length)
    (hown : w2.ownsRow w.heap.size 5 1 v2 (j + m) (bytI (putTo l k) ++ news)) (hg : (wr.alloc o).grownBy w2 v.ownBlock) : URel w w2 l (k + 1) (j + m) v2 := by
  obtain ⟨hj, _, hb, hv⟩ := h
  subst hr; subst hn; subst hm
  refine ⟨by simp [putTo, bytI]; omega, by simpa [putTo, bytI] using hown, ?_, ?_⟩
  · refine (hb.alloc (by exact hb.size) o).grown hg (by have := hb.size; simp; omega) (fun g e => ?_)
    rcases hv with h | ⟨g', h, h'⟩
    · rw [h] at e; cases e
    · rw [h] at e; cases e; exact h'
  · rcases hown.2 with ⟨e, _⟩ | ⟨g, cap, cur, e, hbg, _⟩
    · exact .inl (by rw [e]; rfl)
    · exact .inr ⟨g, by rw [e]; rfl, hbg⟩
def RPutPost (w : World) (l : List Int) (e : Ending) (w' : World) : Prop :=
  ∃ A N c, e = .returned (.slice A N c) ∧ N = (puts l).length ∧ N ≤ c ∧ c ≤ maxLen ∧ Byt w' w'.heap.size A (puts l) ∧ Below w.heap.size w w'
theorem URel.stop {w wr : World} {l : List Int} {j : Nat} {v : Value} (h : URel w wr l l.length j v) : RPutPost w l (.returned v) wr := by
  obtain ⟨hj, hown, hb, _⟩ := h
  have e : bytI (putTo l l.length) = bytV (puts l) := bytV_puts l
  rw [e] at hown
  obtain ⟨A, c, rfl, h1, h2, h3, h4, _⟩ := own_form hown
  exact ⟨A, j, c, rfl, h3, h1, h2, h4, hb⟩

set_option maxHeartbeats 4000000 in
set_option maxRecDepth 100000 in
theorem rput_any {l : List Int} {A : Option Addr} (n c : Nat) {w : World} (hn : n = l.length) (hA : Num w w.heap.size A l) (hs : n ≤ 65536) :
    Calls Tryz.prog 80 #[.slice A n c] w (RPutPost w l) := by
  have Hn := Lib.hid hn
  clear hn
  obtain ⟨i0, hi, hz0, hz1, hz2⟩ := info_parts (show (Tryz.prog.info? 5).map (fun i => (i.zero, i.size, i.bytes)) = some (some (.int .u8 0), 1, 1) by kernel_rfl)
  have R0 : URel w w l 0 0 (.slice none 0 0) := ⟨rfl, World.ownsRow_nil _ _ _ _, Below.refl _ _, .inl rfl⟩
  go_enter Tryz.func80, Tryz.ntmps80
  go_wp2
  go_loopw [3, 4] (fun v i wr => ∃ k j : Nat, k ≤ n ∧ i = .int .i64 k ∧ URel w wr l k j v) (fun _ i _ => n - (intOf i).toNat)
  case atStart => exact ⟨0, 0, Nat.zero_le _, rfl, R0⟩
  case round =>
    obtain ⟨k, j, hk, rfl, R⟩ := hrel
    clear R0
    by_cases hlt : k < n
    · have hbel := R.2.2.1
      have hown := R.2.1
      have hj : j ≤ 65536 * 4 := by have := R.1; have := putTo_len l k; omega
      have HR := Lib.hid R
      obtain ⟨b, off, rfl, hbB, hc⟩ := hA.at_ (k := k) (by have := Hn.out; omega)
      obtain ⟨x, HX⟩ : ∃ x, Hid (x = it l k) := ⟨_, rfl⟩
      have hck : wr.cell? ⟨b, off + k, none⟩ = some (.int .i64 x) := by rw [HX.out]; exact (hbel.cell (p := ⟨b, off + k, none⟩) hbB).trans (hc k (by have := Hn.out; omega))
      have hbs : w.heap.size ≤ wr.heap.size := hbel.size
      clear hc R
      by_cases hneg : x < 0
      · 
        have HK := Lib.hid (show 65533 = knw (it l k) by rw [← HX.out]; rw [knw, if_neg (by omega)])
        have HE := Lib.hid (show bytI [239, 191, 189] = bytI (encI 65533) by simp [encI])
        go_wp2_with ((at_builtin; refine wpList_append_own _ rfl (.tmp 52) (.tmp 66) 22 rfl w.heap.size 5 i0 (.int .u8 0) 1 1 Tryz.underlying22 hi hz0 hz1 hz2 rfl (by decide) _ j (bytI (putTo l k)) rfl (hown.alloc _) ⟨wr.heap.size, 0, none⟩ 3 3 (bytI [239, 191, 189]) rfl rfl (cells_new _ _ rfl) (bytI_one _) (by unfold maxLen; omega) (by omega) (by simp; omega) ?_; intro v2 w2 hown2 hg2 _))
        have R2 := HR.out.next HK.out HE.out rfl hown2 hg2
        clear hown2 hg2
        go_roundw
        case rel => exact ⟨k + 1, _, by omega, by go_num, R2⟩
        case measure => simp [intOf]; omega
      by_cases hbig : 1114111 < x
      · 
        have HK := Lib.hid (show 65533 = knw (it l k) by rw [← HX.out]; rw [knw, if_neg (by omega)])
        have HE := Lib.hid (show bytI [239, 191, 189] = bytI (encI 65533) by simp [encI])
        go_wp2_with ((at_builtin; refine wpList_append_own _ rfl (.tmp 52) (.tmp 66) 22 rfl w.heap.size 5 i0 (.int .u8 0) 1 1 Tryz.underlying22 hi hz0 hz1 hz2 rfl (by decide) _ j (bytI (putTo l k)) rfl (hown.alloc _) ⟨wr.heap.size, 0, none⟩ 3 3 (bytI [239, 191, 189]) rfl rfl (cells_new _ _ rfl) (bytI_one _) (by unfold maxLen; omega) (by omega) (by simp; omega) ?_; intro v2 w2 hown2 hg2 _))
        have R2 := HR.out.next HK.out HE.out rfl hown2 hg2
        clear hown2 hg2
        go_roundw
        case rel => exact ⟨k + 1, _, by omega, by go_num, R2⟩
        case measure => simp [intOf]; omega
      by_cases hsur : 55296 ≤ x ∧ x ≤ 57343
      · obtain ⟨hs1, hs2⟩ := hsur
        have HK := Lib.hid (show 65533 = knw (it l k) by rw [← HX.out]; rw [knw, if_neg (by omega)])
        have HE := Lib.hid (show bytI [239, 191, 189] = bytI (encI 65533) by simp [encI])
        go_wp2_with ((at_builtin; refine wpList_append_own _ rfl (.tmp 52) (.tmp 66) 22 rfl w.heap.size 5 i0 (.int .u8 0) 1 1 Tryz.underlying22 hi hz0 hz1 hz2 rfl (by decide) _ j (bytI (putTo l k)) rfl (hown.alloc _) ⟨wr.heap.size, 0, none⟩ 3 3 (bytI [239, 191, 189]) rfl rfl (cells_new _ _ rfl) (bytI_one _) (by unfold maxLen; omega) (by omega) (by simp; omega) ?_; intro v2 w2 hown2 hg2 _))
        have R2 := HR.out.next HK.out HE.out rfl hown2 hg2
        clear hown2 hg2
        go_roundw
        case rel => exact ⟨k + 1, _, by omega, by go_num, R2⟩
        case measure => simp [intOf]; omega
      by_cases h128 : x < 128
      · 
        have HK := Lib.hid (show x = knw (it l k) by rw [← HX.out]; rw [knw, if_pos (by omega)])
        have HE := Lib.hid (show bytI [x] = bytI (encI x) by rw [encI, if_pos h128])
        have f0 : IntKind.u8.wrap (x) = x := by rw [IntKind.wrap_u8']; omega
        go_wp2_with ((at_builtin; refine wpList_append_own _ rfl (.tmp 32) (.tmp 35) 22 rfl w.heap.size 5 i0 (.int .u8 0) 1 1 Tryz.underlying22 hi hz0 hz1 hz2 rfl (by decide) _ j (bytI (putTo l k)) rfl (hown.alloc _) ⟨wr.heap.size, 0, none⟩ 1 1 (bytI [x]) rfl rfl (cells_new _ _ rfl) (bytI_one _) (by unfold maxLen; omega) (by omega) (by simp; omega) ?_; intro v2 w2 hown2 hg2 _))
        have R2 := HR.out.next HK.out HE.out rfl hown2 hg2
        clear hown2 hg2
        go_roundw
        case rel => exact ⟨k + 1, _, by omega, by go_num, R2⟩
        case measure => simp [intOf]; omega
      by_cases h2048 : x < 2048
      · 
        have HK := Lib.hid (show x = knw (it l k) by rw [← HX.out]; rw [knw, if_pos (by omega)])
        have HE := Lib.hid (show bytI [192 + x / 64, 128 + x % 64] = bytI (encI x) by rw [encI, if_neg h128, if_pos h2048])
        have f0 : IntKind.u8.wrap (192 + x / 64) = 192 + x / 64 := by rw [IntKind.wrap_u8']; omega
        have f1 : IntKind.u8.wrap (128 + x % 64) = 128 + x % 64 := by rw [IntKind.wrap_u8']; omega
        go_wp2_with ((at_builtin; refine wpList_append_own _ rfl (.tmp 39) (.tmp 48) 22 rfl w.heap.size 5 i0 (.int .u8 0) 1 1 Tryz.underlying22 hi hz0 hz1 hz2 rfl (by decide) _ j (bytI (putTo l k)) rfl (hown.alloc _) ⟨wr.heap.size, 0, none⟩ 2 2 (bytI [192 + x / 64, 128 + x % 64]) rfl rfl (cells_new _ _ rfl) (bytI_one _) (by unfold maxLen; omega) (by omega) (by simp; omega) ?_; intro v2 w2 hown2 hg2 _))
        have R2 := HR.out.next HK.out HE.out rfl hown2 hg2
        clear hown2 hg2
        go_roundw
        case rel => exact ⟨k + 1, _, by omega, by go_num, R2⟩
        case measure => simp [intOf]; omega
      by_cases hlo : x < 55296
      · have hl6 : x < 65536 := by omega
        have HK := Lib.hid (show x = knw (it l k) by rw [← HX.out]; rw [knw, if_pos (by omega)])
        have HE := Lib.hid (show bytI [224 + x / 4096, 128 + x / 64 % 64, 128 + x % 64] = bytI (encI x) by rw [encI, if_neg h128, if_neg h2048, if_pos (by omega)])
        have f0 : IntKind.u8.wrap (224 + x / 4096) = 224 + x / 4096 := by rw [IntKind.wrap_u8']; omega
        have f1 : IntKind.u8.wrap (128 + x / 64 % 64) = 128 + x / 64 % 64 := by rw [IntKind.wrap_u8']; omega
        have f2 : IntKind.u8.wrap (128 + x % 64) = 128 + x % 64 := by rw [IntKind.wrap_u8']; omega
        go_wp2_with ((at_builtin; refine wpList_append_own _ rfl (.tmp 52) (.tmp 66) 22 rfl w.heap.size 5 i0 (.int .u8 0) 1 1 Tryz.underlying22 hi hz0 hz1 hz2 rfl (by decide) _ j (bytI (putTo l k)) rfl (hown.alloc _) ⟨wr.heap.size, 0, none⟩ 3 3 (bytI [224 + x / 4096, 128 + x / 64 % 64, 128 + x % 64]) rfl rfl (cells_new _ _ rfl) (bytI_one _) (by unfold maxLen; omega) (by omega) (by simp; omega) ?_; intro v2 w2 hown2 hg2 _))
        have R2 := HR.out.next HK.out HE.out rfl hown2 hg2
        clear hown2 hg2
        go_roundw
        case rel => exact ⟨k + 1, _, by omega, by go_num, R2⟩
        case measure => simp [intOf]; omega
      have hhi : 57343 < x := by omega
      by_cases h65 : x < 65536
      · 
        have HK := Lib.hid (show x = knw (it l k) by rw [← HX.out]; rw [knw, if_pos (by omega)])
        have HE := Lib.hid (show bytI [224 + x / 4096, 128 + x / 64 % 64, 128 + x % 64] = bytI (encI x) by rw [encI, if_neg h128, if_neg h2048, if_pos (by omega)])
        have f0 : IntKind.u8.wrap (224 + x / 4096) = 224 + x / 4096 := by rw [IntKind.wrap_u8']; omega
        have f1 : IntKind.u8.wrap (128 + x / 64 % 64) = 128 + x / 64 % 64 := by rw [IntKind.wrap_u8']; omega
        have f2 : IntKind.u8.wrap (128 + x % 64) = 128 + x % 64 := by rw [IntKind.wrap_u8']; omega
        go_wp2_with ((at_builtin; refine wpList_append_own _ rfl (.tmp 52) (.tmp 66) 22 rfl w.heap.size 5 i0 (.int .u8 0) 1 1 Tryz.underlying22 hi hz0 hz1 hz2 rfl (by decide) _ j (bytI (putTo l k)) rfl (hown.alloc _) ⟨wr.heap.size, 0, none⟩ 3 3 (bytI [224 + x / 4096, 128 + x / 64 % 64, 128 + x % 64]) rfl rfl (cells_new _ _ rfl) (bytI_one _) (by unfold maxLen; omega) (by omega) (by simp; omega) ?_; intro v2 w2 hown2 hg2 _))
        have R2 := HR.out.next HK.out HE.out rfl hown2 hg2
        clear hown2 hg2
        go_roundw
        case rel => exact ⟨k + 1, _, by omega, by go_num, R2⟩
        case measure => simp [intOf]; omega
      · 
        have HK := Lib.hid (show x = knw (it l k) by rw [← HX.out]; rw [knw, if_pos (by omega)])
        have HE := Lib.hid (show bytI [240 + x / 262144, 128 + x / 4096 % 64, 128 + x / 64 % 64, 128 + x % 64] = bytI (encI x) by rw [encI, if_neg h128, if_neg h2048, if_neg h65])
        have f0 : IntKind.u8.wrap (240 + x / 262144) = 240 + x / 262144 := by rw [IntKind.wrap_u8']; omega
        have f1 : IntKind.u8.wrap (128 + x / 4096 % 64) = 128 + x / 4096 % 64 := by rw [IntKind.wrap_u8']; omega
        have f2 : IntKind.u8.wrap (128 + x / 64 % 64) = 128 + x / 64 % 64 := by rw [IntKind.wrap_u8']; omega
        have f3 : IntKind.u8.wrap (128 + x % 64) = 128 + x % 64 := by rw [IntKind.wrap_u8']; omega
        go_wp2_with ((at_builtin; refine wpList_append_own _ rfl (.tmp 68) (.tmp 87) 22 rfl w.heap.size 5 i0 (.int .u8 0) 1 1 Tryz.underlying22 hi hz0 hz1 hz2 rfl (by decide) _ j (bytI (putTo l k)) rfl (hown.alloc _) ⟨wr.heap.size, 0, none⟩ 4 4 (bytI [240 + x / 262144, 128 + x / 4096 % 64, 128 + x / 64 % 64, 128 + x % 64]) rfl rfl (cells_new _ _ rfl) (bytI_one _) (by unfold maxLen; omega) (by omega) (by simp; omega) ?_; intro v2 w2 hown2 hg2 _))
        have R2 := HR.out.next HK.out HE.out rfl hown2 hg2
        clear hown2 hg2
        go_roundw
        case rel => exact ⟨k + 1, _, by omega, by go_num, R2⟩
        case measure => simp [intOf]; omega
    · obtain rfl : n = k := by omega
      have R1 : RPutPost w l (.returned _) wr := (by rw [Hn.out] at R; exact R : URel w wr l l.length j _).stop
      clear R
      go_wp2
      go_ret
      exact R1
end Go.Proofs.YtdclhepjoifpiaaGreatDoor
