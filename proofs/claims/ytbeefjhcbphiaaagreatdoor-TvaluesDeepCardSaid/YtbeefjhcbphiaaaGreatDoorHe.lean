/- The bytes of a rune put behind others: the program's put. -/
import Derived.Test.YtbeefjhcbphiaaaGreatDoorHb
import Derived.LoopTactic
import Derived.Outline
import Derived.Deep.RegionLaw
import Derived.Deep.DeepAppendRoom
import Derived.Deep.LoopGhost
import Derived.OwnWalk
import Derived.Laws.MakeOwn
import Derived.Test.YtbeefjhcbphiaaaGreatDoorHc
import Derived.OneCell
import Derived.Lib.AppendStr
import Derived.BigQuiet
import Derived.Deep.QuietTactic
import Derived.Deep.RegionWith
namespace Go.Proofs.YtbeefjhcbphiaaaGreatDoor
open Go.RowKit

/-- The heads of runes, as the program lays them. -/
def Heads (w : World) : Prop := w.cell? ⟨9, 0, none⟩ = some (.int .u8 0) ∧ w.cell? ⟨9, 1, none⟩ = some (.int .u8 192) ∧ w.cell? ⟨9, 2, none⟩ = some (.int .u8 224) ∧ w.cell? ⟨9, 3, none⟩ = some (.int .u8 240)
theorem more_is {r k : Int} (h : mor r = k) (w : World) : Calls Tryz.prog 281 #[.int .i64 r] w fun e w' => e = .returned (.int .i64 k) ∧ w = w' := h ▸ more_any r w

/-- append within the capacity, as a step of a region that draws its order. -/
theorem step_spare {P : Program} {w : World} {ops : Array Oper} {o : Oper} {a : Act} {K : Act → World → Prop} {Q : Exit → Act → World → Prop} {E : Prop} (hgd : o.guard = none) (s x : Operand) (t : TypeId)
    (ho : o.op = .call { callee := .builtin .append, args := #[s, x], argTypes := #[t, t] })
    (base : Nat) (e : TypeId) (i : TypeInfo) (size : Nat) (ht : P.underlying t = some (.slice e)) (hi : P.info? e = some i) (hsize : i.size = size)
    (g n cap : Nat) (xs : List Value) (hs : a.eval s = .slice (some ⟨g, 0, none⟩) n cap) (hown : w.ownsRow base e size (.slice (some ⟨g, 0, none⟩) n cap) n xs)
    (ad : Addr) (m c : Nat) (news : List Value) (hx : a.eval x = .slice (some ad) m c) (hl : news.length = m * size) (hnews : ∀ j u, news[j]? = some u → w.cell? (ad.add j) = some u) (h1 : ∀ u ∈ news, u.oneCell' = true)
    (hroom : n + m ≤ cap)
    (h : ∀ w', w'.ownsRow base e size (.slice (some ⟨g, 0, none⟩) (n + m) cap) (n + m) (xs ++ news) → w.grownBy w' (some g) → K (a.put o.dst (.slice (some ⟨g, 0, none⟩) (n + m) cap)) w') :
    if Region.wanted o (yielded ops a.tmps) = true then Oper.wp P o a w K Q else E := by
  have hw : Region.wanted o (yielded ops a.tmps) = true := by simp [Region.wanted, hgd]
  rw [if_pos hw]
  exact wp_append_own_spare w s x t ho base e i size ht hi hsize g n cap xs hs hown ad m c news hx hl hnews h1 hroom h

theorem gTrans {a b c : World} {row : Option Nat} (h : a.grownBy b row) (k : b.grownBy c row) : a.grownBy c row :=
  ⟨k.os.trans h.os, k.tape.trans h.tape, k.output.trans h.output, Nat.le_trans h.size k.size, fun i hi hn => (k.block i (Nat.lt_of_lt_of_le hi h.size) hn).trans (h.block i hi hn)⟩
theorem gDrew {a b : World} {row : Option Nat} (h : a.drew.grownBy b row) : a.grownBy b row := ⟨h.os, h.tape, h.output, h.size, h.block⟩
/-- The row that is put to, and that nothing else has turned. -/
def PR (w wr : World) (base g N m : Nat) (xs : List Value) : Prop := wr.ownsRow base 5 1 (.slice (some ⟨g, 0, none⟩) m N) m xs ∧ w.grownBy wr (some g)
theorem PR.step {w wr w1 : World} {base g N m : Nat} {xs ys : List Value} {o : Obj} (h : PR w wr base g N m xs) (hown : w1.ownsRow base 5 1 (.slice (some ⟨g, 0, none⟩) (m + 1) N) (m + 1) ys) (hg : (wr.alloc o).grownBy w1 (some g)) : PR w w1 base g N (m + 1) ys :=
  ⟨hown, gTrans (gTrans h.2 (World.grownBy_alloc wr o _)) hg⟩
theorem wrap8 (x : Int) : IntKind.u8.wrap x = x % 256 := IntKind.wrap_u8' x
theorem and63' (x : Int) : bits .and .u8 (x % 256) 63 = x % 64 := by rw [and63 _ (by omega) (by omega)]; omega
theorem or128' (x : Int) : bits .or .u8 128 (x % 64) = 128 + x % 64 := or128 _ (by omega) (by omega)
set_option maxHeartbeats 1000000 in
theorem put_0 {r : Int} (h1 : 0 ≤ r) (h2 : r < 128) (g j N : Nat) (ds : List Value) {w : World} {base : Nat} (hown : w.ownsRow base 5 1 (.slice (some ⟨g, 0, none⟩) j N) j ds) (hr : j + 1 ≤ N) (_hN : N ≤ 65536 * 4) (hh : w.cell? ⟨9, 0, none⟩ = some (.int .u8 0)) :
    Calls Tryz.prog 283 #[.slice (some ⟨g, 0, none⟩) j N, .int .i64 r] w fun e w' => e = .returned (.slice (some ⟨g, 0, none⟩) (j + 1) N) ∧ PR w w' base g N (j + 1) (ds ++ [.int .u8 (r)]) := by
  obtain ⟨i0, hi, hz0, hz1, hz2⟩ := info_parts (show (Tryz.prog.info? 5).map (fun i => (i.zero, i.size, i.bytes)) = some (some (.int .u8 0), 1, 1) by kernel_rfl)
  have HM := Lib.hid (show mor r = 0 by unfold mor; split <;> (try split) <;> (try split) <;> omega)
  have e12 : IntKind.i64.wrap 0 = 0 := by decide
  have e16 : IntKind.u8.wrap (r) = r := by rw [IntKind.wrap_u8']; omega
  have eor : bits .or .u8 0 (r) = r := or0 _ (by omega) (by omega)
  go_enter Tryz.func283, Tryz.ntmps283
  go_wp2_with (go_at_call 281; refine (more_is HM.out _).mono ?_; rintro e w' ⟨rfl, rfl⟩)
  go_region_law (refine step_spare (w := (w.alloc (.cells #[.int .u8 (r)] 5)).drew) rfl (.tmp 8) (.tmp 18) 48 rfl base 5 i0 1 Tryz.underlying48 hi hz1 g j N ds rfl (World.ownsRow.drew (hown.alloc _)) ⟨w.heap.size, 0, none⟩ 1 1 [.int .u8 (r)] rfl rfl (fun x u hx => cell_one_new w _ _ x u hx) (ints_oneCell .u8 [r]) (by omega) ?_; intro w1 hown1 hg1)
  have P1 : PR w w1 base g N (j + 1) (ds ++ [.int .u8 (r)]) := PR.step ⟨hown, World.grownBy.refl _ _⟩ hown1 (gDrew hg1)
  clear hown1 hg1 e16 eor hh
  go_simp
  have f1 := wrap8
  have f2 := and63'
  have f3 := or128'
  go_wp2

  go_loopw [0, 5] (fun b i wr => (i = .int .i64 0 ∧ b = .slice (some ⟨g, 0, none⟩) (j + 1) N ∧ PR w wr base g N (j + 1) (ds ++ [.int .u8 (r)]))) (fun _ i _ => (intOf i).toNat)
  case atStart => exact ⟨rfl, rfl, P1⟩
  case round =>
    clear P1
    rcases hrel with ⟨rfl, rfl, P⟩
    · go_wp2
      go_ret
      exact ⟨rfl, P⟩
set_option maxHeartbeats 1000000 in
theorem put_1 {r : Int} (h1 : 128 ≤ r) (h2 : r < 2048) (g j N : Nat) (ds : List Value) {w : World} {base : Nat} (hown : w.ownsRow base 5 1 (.slice (some ⟨g, 0, none⟩) j N) j ds) (hr : j + 2 ≤ N) (_hN : N ≤ 65536 * 4) (hh : w.cell? ⟨9, 1, none⟩ = some (.int .u8 192)) :
    Calls Tryz.prog 283 #[.slice (some ⟨g, 0, none⟩) j N, .int .i64 r] w fun e w' => e = .returned (.slice (some ⟨g, 0, none⟩) (j + 1 + 1) N) ∧ PR w w' base g N (j + 1 + 1) (ds ++ [.int .u8 (192 + r / 64)] ++ [.int .u8 (128 + r % 64)]) := by
  obtain ⟨i0, hi, hz0, hz1, hz2⟩ := info_parts (show (Tryz.prog.info? 5).map (fun i => (i.zero, i.size, i.bytes)) = some (some (.int .u8 0), 1, 1) by kernel_rfl)
  have HM := Lib.hid (show mor r = 1 by unfold mor; split <;> (try split) <;> (try split) <;> omega)
  have e12 : IntKind.i64.wrap 6 = 6 := by decide
  have e16 : IntKind.u8.wrap (r / 64) = r / 64 := by rw [IntKind.wrap_u8']; omega
  have eor : bits .or .u8 192 (r / 64) = 192 + r / 64 := or192 _ (by omega) (by omega)
  go_enter Tryz.func283, Tryz.ntmps283
  go_wp2_with (go_at_call 281; refine (more_is HM.out _).mono ?_; rintro e w' ⟨rfl, rfl⟩)
  go_region_law (refine step_spare (w := (w.alloc (.cells #[.int .u8 (192 + r / 64)] 5)).drew) rfl (.tmp 8) (.tmp 18) 48 rfl base 5 i0 1 Tryz.underlying48 hi hz1 g j N ds rfl (World.ownsRow.drew (hown.alloc _)) ⟨w.heap.size, 0, none⟩ 1 1 [.int .u8 (192 + r / 64)] rfl rfl (fun x u hx => cell_one_new w _ _ x u hx) (ints_oneCell .u8 [192 + r / 64]) (by omega) ?_; intro w1 hown1 hg1)
  have P1 : PR w w1 base g N (j + 1) (ds ++ [.int .u8 (192 + r / 64)]) := PR.step ⟨hown, World.grownBy.refl _ _⟩ hown1 (gDrew hg1)
  clear hown1 hg1 e16 eor hh
  go_simp
  have f1 := wrap8
  have f2 := and63'
  have f3 := or128'
  go_wp2
  go_loopw [0, 5] (fun b i wr => (i = .int .i64 1 ∧ b = .slice (some ⟨g, 0, none⟩) (j + 1) N ∧ PR w wr base g N (j + 1) (ds ++ [.int .u8 (192 + r / 64)])) ∨ (i = .int .i64 0 ∧ b = .slice (some ⟨g, 0, none⟩) (j + 1 + 1) N ∧ PR w wr base g N (j + 1 + 1) (ds ++ [.int .u8 (192 + r / 64)] ++ [.int .u8 (128 + r % 64)]))) (fun _ i _ => (intOf i).toNat)
  case atStart => exact Or.inl ⟨rfl, rfl, P1⟩
  case round =>
    clear P1
    rcases hrel with ⟨rfl, rfl, P⟩ | ⟨rfl, rfl, P⟩
    · have hown := P.1
      go_wp2_with (at_builtin; refine wpList_append_own_spare _ rfl (.tmp 24) (.tmp 32) 48 rfl base 5 i0 1 Tryz.underlying48 hi hz1 g (j + 1) N (ds ++ [.int .u8 (192 + r / 64)]) rfl (hown.alloc _) ⟨wr.heap.size, 0, none⟩ 1 1 [.int .u8 (128 + r % 64)] rfl rfl (cell_one_new _ _ _) (ints_oneCell .u8 [128 + r % 64]) (by omega) ?_; intro w2 hown2 hg2)
      have P2 := PR.step P hown2 hg2
      clear hown2 hg2
      go_roundw
      case rel => exact (Or.inr ⟨rfl, rfl, P2⟩)
      case measure => simp [intOf]
    · go_wp2
      go_ret
      exact ⟨rfl, P⟩
set_option maxHeartbeats 1000000 in
theorem put_2 {r : Int} (h1 : 2048 ≤ r) (h2 : r < 65536) (g j N : Nat) (ds : List Value) {w : World} {base : Nat} (hown : w.ownsRow base 5 1 (.slice (some ⟨g, 0, none⟩) j N) j ds) (hr : j + 3 ≤ N) (_hN : N ≤ 65536 * 4) (hh : w.cell? ⟨9, 2, none⟩ = some (.int .u8 224)) :
    Calls Tryz.prog 283 #[.slice (some ⟨g, 0, none⟩) j N, .int .i64 r] w fun e w' => e = .returned (.slice (some ⟨g, 0, none⟩) (j + 1 + 1 + 1) N) ∧ PR w w' base g N (j + 1 + 1 + 1) (ds ++ [.int .u8 (224 + r / 4096)] ++ [.int .u8 (128 + r / 64 % 64)] ++ [.int .u8 (128 + r % 64)]) := by
  obtain ⟨i0, hi, hz0, hz1, hz2⟩ := info_parts (show (Tryz.prog.info? 5).map (fun i => (i.zero, i.size, i.bytes)) = some (some (.int .u8 0), 1, 1) by kernel_rfl)
  have HM := Lib.hid (show mor r = 2 by unfold mor; split <;> (try split) <;> (try split) <;> omega)
  have e12 : IntKind.i64.wrap 12 = 12 := by decide
  have e16 : IntKind.u8.wrap (r / 4096) = r / 4096 := by rw [IntKind.wrap_u8']; omega
  have eor : bits .or .u8 224 (r / 4096) = 224 + r / 4096 := or224 _ (by omega) (by omega)
  go_enter Tryz.func283, Tryz.ntmps283
  go_wp2_with (go_at_call 281; refine (more_is HM.out _).mono ?_; rintro e w' ⟨rfl, rfl⟩)
  go_region_law (refine step_spare (w := (w.alloc (.cells #[.int .u8 (224 + r / 4096)] 5)).drew) rfl (.tmp 8) (.tmp 18) 48 rfl base 5 i0 1 Tryz.underlying48 hi hz1 g j N ds rfl (World.ownsRow.drew (hown.alloc _)) ⟨w.heap.size, 0, none⟩ 1 1 [.int .u8 (224 + r / 4096)] rfl rfl (fun x u hx => cell_one_new w _ _ x u hx) (ints_oneCell .u8 [224 + r / 4096]) (by omega) ?_; intro w1 hown1 hg1)
  have P1 : PR w w1 base g N (j + 1) (ds ++ [.int .u8 (224 + r / 4096)]) := PR.step ⟨hown, World.grownBy.refl _ _⟩ hown1 (gDrew hg1)
  clear hown1 hg1 e16 eor hh
  go_simp
  have f1 := wrap8
  have f2 := and63'
  have f3 := or128'
  go_wp2
  go_loopw [0, 5] (fun b i wr => (i = .int .i64 2 ∧ b = .slice (some ⟨g, 0, none⟩) (j + 1) N ∧ PR w wr base g N (j + 1) (ds ++ [.int .u8 (224 + r / 4096)])) ∨ (i = .int .i64 1 ∧ b = .slice (some ⟨g, 0, none⟩) (j + 1 + 1) N ∧ PR w wr base g N (j + 1 + 1) (ds ++ [.int .u8 (224 + r / 4096)] ++ [.int .u8 (128 + r / 64 % 64)])) ∨ (i = .int .i64 0 ∧ b = .slice (some ⟨g, 0, none⟩) (j + 1 + 1 + 1) N ∧ PR w wr base g N (j + 1 + 1 + 1) (ds ++ [.int .u8 (224 + r / 4096)] ++ [.int .u8 (128 + r / 64 % 64)] ++ [.int .u8 (128 + r % 64)]))) (fun _ i _ => (intOf i).toNat)
  case atStart => exact Or.inl ⟨rfl, rfl, P1⟩
  case round =>
    clear P1
    rcases hrel with ⟨rfl, rfl, P⟩ | ⟨rfl, rfl, P⟩ | ⟨rfl, rfl, P⟩
    · have hown := P.1
      go_wp2_with (at_builtin; refine wpList_append_own_spare _ rfl (.tmp 24) (.tmp 32) 48 rfl base 5 i0 1 Tryz.underlying48 hi hz1 g (j + 1) N (ds ++ [.int .u8 (224 + r / 4096)]) rfl (hown.alloc _) ⟨wr.heap.size, 0, none⟩ 1 1 [.int .u8 (128 + r / 64 % 64)] rfl rfl (cell_one_new _ _ _) (ints_oneCell .u8 [128 + r / 64 % 64]) (by omega) ?_; intro w2 hown2 hg2)
      have P2 := PR.step P hown2 hg2
      clear hown2 hg2
      go_roundw
      case rel => exact (Or.inr (Or.inl ⟨rfl, rfl, P2⟩))
      case measure => simp [intOf]
    · have hown := P.1
      go_wp2_with (at_builtin; refine wpList_append_own_spare _ rfl (.tmp 24) (.tmp 32) 48 rfl base 5 i0 1 Tryz.underlying48 hi hz1 g (j + 1 + 1) N (ds ++ [.int .u8 (224 + r / 4096)] ++ [.int .u8 (128 + r / 64 % 64)]) rfl (hown.alloc _) ⟨wr.heap.size, 0, none⟩ 1 1 [.int .u8 (128 + r % 64)] rfl rfl (cell_one_new _ _ _) (ints_oneCell .u8 [128 + r % 64]) (by omega) ?_; intro w2 hown2 hg2)
      have P2 := PR.step P hown2 hg2
      clear hown2 hg2
      go_roundw
      case rel => exact (Or.inr (Or.inr ⟨rfl, rfl, P2⟩))
      case measure => simp [intOf]
    · go_wp2
      go_ret
      exact ⟨rfl, P⟩
set_option maxHeartbeats 1000000 in
theorem put_3 {r : Int} (h1 : 65536 ≤ r) (h2 : r ≤ 1114111) (g j N : Nat) (ds : List Value) {w : World} {base : Nat} (hown : w.ownsRow base 5 1 (.slice (some ⟨g, 0, none⟩) j N) j ds) (hr : j + 4 ≤ N) (_hN : N ≤ 65536 * 4) (hh : w.cell? ⟨9, 3, none⟩ = some (.int .u8 240)) :
    Calls Tryz.prog 283 #[.slice (some ⟨g, 0, none⟩) j N, .int .i64 r] w fun e w' => e = .returned (.slice (some ⟨g, 0, none⟩) (j + 1 + 1 + 1 + 1) N) ∧ PR w w' base g N (j + 1 + 1 + 1 + 1) (ds ++ [.int .u8 (240 + r / 262144)] ++ [.int .u8 (128 + r / 4096 % 64)] ++ [.int .u8 (128 + r / 64 % 64)] ++ [.int .u8 (128 + r % 64)]) := by
  obtain ⟨i0, hi, hz0, hz1, hz2⟩ := info_parts (show (Tryz.prog.info? 5).map (fun i => (i.zero, i.size, i.bytes)) = some (some (.int .u8 0), 1, 1) by kernel_rfl)
  have HM := Lib.hid (show mor r = 3 by unfold mor; split <;> (try split) <;> (try split) <;> omega)
  have e12 : IntKind.i64.wrap 18 = 18 := by decide
  have e16 : IntKind.u8.wrap (r / 262144) = r / 262144 := by rw [IntKind.wrap_u8']; omega
  have eor : bits .or .u8 240 (r / 262144) = 240 + r / 262144 := or240 _ (by omega) (by omega)
  go_enter Tryz.func283, Tryz.ntmps283
  go_wp2_with (go_at_call 281; refine (more_is HM.out _).mono ?_; rintro e w' ⟨rfl, rfl⟩)
  go_region_law (refine step_spare (w := (w.alloc (.cells #[.int .u8 (240 + r / 262144)] 5)).drew) rfl (.tmp 8) (.tmp 18) 48 rfl base 5 i0 1 Tryz.underlying48 hi hz1 g j N ds rfl (World.ownsRow.drew (hown.alloc _)) ⟨w.heap.size, 0, none⟩ 1 1 [.int .u8 (240 + r / 262144)] rfl rfl (fun x u hx => cell_one_new w _ _ x u hx) (ints_oneCell .u8 [240 + r / 262144]) (by omega) ?_; intro w1 hown1 hg1)
  have P1 : PR w w1 base g N (j + 1) (ds ++ [.int .u8 (240 + r / 262144)]) := PR.step ⟨hown, World.grownBy.refl _ _⟩ hown1 (gDrew hg1)
  clear hown1 hg1 e16 eor hh
  go_simp
  have f1 := wrap8
  have f2 := and63'
  have f3 := or128'
  go_wp2
  go_loopw [0, 5] (fun b i wr => (i = .int .i64 3 ∧ b = .slice (some ⟨g, 0, none⟩) (j + 1) N ∧ PR w wr base g N (j + 1) (ds ++ [.int .u8 (240 + r / 262144)])) ∨ (i = .int .i64 2 ∧ b = .slice (some ⟨g, 0, none⟩) (j + 1 + 1) N ∧ PR w wr base g N (j + 1 + 1) (ds ++ [.int .u8 (240 + r / 262144)] ++ [.int .u8 (128 + r / 4096 % 64)])) ∨ (i = .int .i64 1 ∧ b = .slice (some ⟨g, 0, none⟩) (j + 1 + 1 + 1) N ∧ PR w wr base g N (j + 1 + 1 + 1) (ds ++ [.int .u8 (240 + r / 262144)] ++ [.int .u8 (128 + r / 4096 % 64)] ++ [.int .u8 (128 + r / 64 % 64)])) ∨ (i = .int .i64 0 ∧ b = .slice (some ⟨g, 0, none⟩) (j + 1 + 1 + 1 + 1) N ∧ PR w wr base g N (j + 1 + 1 + 1 + 1) (ds ++ [.int .u8 (240 + r / 262144)] ++ [.int .u8 (128 + r / 4096 % 64)] ++ [.int .u8 (128 + r / 64 % 64)] ++ [.int .u8 (128 + r % 64)]))) (fun _ i _ => (intOf i).toNat)
  case atStart => exact Or.inl ⟨rfl, rfl, P1⟩
  case round =>
    clear P1
    rcases hrel with ⟨rfl, rfl, P⟩ | ⟨rfl, rfl, P⟩ | ⟨rfl, rfl, P⟩ | ⟨rfl, rfl, P⟩
    · have hown := P.1
      go_wp2_with (at_builtin; refine wpList_append_own_spare _ rfl (.tmp 24) (.tmp 32) 48 rfl base 5 i0 1 Tryz.underlying48 hi hz1 g (j + 1) N (ds ++ [.int .u8 (240 + r / 262144)]) rfl (hown.alloc _) ⟨wr.heap.size, 0, none⟩ 1 1 [.int .u8 (128 + r / 4096 % 64)] rfl rfl (cell_one_new _ _ _) (ints_oneCell .u8 [128 + r / 4096 % 64]) (by omega) ?_; intro w2 hown2 hg2)
      have P2 := PR.step P hown2 hg2
      clear hown2 hg2
      go_roundw
      case rel => exact (Or.inr (Or.inl ⟨rfl, rfl, P2⟩))
      case measure => simp [intOf]
    · have hown := P.1
      go_wp2_with (at_builtin; refine wpList_append_own_spare _ rfl (.tmp 24) (.tmp 32) 48 rfl base 5 i0 1 Tryz.underlying48 hi hz1 g (j + 1 + 1) N (ds ++ [.int .u8 (240 + r / 262144)] ++ [.int .u8 (128 + r / 4096 % 64)]) rfl (hown.alloc _) ⟨wr.heap.size, 0, none⟩ 1 1 [.int .u8 (128 + r / 64 % 64)] rfl rfl (cell_one_new _ _ _) (ints_oneCell .u8 [128 + r / 64 % 64]) (by omega) ?_; intro w2 hown2 hg2)
      have P2 := PR.step P hown2 hg2
      clear hown2 hg2
      go_roundw
      case rel => exact (Or.inr (Or.inr (Or.inl ⟨rfl, rfl, P2⟩)))
      case measure => simp [intOf]
    · have hown := P.1
      go_wp2_with (at_builtin; refine wpList_append_own_spare _ rfl (.tmp 24) (.tmp 32) 48 rfl base 5 i0 1 Tryz.underlying48 hi hz1 g (j + 1 + 1 + 1) N (ds ++ [.int .u8 (240 + r / 262144)] ++ [.int .u8 (128 + r / 4096 % 64)] ++ [.int .u8 (128 + r / 64 % 64)]) rfl (hown.alloc _) ⟨wr.heap.size, 0, none⟩ 1 1 [.int .u8 (128 + r % 64)] rfl rfl (cell_one_new _ _ _) (ints_oneCell .u8 [128 + r % 64]) (by omega) ?_; intro w2 hown2 hg2)
      have P2 := PR.step P hown2 hg2
      clear hown2 hg2
      go_roundw
      case rel => exact (Or.inr (Or.inr (Or.inr ⟨rfl, rfl, P2⟩)))
      case measure => simp [intOf]
    · go_wp2
      go_ret
      exact ⟨rfl, P⟩
end Go.Proofs.YtbeefjhcbphiaaaGreatDoor
/- A string's reader in memory: what it holds, and what keeps it. -/
namespace Go.Proofs.YtbeefjhcbphiaaaGreatDoor
open Go.RowKit

/-- A reader's kind: its type, and its mark. -/
structure Kd where
  T : Nat
  q : UInt8
  m : Int
  hm : m = (q.toNat : Int)
  h5 : T ≠ 5
abbrev tdo (K : Kd) (s : ByteArray) (p : Int) (v : Value) : Obj := .cells #[.string s, .int .i64 p, .int .u8 K.m, v] K.T
/-- The reader, of the kind K, lies in block b, of the text s, at place p; it has told t; nothing that W had has turned. -/
def TR (W : World) (b : Nat) (K : Kd) (s : ByteArray) (w : World) (p : Int) (t : List UInt8) : Prop :=
  Below W.heap.size W w ∧ W.heap.size ≤ b ∧ ∃ v, w.heap[b]? = some (tdo K s p v) ∧ w.ownsRow W.heap.size 5 1 v t.length (bytV t)
theorem td_cells {w : World} {b : Nat} {K : Kd} {s : ByteArray} {p : Int} {v : Value} (h : w.heap[b]? = some (tdo K s p v)) :
    w.cell? ⟨b, 0, none⟩ = some (.string s) ∧ w.cell? ⟨b, 1, none⟩ = some (.int .i64 p) ∧ w.cell? ⟨b, 2, none⟩ = some (.int .u8 K.m) ∧ w.cell? ⟨b, 3, none⟩ = some v ∧ ∀ i, w.frozen? ⟨b, i, none⟩ = false := by
  simp [World.cell?, World.frozen?, h]
theorem tnot_own {w : World} {b base n : Nat} {K : Kd} {s : ByteArray} {p : Int} {v u : Value} {xs : List Value} (h : w.heap[b]? = some (tdo K s p v)) (hown : w.ownsRow base 5 1 u n xs) : u.ownBlock ≠ some b := by
  rcases hown.2 with ⟨rfl, _⟩ | ⟨g, cap, cur, rfl, _, hg, _⟩
  · intro h; cases h
  · intro e
    obtain rfl : g = b := by simpa [Value.ownBlock] using e
    rw [h] at hg
    injection hg with hg
    injection hg with _ h2 _
    exact absurd h2 K.h5
section
variable {W w w' : World} {b : Nat} {K : Kd} {s : ByteArray} {p : Int} {t : List UInt8}
theorem TR.drewN (h : TR W b K s w p t) (n : Nat) : TR W b K s (w.drewN n) p t := by
  obtain ⟨h1, h2, v, h3, h4⟩ := h
  exact ⟨⟨h1.os, h1.tape, h1.output, h1.size, h1.block⟩, h2, v, h3, h4⟩
theorem TR.drew (h : TR W b K s w p t) : TR W b K s w.drew p t := h.drewN 1
theorem TR.lt (h : TR W b K s w p t) : b < w.heap.size := by
  obtain ⟨_, _, v, h3, _⟩ := h
  exact lt_of_block h3
theorem TR.grown (h : TR W b K s w p t) (hg : w.grownBy w' none) : TR W b K s w' p t := by
  have hl := h.lt
  obtain ⟨h1, h2, v, h3, h4⟩ := h
  exact ⟨h1.grown hg h1.size (fun _ e => by cases e), h2, v, (hg.block b hl (fun e => by cases e)).trans h3, h4.kept hg (by
    rcases h : v.ownBlock with _ | g
    · exact .inl rfl
    · exact .inr (by simp))⟩
theorem TR.alloc (h : TR W b K s w p t) (o : Obj) : TR W b K s (w.alloc o) p t := h.grown (World.grownBy_alloc w o none)
theorem TR.below (h : TR W b K s w p t) (hb : Below w.heap.size w w') : TR W b K s w' p t := h.grown ⟨hb.os, hb.tape, hb.output, hb.size, fun k hk _ => hb.block k hk⟩
theorem TR.pos (h : TR W b K s w p t) (q : Int) : TR W b K s (w.setCell ⟨b, 1, none⟩ (.int .i64 q)) q t := by
  obtain ⟨h1, h2, v, h3, h4⟩ := h
  exact ⟨h1.setCell h2 _, h2, v, by rw [heap_setCell_same _ _ _ _ _ _ h3]; rfl, ownsRow_setCell_other h4 (tnot_own h3 h4) _⟩
/-- The same, with the text's slice named. -/
def TV (W : World) (b : Nat) (K : Kd) (s : ByteArray) (w : World) (p : Int) (t : List UInt8) (v : Value) : Prop :=
  Below W.heap.size W w ∧ W.heap.size ≤ b ∧ w.heap[b]? = some (tdo K s p v) ∧ w.ownsRow W.heap.size 5 1 v t.length (bytV t)
theorem TR.rv (h : TR W b K s w p t) : ∃ v, TV W b K s w p t v := by
  obtain ⟨h1, h2, v, h3, h4⟩ := h
  exact ⟨v, h1, h2, h3, h4⟩
theorem TV.rs {v : Value} (h : TV W b K s w p t v) : TR W b K s w p t := ⟨h.1, h.2.1, v, h.2.2.1, h.2.2.2⟩
theorem TV.drewN {v : Value} (h : TV W b K s w p t v) (n : Nat) : TV W b K s (w.drewN n) p t v := by
  obtain ⟨h1, h2, h3, h4⟩ := h
  exact ⟨⟨h1.os, h1.tape, h1.output, h1.size, h1.block⟩, h2, h3, h4⟩
theorem TV.drew {v : Value} (h : TV W b K s w p t v) : TV W b K s w.drew p t v := h.drewN 1
theorem TV.grown {v : Value} (h : TV W b K s w p t v) (hg : w.grownBy w' none) : TV W b K s w' p t v := by
  obtain ⟨h1, h2, h3, h4⟩ := h
  exact ⟨h1.grown hg h1.size (fun _ e => by cases e), h2, (hg.block b (lt_of_block h3) (fun e => by cases e)).trans h3, h4.kept hg (by
    rcases h : v.ownBlock with _ | g
    · exact .inl rfl
    · exact .inr (by simp))⟩
theorem TV.alloc {v : Value} (h : TV W b K s w p t v) (o : Obj) : TV W b K s (w.alloc o) p t v := h.grown (World.grownBy_alloc w o none)
theorem TV.below {v : Value} (h : TV W b K s w p t v) (hb : Below w.heap.size w w') : TV W b K s w' p t v := h.grown ⟨hb.os, hb.tape, hb.output, hb.size, fun k hk _ => hb.block k hk⟩
theorem TV.cells {v : Value} (h : TV W b K s w p t v) : w.cell? ⟨b, 0, none⟩ = some (.string s) ∧ w.cell? ⟨b, 1, none⟩ = some (.int .i64 p) ∧ w.cell? ⟨b, 2, none⟩ = some (.int .u8 K.m) ∧ w.cell? ⟨b, 3, none⟩ = some v ∧ ∀ i, w.frozen? ⟨b, i, none⟩ = false := td_cells h.2.2.1
/-- More is told. -/
theorem TR.text {v v' : Value} {u : List UInt8} (h1 : Below W.heap.size W w) (h2 : W.heap.size ≤ b) (h3 : w.heap[b]? = some (tdo K s p v)) (h4 : w.ownsRow W.heap.size 5 1 v t.length (bytV t))
    (hown : w'.ownsRow W.heap.size 5 1 v' (t.length + u.length) (bytV t ++ bytV u)) (hg : w.grownBy w' v.ownBlock) : (∃ A n c, v' = .slice A n c) ∧ w'.heap[b]? = some (tdo K s p v) ∧ TR W b K s (w'.setCell ⟨b, 3, none⟩ v') p (t ++ u) := by
  have h5 : w'.heap[b]? = some (tdo K s p v) := (hg.block b (lt_of_block h3) (fun e => tnot_own h3 h4 e.symm)).trans h3
  refine ⟨?_, h5, (h1.grown hg h1.size (fun g e => ?_)).setCell h2 _, h2, v', by rw [heap_setCell_same _ _ _ _ _ _ h5]; rfl, ownsRow_setCell_other ?_ (tnot_own h5 hown) _⟩
  · rcases hown.2 with ⟨rfl, _⟩ | ⟨g', cap, cur, rfl, _⟩
    · exact ⟨_, _, _, rfl⟩
    · exact ⟨_, _, _, rfl⟩
  · rcases h4.2 with ⟨rfl, _⟩ | ⟨g', cap, cur, rfl, hb, _⟩
    · cases e
    · obtain rfl : g' = g := by simpa [Value.ownBlock] using e
      exact hb
  · have e : bytV (t ++ u) = bytV t ++ bytV u := by simp [bytV]
    rw [e, List.length_append]; exact hown
theorem TV.text {v v' : Value} {u : List UInt8} (h : TV W b K s w p t v) (hown : w'.ownsRow W.heap.size 5 1 v' (t.length + u.length) (bytV t ++ bytV u)) (hg : w.grownBy w' v.ownBlock) :
    (∃ A n c, v' = .slice A n c) ∧ w'.heap[b]? = some (tdo K s p v) ∧ TR W b K s (w'.setCell ⟨b, 3, none⟩ v') p (t ++ u) := TR.text h.1 h.2.1 h.2.2.1 h.2.2.2 hown hg
end
theorem strCells_txt (l : List UInt8) : Lib.strCells (txt l) = bytV l := by
  simp [Lib.strCells, bytV, txt]

/-- append within a region that draws, from a row that is known. -/
theorem tstep_app {P : Program} {w : World} {ops : Array Oper} {o : Oper} {a : Act} {K : Act → World → Prop} {Q : Exit → Act → World → Prop} {E : Prop} (hgd : o.guard = none) (s x : Operand) (t : TypeId)
    (ho : o.op = .call { callee := .builtin .append, args := #[s, x], argTypes := #[t, t] })
    (base : Nat) (e : TypeId) (i : TypeInfo) (z : Value) (bytes : Nat) (h1 : P.underlying t = some (.slice e)) (h2 : P.info? e = some i) (h3 : i.zero = some z) (h4 : i.size = 1) (h5 : i.bytes = bytes) (h6 : z.cells.size = 1)
    (v : Value) (n : Nat) (xs : List Value) (hs : a.eval s = v) (hown : w.ownsRow base e 1 v n xs) (ao : Option Addr) (m c : Nat) (B : Nat) (l : List UInt8) (hx : a.eval x = .slice ao m c) (hm : m = l.length) (hA : Byt w B ao l) (hnone : ao = none → c = 0)
    (h63 : n + m ≤ maxLen) (hbytes : (n + m) * bytes ≤ 140737488355328) (hbase : base ≤ w.heap.size)
    (hK : ∀ v' w', w'.ownsRow base e 1 v' (n + m) (xs ++ bytV l) → w.grownBy w' v.ownBlock → K (a.put o.dst v') w') :
    if Region.wanted o (yielded ops a.tmps) = true then Oper.wp P o a w K Q else E := by
  have hw : Region.wanted o (yielded ops a.tmps) = true := by simp [Region.wanted, hgd]
  rw [if_pos hw]
  cases ao with
  | some ad =>
    obtain ⟨v', w', hrun, r1, r2, _, r3⟩ := run_append_own_at (P := P) w base t o.type e i z 1 bytes h1 h2 h3 h4 h5 h6 (by omega) v n xs hown ad m c (bytV l) (by rw [bytV_len]; omega) (bytV_cells hA) (bytV_one l) h63 hbytes hbase
    unfold Oper.wp
    simp [execOp, ho, resolve, invoke, builtin, hs, hx, hrun, Result.andThen]
    exact hK v' w' r1 r2
  | none =>
    obtain rfl := byt_none hA
    obtain rfl : m = 0 := hm
    obtain rfl := hnone rfl
    have hrun := run_append_owned_none (P := P) w base t o.type e i 1 h1 h2 _ n xs hown
    unfold Oper.wp
    simp [execOp, ho, resolve, invoke, builtin, hs, hx, hrun, Result.andThen]
    exact hK v w (by simpa [bytV] using hown) (World.grownBy.refl _ _)
/-- append of a text within a region that draws. -/
theorem tstep_str {P : Program} {w : World} {ops : Array Oper} {o : Oper} {a : Act} {K : Act → World → Prop} {Q : Exit → Act → World → Prop} {E : Prop} (hgd : o.guard = none) (sl x : Operand) (t u : TypeId)
    (ho : o.op = .call { callee := .builtin .append, args := #[sl, x], argTypes := #[t, u] })
    (base : Nat) (e : TypeId) (i : TypeInfo) (ht : P.underlying t = some (.slice e)) (hu : P.underlying u = some .string) (hi : P.info? e = some i) (hz : i.zero = some (.int .u8 0)) (hsize : i.size = 1) (hby : i.bytes = 1)
    (v : Value) (n : Nat) (xs : List Value) (hs : a.eval sl = v) (hown : w.ownsRow base e 1 v n xs) (s : ByteArray) (hx : a.eval x = .string s)
    (h63 : n + s.size ≤ maxLen) (hbytes : n + s.size ≤ 140737488355328) (hbase : base ≤ w.heap.size)
    (h : ∀ v' w', w'.ownsRow base e 1 v' (n + s.size) (xs ++ Lib.strCells s) → w.grownBy w' v.ownBlock → K (a.put o.dst v') w') :
    if Region.wanted o (yielded ops a.tmps) = true then Oper.wp P o a w K Q else E := by
  have hw : Region.wanted o (yielded ops a.tmps) = true := by simp [Region.wanted, hgd]
  rw [if_pos hw]
  obtain ⟨v', w', hr, h2, h3, _⟩ := Lib.run_append_own_string (P := P) w base t u o.type e i ht hu hi hz hsize hby v n xs hown s h63 hbytes hbase
  unfold Oper.wp
  simp [execOp, ho, resolve, invoke, builtin, hs, hx, hr, Result.andThen]
  exact h v' w' h2 h3
/-- Where the reader stands. -/
def posOf (b : Nat) (w : World) : Nat := match w.cell? ⟨b, 1, none⟩ with | some v => (intOf v).toNat | none => 0
theorem TR.posOf {W w : World} {b : Nat} {K : Kd} {s : ByteArray} {p : Nat} {t : List UInt8} (h : TR W b K s w p t) : posOf b w = p := by
  obtain ⟨_, _, v, h3, _⟩ := h
  obtain ⟨_, c1, _⟩ := td_cells h3
  simp [Proofs.YtbeefjhcbphiaaaGreatDoor.posOf, c1, intOf]
end Go.Proofs.YtbeefjhcbphiaaaGreatDoor
/- The reader's take (TOML): a byte, if it stands here. -/
namespace Go.Proofs.YtbeefjhcbphiaaaGreatDoor
open Go.RowKit

section
variable {W w : World} {b : Nat} {K : Kd} {s : ByteArray} {p : Nat} {t l : List UInt8} {c : Int}
theorem ttake_yes (h : TR W b K s w p t) (hs : s = txt l) (hl : l.length ≤ 1000000) (hp : p < l.length) (hc : bt l p = c) :
    Calls Tryz.prog 270 #[.pointer (some ⟨b, 0, none⟩), .int .u8 c] w fun e w' => e = .returned (.bool true) ∧ TR W b K s w' ((p + 1 : Nat) : Int) t := by
  have HR := Lib.hid h
  obtain ⟨_, _, v, h3, _⟩ := h
  obtain ⟨c0, c1, c2, c3, cf⟩ := td_cells h3
  have f1 := cf 1
  have hsz : s.size = l.length := by rw [hs, txt_size]
  have hx := txt_at hs (k := p)
  have hz : p < s.size := by omega
  have hs1 : s.size ≤ 1000000 := by omega
  have g1 : ((p : Int) == (s.size : Int)) = false := by simp; omega
  have g2 : (bt l p != c) = false := by simp [hc]
  clear hs hl hp hc h3 cf hsz
  go_enter Tryz.func270, Tryz.ntmps270
  go_wp2_with fail
  go_quiet (fail)
  go_wp2_with fail
  go_ret
  exact ⟨rfl, by have := (HR.out.drewN nq).pos ((p + 1 : Nat) : Int); simpa using this⟩
theorem ttake_end (h : TR W b K s w p t) (hs : s = txt l) (hp : p = l.length) :
    Calls Tryz.prog 270 #[.pointer (some ⟨b, 0, none⟩), .int .u8 c] w fun e w' => e = .returned (.bool false) ∧ TR W b K s w' p t := by
  have HR := Lib.hid h
  obtain ⟨_, _, v, h3, _⟩ := h
  obtain ⟨c0, c1, c2, c3, cf⟩ := td_cells h3
  have hsz : s.size = l.length := by rw [hs, txt_size]
  have g1 : ((p : Int) == (s.size : Int)) = true := by simp; omega
  clear hs hp h3 cf hsz
  go_enter Tryz.func270, Tryz.ntmps270
  go_wp2_with fail
  go_quiet (fail)
  go_wp2_with fail
  go_ret
  exact ⟨rfl, HR.out.drewN nq⟩
theorem ttake_no (h : TR W b K s w p t) (hs : s = txt l) (hl : l.length ≤ 1000000) (hp : p < l.length) (hc : bt l p ≠ c) :
    Calls Tryz.prog 270 #[.pointer (some ⟨b, 0, none⟩), .int .u8 c] w fun e w' => e = .returned (.bool false) ∧ TR W b K s w' p t := by
  have HR := Lib.hid h
  obtain ⟨_, _, v, h3, _⟩ := h
  obtain ⟨c0, c1, c2, c3, cf⟩ := td_cells h3
  have hsz : s.size = l.length := by rw [hs, txt_size]
  have hx := txt_at hs (k := p)
  have hz : p < s.size := by omega
  have hs1 : s.size ≤ 1000000 := by omega
  have g1 : ((p : Int) == (s.size : Int)) = false := by simp; omega
  have g2 : (bt l p != c) = true := by simp [hc]
  clear hs hl hp hc h3 cf hsz
  go_enter Tryz.func270, Tryz.ntmps270
  go_wp2_with fail
  go_quiet (fail)
  go_wp2_with fail
  go_ret
  exact ⟨rfl, HR.out.drewN nq⟩
theorem ttake_any (h : TR W b K s w p t) (hs : s = txt l) (hl : l.length ≤ 1000000) (hp : p ≤ l.length) (c : Int) {B : Bool} (hB : B = tkC l p c) :
    Calls Tryz.prog 270 #[.pointer (some ⟨b, 0, none⟩), .int .u8 c] w fun e w' => e = .returned (.bool B) ∧ TR W b K s w' ((if B = true then p + 1 else p : Nat) : Int) t := by
  by_cases h1 : p < l.length
  · by_cases h2 : bt l p = c
    · have e : B = true := by rw [hB, tkC]; simp [h1, h2]
      subst e
      exact ttake_yes h hs hl h1 h2
    · have e : B = false := by rw [hB, tkC]; simp [h2]
      subst e
      exact ttake_no h hs hl h1 h2
  · have e : B = false := by rw [hB, tkC]; simp [h1]
    subst e
    have hp2 : p = l.length := by omega
    exact ttake_end h hs hp2
theorem ttake_y (c : Int) (h : TR W b K s w p t) (hs : s = txt l) (hl : l.length ≤ 1000000) (hB : tkC l p c = true) :
    Calls Tryz.prog 270 #[.pointer (some ⟨b, 0, none⟩), .int .u8 c] w fun e w' => e = .returned (.bool true) ∧ TR W b K s w' ((p + 1 : Nat) : Int) t := ttake_any h hs hl (Nat.le_of_lt (tkC_lt hB)) c hB.symm
theorem ttake_n (c : Int) (h : TR W b K s w p t) (hs : s = txt l) (hl : l.length ≤ 1000000) (hp : p ≤ l.length) (hB : tkC l p c = false) :
    Calls Tryz.prog 270 #[.pointer (some ⟨b, 0, none⟩), .int .u8 c] w fun e w' => e = .returned (.bool false) ∧ TR W b K s w' (p : Int) t := ttake_any h hs hl hp c hB.symm
end
end Go.Proofs.YtbeefjhcbphiaaaGreatDoor
/- The reader's stretch of plain bytes (TOML). -/
namespace Go.Proofs.YtbeefjhcbphiaaaGreatDoor
open Go.RowKit

section
variable {W w : World} {b : Nat} {K : Kd} {s : ByteArray} {p : Nat} {t l : List UInt8}
set_option maxHeartbeats 4000000 in
theorem tstretch_any (o : Int) (h : TR W b K s w p t) (hs : s = txt l) (hl : l.length ≤ 1000000) (hp : p ≤ l.length) (ht : t.length ≤ 4 * p) :
    Calls Tryz.prog 271 #[.pointer (some ⟨b, 0, none⟩), .int .u8 o] w fun e w' => e = .returned (.bool (decide (p < prs K.m o l p))) ∧ TR W b K s w' (prs K.m o l p) (t ++ (l.take (prs K.m o l p)).drop p) := by
  obtain ⟨i0, hi, hz0, hz1, hz2⟩ := info_parts (show (Tryz.prog.info? 5).map (fun i => (i.zero, i.size, i.bytes)) = some (some (.int .u8 0), 1, 1) by kernel_rfl)
  have R0 := h
  have HS := Lib.hid hs
  have HL := Lib.hid hl
  have HP := Lib.hid hp
  have HT := Lib.hid ht
  obtain ⟨_, _, v0, h30, _⟩ := h
  obtain ⟨_, c10, _, _, _⟩ := td_cells h30
  clear hs hl hp ht h30
  go_enter Tryz.func271, Tryz.ntmps271
  go_wp2_with fail
  clear c10
  go_loopw [] (fun wr => ∃ k : Nat, p ≤ k ∧ k ≤ l.length ∧ prs K.m o l p = prs K.m o l k ∧ TR W b K s wr k t) (fun wr => s.size - posOf b wr)
  case atStart => exact ⟨p, Nat.le_refl _, HP.out, rfl, R0⟩
  case round =>
    obtain ⟨k, hpk, hk, hkr, R⟩ := hrel
    clear R0
    have HR := Lib.hid R
    have HK := Lib.hid hkr
    have hsz : s.size = l.length := by rw [HS.out, txt_size]
    obtain ⟨r1, r2, v, h3, h4⟩ := R
    obtain ⟨c0, c1, c2, c3, cf⟩ := td_cells h3
    have f1 := cf 1
    have hm : s.size ≤ 1000000 := by have := HL.out; omega
    have HK2 := Lib.hid hk
    have HB := Lib.hid hpk
    have H3 := Lib.hid h3
    have H4 := Lib.hid h4
    have H1 := Lib.hid r1
    clear hkr h3 cf hk h4 r1
    by_cases hq : k < l.length
    · have hx := txt_at HS.out (k := k)
      have hz : k < s.size := by omega
      obtain ⟨y, HY⟩ : ∃ y, Hid (y = bt l k) := ⟨_, rfl⟩
      rw [← HY.out] at hx
      obtain ⟨x, HX⟩ : ∃ x, Hid (x = plJ y) := ⟨_, rfl⟩
      cases x
      · have E := Lib.hid (prs_end (q := K.m) (o := o) (l := l) (k := k) (by rw [stp, ← HY.out, ← HX.out]; simp))
        clear hq hpk hsz
        go_wp2_with fail
        go_quiet (first | (go_at_call 73; refine (plainJ_is HX.out _).mono ?_; rintro _ _ ⟨rfl, rfl⟩; exact ⟨rfl, _, rfl⟩))
        go_wp2_with fail
        have R2 := HR.out.drewN nq
        obtain ⟨w2, HW2⟩ : ∃ w2, w2 = wr.drewN nq := ⟨_, rfl⟩
        rw [← HW2] at R2 ⊢
        clear HW2 c0 c1 c2 c3 f1 H3 H4 H1 r2
        have HK3 := Lib.hid (show prs K.m o l p = k by rw [HK.out, E.out])
        have HU := Lib.hid (show s.extract p k = txt ((l.take k).drop p) by rw [HS.out, txt_cut])
        have hul : ((l.take k).drop p).length ≤ 1000000 := by simp; have := HL.out; omega
        have hbb : (p : Int) ≤ k := by have := HB.out; omega
        have htl : t.length ≤ 4000000 := by have := HT.out; have := HP.out; have := HL.out; omega
        have hks : (k : Int) ≤ s.size := by have := HK2.out; have := HS.out; rw [this, txt_size]; omega
        have hb1 : W.heap.size ≤ w2.heap.size := R2.1.size
        obtain ⟨r1, r2, v, h3, h4⟩ := R2
        obtain ⟨c0, c1, c2, c3, cf⟩ := td_cells h3
        have f2 := cf 3
        have H3 := Lib.hid h3
        have H4 := Lib.hid h4
        have H1 := Lib.hid r1
        have H2 := Lib.hid r2
        clear h3 h4 r1 r2 cf E c2
        go_region_law (first | (refine tstep_str (w := w2.drew) rfl (.tmp 72) (.tmp 82) 48 9 rfl W.heap.size 5 i0 Tryz.underlying48 Tryz.underlying9 hi hz0 hz1 hz2 v t.length (bytV t) rfl H4.out.drew (s.extract p k) rfl (by rw [HU.out, txt_size]; unfold maxLen; omega) (by rw [HU.out, txt_size]; omega) hb1 ?_; intro v' w3 hown3 hg3; rw [HU.out, strCells_txt, txt_size] at hown3; obtain ⟨⟨A', n', cp', rfl⟩, h5, R3⟩ := TR.text (w := w2) (p := k) H1.out H2.out H3.out H4.out hown3 (gDrew hg3); obtain ⟨c0', c1', c2', c3', cf'⟩ := td_cells h5; have f2' := cf' 3; clear cf' h5 hown3 hg3 c2'))
        all_goals (have HR3 := Lib.hid R3; obtain ⟨_, _, v9, h9, _⟩ := R3; obtain ⟨_, d1, _, _, _⟩ := td_cells h9; clear h9)
        all_goals go_wp2_with fail
        all_goals go_ret
        all_goals exact ⟨by rw [HK3.out]; rfl, by rw [HK3.out]; exact HR3.out⟩
      · obtain ⟨m, HM⟩ : ∃ m, Hid (m = K.m) := ⟨_, rfl⟩
        rw [← HM.out] at c2
        by_cases hy1 : y = m
        · have E := Lib.hid (prs_end (q := K.m) (o := o) (l := l) (k := k) (by rw [stp, ← HY.out, ← HM.out, hy1]; simp))
          have hb1 : (y != m) = false := by simp [hy1]
          clear hy1
          clear hq hpk hsz
          go_wp2_with fail
          go_quiet (first | (go_at_call 73; refine (plainJ_is HX.out _).mono ?_; rintro _ _ ⟨rfl, rfl⟩; exact ⟨rfl, _, rfl⟩))
          go_wp2_with fail
          have R2 := HR.out.drewN nq
          obtain ⟨w2, HW2⟩ : ∃ w2, w2 = wr.drewN nq := ⟨_, rfl⟩
          rw [← HW2] at R2 ⊢
          clear HW2 c0 c1 c2 c3 f1 H3 H4 H1 r2
          have HK3 := Lib.hid (show prs K.m o l p = k by rw [HK.out, E.out])
          have HU := Lib.hid (show s.extract p k = txt ((l.take k).drop p) by rw [HS.out, txt_cut])
          have hul : ((l.take k).drop p).length ≤ 1000000 := by simp; have := HL.out; omega
          have hbb : (p : Int) ≤ k := by have := HB.out; omega
          have htl : t.length ≤ 4000000 := by have := HT.out; have := HP.out; have := HL.out; omega
          have hks : (k : Int) ≤ s.size := by have := HK2.out; have := HS.out; rw [this, txt_size]; omega
          have hb1 : W.heap.size ≤ w2.heap.size := R2.1.size
          obtain ⟨r1, r2, v, h3, h4⟩ := R2
          obtain ⟨c0, c1, c2, c3, cf⟩ := td_cells h3
          have f2 := cf 3
          have H3 := Lib.hid h3
          have H4 := Lib.hid h4
          have H1 := Lib.hid r1
          have H2 := Lib.hid r2
          clear h3 h4 r1 r2 cf E c2
          go_region_law (first | (refine tstep_str (w := w2.drew) rfl (.tmp 72) (.tmp 82) 48 9 rfl W.heap.size 5 i0 Tryz.underlying48 Tryz.underlying9 hi hz0 hz1 hz2 v t.length (bytV t) rfl H4.out.drew (s.extract p k) rfl (by rw [HU.out, txt_size]; unfold maxLen; omega) (by rw [HU.out, txt_size]; omega) hb1 ?_; intro v' w3 hown3 hg3; rw [HU.out, strCells_txt, txt_size] at hown3; obtain ⟨⟨A', n', cp', rfl⟩, h5, R3⟩ := TR.text (w := w2) (p := k) H1.out H2.out H3.out H4.out hown3 (gDrew hg3); obtain ⟨c0', c1', c2', c3', cf'⟩ := td_cells h5; have f2' := cf' 3; clear cf' h5 hown3 hg3 c2'))
          all_goals (have HR3 := Lib.hid R3; obtain ⟨_, _, v9, h9, _⟩ := R3; obtain ⟨_, d1, _, _, _⟩ := td_cells h9; clear h9)
          all_goals go_wp2_with fail
          all_goals go_ret
          all_goals exact ⟨by rw [HK3.out]; rfl, by rw [HK3.out]; exact HR3.out⟩
        · have hb1 : (y != m) = true := by simp [hy1]
          by_cases hy2 : y = o
          · have E := Lib.hid (prs_end (q := K.m) (o := o) (l := l) (k := k) (by rw [stp, ← HY.out, hy2]; simp))
            have hb2 : (y != o) = false := by simp [hy2]
            clear hy1 hy2
            clear hq hpk hsz
            go_wp2_with fail
            go_quiet (first | (go_at_call 73; refine (plainJ_is HX.out _).mono ?_; rintro _ _ ⟨rfl, rfl⟩; exact ⟨rfl, _, rfl⟩))
            go_wp2_with fail
            have R2 := HR.out.drewN nq
            obtain ⟨w2, HW2⟩ : ∃ w2, w2 = wr.drewN nq := ⟨_, rfl⟩
            rw [← HW2] at R2 ⊢
            clear HW2 c0 c1 c2 c3 f1 H3 H4 H1 r2
            have HK3 := Lib.hid (show prs K.m o l p = k by rw [HK.out, E.out])
            have HU := Lib.hid (show s.extract p k = txt ((l.take k).drop p) by rw [HS.out, txt_cut])
            have hul : ((l.take k).drop p).length ≤ 1000000 := by simp; have := HL.out; omega
            have hbb : (p : Int) ≤ k := by have := HB.out; omega
            have htl : t.length ≤ 4000000 := by have := HT.out; have := HP.out; have := HL.out; omega
            have hks : (k : Int) ≤ s.size := by have := HK2.out; have := HS.out; rw [this, txt_size]; omega
            have hb1 : W.heap.size ≤ w2.heap.size := R2.1.size
            obtain ⟨r1, r2, v, h3, h4⟩ := R2
            obtain ⟨c0, c1, c2, c3, cf⟩ := td_cells h3
            have f2 := cf 3
            have H3 := Lib.hid h3
            have H4 := Lib.hid h4
            have H1 := Lib.hid r1
            have H2 := Lib.hid r2
            clear h3 h4 r1 r2 cf E c2
            go_region_law (first | (refine tstep_str (w := w2.drew) rfl (.tmp 72) (.tmp 82) 48 9 rfl W.heap.size 5 i0 Tryz.underlying48 Tryz.underlying9 hi hz0 hz1 hz2 v t.length (bytV t) rfl H4.out.drew (s.extract p k) rfl (by rw [HU.out, txt_size]; unfold maxLen; omega) (by rw [HU.out, txt_size]; omega) hb1 ?_; intro v' w3 hown3 hg3; rw [HU.out, strCells_txt, txt_size] at hown3; obtain ⟨⟨A', n', cp', rfl⟩, h5, R3⟩ := TR.text (w := w2) (p := k) H1.out H2.out H3.out H4.out hown3 (gDrew hg3); obtain ⟨c0', c1', c2', c3', cf'⟩ := td_cells h5; have f2' := cf' 3; clear cf' h5 hown3 hg3 c2'))
            all_goals (have HR3 := Lib.hid R3; obtain ⟨_, _, v9, h9, _⟩ := R3; obtain ⟨_, d1, _, _, _⟩ := td_cells h9; clear h9)
            all_goals go_wp2_with fail
            all_goals go_ret
            all_goals exact ⟨by rw [HK3.out]; rfl, by rw [HK3.out]; exact HR3.out⟩
          · have hb2 : (y != o) = true := by simp [hy2]
            have E := Lib.hid (prs_on (q := K.m) (o := o) (l := l) (k := k) hq (by rw [stp, ← HY.out, ← HX.out, ← HM.out]; simp [hy1, hy2]))
            have hq1 : k + 1 ≤ l.length := hq
            clear hq hpk hsz hy1 hy2
            go_wp2_with fail
            go_quiet (first | (go_at_call 73; refine (plainJ_is HX.out _).mono ?_; rintro _ _ ⟨rfl, rfl⟩; exact ⟨rfl, _, rfl⟩))
            go_wp2_with fail
            go_roundw
            case rel =>
              refine ⟨k + 1, by have := HB.out; omega, hq1, by rw [HK.out, E.out], ?_⟩
              have := (HR.out.drewN nq).pos ((k + 1 : Nat) : Int)
              simpa using this
            case measure =>
              have := (HR.out.drewN nq).pos ((k + 1 : Nat) : Int)
              rw [HR.out.posOf]
              have := TR.posOf this
              simp at this
              rw [this]; omega
    · have E := Lib.hid (prs_end (q := K.m) (o := o) (l := l) (k := k) (by simp [hq]))
      have g1 : decide (k < s.size) = false := decide_eq_false (by omega)
      clear hq hpk hsz
      go_wp2_with fail
      go_quiet (fail)
      go_wp2_with fail
      have R2 := HR.out.drewN nq
      obtain ⟨w2, HW2⟩ : ∃ w2, w2 = wr.drewN nq := ⟨_, rfl⟩
      rw [← HW2] at R2 ⊢
      clear HW2 c0 c1 c2 c3 f1 H3 H4 H1 r2
      have HK3 := Lib.hid (show prs K.m o l p = k by rw [HK.out, E.out])
      have HU := Lib.hid (show s.extract p k = txt ((l.take k).drop p) by rw [HS.out, txt_cut])
      have hul : ((l.take k).drop p).length ≤ 1000000 := by simp; have := HL.out; omega
      have hbb : (p : Int) ≤ k := by have := HB.out; omega
      have htl : t.length ≤ 4000000 := by have := HT.out; have := HP.out; have := HL.out; omega
      have hks : (k : Int) ≤ s.size := by have := HK2.out; have := HS.out; rw [this, txt_size]; omega
      have hb1 : W.heap.size ≤ w2.heap.size := R2.1.size
      obtain ⟨r1, r2, v, h3, h4⟩ := R2
      obtain ⟨c0, c1, c2, c3, cf⟩ := td_cells h3
      have f2 := cf 3
      have H3 := Lib.hid h3
      have H4 := Lib.hid h4
      have H1 := Lib.hid r1
      have H2 := Lib.hid r2
      clear h3 h4 r1 r2 cf E c2
      go_region_law (first | (refine tstep_str (w := w2.drew) rfl (.tmp 72) (.tmp 82) 48 9 rfl W.heap.size 5 i0 Tryz.underlying48 Tryz.underlying9 hi hz0 hz1 hz2 v t.length (bytV t) rfl H4.out.drew (s.extract p k) rfl (by rw [HU.out, txt_size]; unfold maxLen; omega) (by rw [HU.out, txt_size]; omega) hb1 ?_; intro v' w3 hown3 hg3; rw [HU.out, strCells_txt, txt_size] at hown3; obtain ⟨⟨A', n', cp', rfl⟩, h5, R3⟩ := TR.text (w := w2) (p := k) H1.out H2.out H3.out H4.out hown3 (gDrew hg3); obtain ⟨c0', c1', c2', c3', cf'⟩ := td_cells h5; have f2' := cf' 3; clear cf' h5 hown3 hg3 c2'))
      all_goals (have HR3 := Lib.hid R3; obtain ⟨_, _, v9, h9, _⟩ := R3; obtain ⟨_, d1, _, _, _⟩ := td_cells h9; clear h9)
      all_goals go_wp2_with fail
      all_goals go_ret
      all_goals exact ⟨by rw [HK3.out]; rfl, by rw [HK3.out]; exact HR3.out⟩
end
end Go.Proofs.YtbeefjhcbphiaaaGreatDoor
/- The bytes of runes, one behind the other: the program's Put. -/
namespace Go.Proofs.YtbeefjhcbphiaaaGreatDoor
open Go.RowKit

/-- A number of a list; 0 behind its end. -/
def it (l : List Int) (k : Nat) : Int := l.getD k 0
theorem it_drop (l : List Int) (i k : Nat) : it (l.drop i) k = it l (i + k) := by simp [it, List.getElem?_drop]
/-- A slice of numbers. -/
def Num (w : World) (B : Nat) (A : Option Addr) (l : List Int) : Prop := Lst w B A l.length (fun k => .int .i64 (it l k))
theorem Num.at_ {w : World} {B : Nat} {A : Option Addr} {l : List Int} (h : Num w B A l) {k : Nat} (hk : k < l.length) : ∃ b off, A = some ⟨b, off, none⟩ ∧ b < B ∧ ∀ k, k < l.length → w.cell? ⟨b, off + k, none⟩ = some (.int .i64 (it l k)) := h (by omega)

/-- A rune's bytes, as numbers. -/
def encI (r : Int) : List Int :=
  if r < 128 then [r] else if r < 2048 then [192 + r / 64, 128 + r % 64] else if r < 65536 then [224 + r / 4096, 128 + r / 64 % 64, 128 + r % 64]
  else [240 + r / 262144, 128 + r / 4096 % 64, 128 + r / 64 % 64, 128 + r % 64]
theorem encI_len (r : Int) : ((encI r).length : Int) = 1 + mor r := by
  unfold encI mor; split <;> (try split) <;> (try split) <;> simp
theorem encI_len4 (r : Int) : (encI r).length ≤ 4 ∧ 0 < (encI r).length := by
  unfold encI; split <;> (try split) <;> (try split) <;> simp
theorem knw_bd (r : Int) : 0 ≤ knw r ∧ knw r ≤ 1114111 := by unfold knw; split <;> omega
/-- Bytes as a slice's cells. -/
def bytI (l : List Int) : List Value := l.map (.int .u8)

def PutPost (w : World) (base g j N : Nat) (ds : List Value) (r : Int) (e : Ending) (w' : World) : Prop :=
  e = .returned (.slice (some ⟨g, 0, none⟩) (j + (encI r).length) N) ∧ PR w w' base g N (j + (encI r).length) (ds ++ bytI (encI r))
theorem put_any {r : Int} (h1 : 0 ≤ r) (h2 : r ≤ 1114111) (g j N : Nat) (ds : List Value) {w : World} {base : Nat} (hown : w.ownsRow base 5 1 (.slice (some ⟨g, 0, none⟩) j N) j ds) (hr : j + (encI r).length ≤ N) (hN : N ≤ 65536 * 4) (hh : Heads w) :
    Calls Tryz.prog 283 #[.slice (some ⟨g, 0, none⟩) j N, .int .i64 r] w (PutPost w base g j N ds r) := by
  obtain ⟨p0, p1, p2, p3⟩ := hh
  by_cases a : r < 128
  · have e : encI r = [r] := by rw [encI, if_pos a]
    unfold PutPost
    rw [e] at hr ⊢
    refine (put_0 h1 a g j N ds hown (by simpa using hr) hN p0).mono fun e w' ⟨h, k⟩ => ⟨by simpa using h, by simpa [bytI] using k⟩
  by_cases b : r < 2048
  · have e : encI r = [192 + r / 64, 128 + r % 64] := by rw [encI, if_neg a, if_pos b]
    unfold PutPost
    rw [e] at hr ⊢
    refine (put_1 (by omega) b g j N ds hown (by simpa using hr) hN p1).mono fun e w' ⟨h, k⟩ => ⟨by simpa using h, by simpa [bytI] using k⟩
  by_cases c : r < 65536
  · have e : encI r = [224 + r / 4096, 128 + r / 64 % 64, 128 + r % 64] := by rw [encI, if_neg a, if_neg b, if_pos c]
    unfold PutPost
    rw [e] at hr ⊢
    refine (put_2 (by omega) c g j N ds hown (by simpa using hr) hN p2).mono fun e w' ⟨h, k⟩ => ⟨by simpa using h, by simpa [bytI] using k⟩
  · have e : encI r = [240 + r / 262144, 128 + r / 4096 % 64, 128 + r / 64 % 64, 128 + r % 64] := by rw [encI, if_neg a, if_neg b, if_neg c]
    unfold PutPost
    rw [e] at hr ⊢
    refine (put_3 (by omega) h2 g j N ds hown (by simpa using hr) hN p3).mono fun e w' ⟨h, k⟩ => ⟨by simpa using h, by simpa [bytI] using k⟩

/-- The bytes of the first k numbers. -/
def putTo (l : List Int) : Nat → List Int
  | 0 => []
  | k + 1 => putTo l k ++ encI (knw (it l k))
theorem putTo_len (l : List Int) (k : Nat) : (putTo l k).length ≤ 4 * k := by
  induction k with
  | zero => simp [putTo]
  | succ k ih => have := (encI_len4 (knw (it l k))).1; simp [putTo]; omega
theorem putTo_mono (l : List Int) {i k : Nat} (h : i ≤ k) : (putTo l i).length ≤ (putTo l k).length := by
  induction h with
  | refl => exact Nat.le_refl _
  | step _ ih => simp only [putTo, List.length_append]; omega
/-- The bytes of runes, one behind the other, as numbers. -/
def putI (l : List Int) : List Int := putTo l l.length

theorem known_is {r x : Int} (h : x = knw r) (w : World) : Calls Tryz.prog 282 #[.int .i64 r] w fun e w' => e = .returned (.int .i64 x) ∧ w = w' := h ▸ known_any r w
theorem Heads.below {B : Nat} {w w' : World} (h : Heads w) (hb : Below B w w') (hB : 9 < B) : Heads w' := by
  obtain ⟨h0, h1, h2, h3⟩ := h
  exact ⟨(hb.cell (p := ⟨9, 0, none⟩) hB).trans h0, (hb.cell (p := ⟨9, 1, none⟩) hB).trans h1, (hb.cell (p := ⟨9, 2, none⟩) hB).trans h2, (hb.cell (p := ⟨9, 3, none⟩) hB).trans h3⟩

def PutsPost (w : World) (l : List Int) (e : Ending) (w' : World) : Prop :=
  e = .returned (.slice (some ⟨w.heap.size, 0, none⟩) (putI l).length (putI l).length) ∧ w'.ownsRow w.heap.size 5 1 (.slice (some ⟨w.heap.size, 0, none⟩) (putI l).length (putI l).length) (putI l).length (bytI (putI l)) ∧ Below w.heap.size w w'
/-- What holds at each round's head of the second loop. -/
def SRel (w wr : World) (l : List Int) (k M j : Nat) : Prop :=
  j = (putTo l k).length ∧ wr.ownsRow w.heap.size 5 1 (.slice (some ⟨w.heap.size, 0, none⟩) j M) j (bytI (putTo l k)) ∧ Below w.heap.size w wr ∧ w.heap.size < wr.heap.size
theorem SRel.next {w wr w' : World} {l : List Int} {k M j : Nat} {x : Int} {e : Ending} (h : SRel w wr l k M j) (hx : x = knw (it l k)) (hp : PutPost wr w.heap.size w.heap.size j M (bytI (putTo l k)) x e w') :
    ∃ j', e = .returned (.slice (some ⟨w.heap.size, 0, none⟩) j' M) ∧ SRel w w' l (k + 1) M j' := by
  obtain ⟨hj, hown, hb, hs⟩ := h
  obtain ⟨he, hown', hg⟩ := hp
  subst hx
  refine ⟨_, he, by simp [putTo]; omega, by simpa [putTo, bytI] using hown', hb.grown hg (by omega) (fun _ h => by cases h; exact Nat.le_refl _), Nat.lt_of_lt_of_le hs hg.size⟩

set_option maxHeartbeats 1000000 in
theorem puts_any {l : List Int} {B : Nat} {A : Option Addr} (n c : Nat) {w : World} (hn : n = l.length) (hA : Num w B A l) (hB : B ≤ w.heap.size) (hs : n ≤ 65536) (hH : Heads w) (hz : 9 < w.heap.size) :
    Calls Tryz.prog 280 #[.slice A n c] w (PutsPost w l) := by
  obtain ⟨i0, hi, hz0, hz1, hz2⟩ := info_parts (show (Tryz.prog.info? 5).map (fun i => (i.zero, i.size, i.bytes)) = some (some (.int .u8 0), 1, 1) by kernel_rfl)
  have HH := Lib.hid hH
  have Hn := Lib.hid hn
  have hlen := putTo_len l n
  obtain ⟨M, HM⟩ : ∃ M, Hid (M = (putTo l n).length) := ⟨_, rfl⟩
  clear hn hH
  go_enter Tryz.func280, Tryz.ntmps280
  go_wp2
  go_loop [3, 11] (fun s i => ∃ k : Nat, k ≤ n ∧ i = .int .i64 k ∧ s = .int .i64 ((putTo l k).length : Int)) (fun _ i => n - (intOf i).toNat)
  case atStart => exact ⟨0, Nat.zero_le _, rfl, rfl⟩
  case round =>
    obtain ⟨k, hk, rfl, rfl⟩ := hrel
    have hlk := putTo_len l k
    by_cases hlt : k < n
    · obtain ⟨b, off, rfl, _, hc⟩ := hA.at_ (k := k) (by have := Hn.out; omega)
      have hck := hc k (by have := Hn.out; omega)
      clear hc
      obtain ⟨x, HX⟩ : ∃ x, Hid (x = knw (it l k)) := ⟨_, rfl⟩
      obtain ⟨y, HY⟩ : ∃ y : Int, Hid (mor x = y) := ⟨_, rfl⟩
      have hy : 0 ≤ y ∧ y ≤ 3 := by have := HY.out; unfold mor at this; repeat' split at this
                                    all_goals omega
      have HS := Lib.hid (show (((putTo l (k + 1)).length : Nat) : Int) = (putTo l k).length + (1 + y) by rw [← HY.out, ← encI_len, HX.out]; simp [putTo])
      obtain ⟨hy0, hy3⟩ := hy
      go_wp2_with (first
        | (go_at_call 282; refine (known_is HX.out _).mono ?_; rintro e w' ⟨rfl, rfl⟩)
        | (go_at_call 281; refine (more_is HY.out _).mono ?_; rintro e w' ⟨rfl, rfl⟩))
      go_round
      case rel => exact ⟨k + 1, by omega, by go_num, by rw [HS.out]⟩
      case measure => simp [intOf]; omega
    · obtain rfl : n = k := by omega
      go_wp2_with (at_make; refine wpList_make_own _ rfl _ _ 48 rfl w.heap.size 5 i0 (.int .u8 0) 1 Tryz.underlying48 hi hz0 hz1 .i64 .i64 _ (putTo l n).length rfl rfl rfl (by rw [hz2]; omega) (by unfold maxLen; omega) (Nat.le_refl _) ?_; intro w1 hown1 hg1)
      have R0 : SRel w w1 l 0 (putTo l n).length 0 := ⟨rfl, hown1, (Below.refl _ _).grown hg1 (Nat.le_refl _) (fun _ h => by cases h), (hown1.lt _ rfl).2⟩
      clear hown1 hg1
      go_loopw [6, 26] (fun s i wr => ∃ k j : Nat, k ≤ n ∧ i = .int .i64 k ∧ s = .slice (some ⟨w.heap.size, 0, none⟩) j (putTo l n).length ∧ SRel w wr l k (putTo l n).length j) (fun _ i _ => n - (intOf i).toNat)
      case atStart => exact ⟨0, 0, Nat.zero_le _, rfl, rfl, R0⟩
      case round =>
        obtain ⟨k, j, hk, rfl, rfl, R⟩ := hrel
        clear R0
        by_cases hlt : k < n
        · obtain ⟨b, off, rfl, hbB, hc⟩ := hA.at_ (k := k) (by have := Hn.out; omega)
          have hck : wr.cell? ⟨b, off + k, none⟩ = some (.int .i64 (it l k)) := (R.2.2.1.cell (p := ⟨b, off + k, none⟩) (by show b < _; omega)).trans (hc k (by have := Hn.out; omega))
          clear hc
          obtain ⟨x, HX⟩ : ∃ x, Hid (x = knw (it l k)) := ⟨_, rfl⟩
          have hx := knw_bd (it l k)
          rw [← HX.out] at hx
          obtain ⟨hx0, hx1⟩ := hx
          have hroom : j + (encI x).length ≤ (putTo l n).length := by
            have h1 := putTo_mono l (show k + 1 ≤ n by omega)
            rw [putTo, List.length_append, ← HX.out] at h1
            have := R.1; omega
          have HR := Lib.hid R
          have Hh := Lib.hid (HH.out.below R.2.2.1 hz)
          clear R
          go_wp2_with (first
            | (go_at_call 282; refine (known_is HX.out _).mono ?_; rintro e w' ⟨rfl, rfl⟩)
            | (go_at_call 283; refine (put_any hx0 hx1 w.heap.size j (putTo l n).length (bytI (putTo l k)) HR.out.2.1 hroom (by omega) Hh.out).mono ?_; rintro e w' P; obtain ⟨j', rfl, R'⟩ := SRel.next HR.out HX.out P; clear P))
          go_roundw
          case rel => exact ⟨k + 1, j', by omega, by go_num, rfl, R'⟩
          case measure => simp [intOf]; omega
        · obtain rfl : n = k := by omega
          have hj : j = (putTo l n).length := R.1
          have HR := Lib.hid R
          have e := Lib.hid Hn.out
          clear R
          subst hj
          go_wp2
          go_ret
          have e : putI l = putTo l n := by rw [putI, ← Hn.out]
          unfold PutsPost
          rw [e]
          exact ⟨rfl, HR.out.2.1, HR.out.2.2.1⟩
end Go.Proofs.YtbeefjhcbphiaaaGreatDoor
