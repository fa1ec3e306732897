/- The bytes of a rune put behind others: the program's put. -/
import Derived.Test.YtggeiajbcehkjaaGreatDoorGaa
import Derived.Test.YtggeiajbcehkjaaGreatDoorGad
import Derived.LoopTactic
import Derived.Outline
import Derived.Deep.RegionLaw
import Derived.Deep.DeepAppendRoom
import Derived.Deep.LoopGhost
import Derived.OwnWalk
import Derived.Laws.MakeOwn
namespace Go.Proofs.YtggeiajbcehkjaaGreatDoor
open Go.RowKit

/-- The heads of runes, as the program lays them. -/
def Heads (w : World) : Prop := w.cell? ⟨3, 0, none⟩ = some (.int .u8 0) ∧ w.cell? ⟨3, 1, none⟩ = some (.int .u8 192) ∧ w.cell? ⟨3, 2, none⟩ = some (.int .u8 224) ∧ w.cell? ⟨3, 3, none⟩ = some (.int .u8 240)
theorem more_is {r k : Int} (h : mor r = k) (w : World) : Calls Tryz.prog 273 #[.int .i64 r] w fun e w' => e = .returned (.int .i64 k) ∧ w = w' := h ▸ more_any r w

/-- append within the capacity, as a step of a region that draws its order. -/
theorem step_spare {P : Program} {w : World} {ops : Array Oper} {o : Oper} {a : Act} {K : Act → World → Prop} {Q : Exit → Act → World → Prop} {E : Prop} (hgd : o.guard = none) (s x : Operand) (t : TypeId)
    (ho : o.op = .call { callee := .builtin .append, args := #[s, x], argTypes := #[t, t] })
    (base : Nat) (e : TypeId) (i : TypeInfo) (size : Nat) (ht : P.underlying t = some (.slice e)) (hi : P.info? e = some i) (hsize : i.size = size)
    (g n cap : Nat) (xs : List Value) (hs : a.eval s = .slice (some ⟨g, 0, none⟩) n cap) (hown : w.ownsRow base e size (.slice (some ⟨g, 0, none⟩) n cap) n xs)
    (ad : Addr) (m c : Nat) (news : List Value) (hx : a.eval x = .slice (some ad) m c) (hl : news.length = m * size) (hnews : ∀ j u, news[j]? = some u → w.cell? (ad.add j) = some u) (h1 : ∀ u ∈ news, u.oneCell' = true)
    (hroom : n + m ≤ cap)
    (h : ∀ w', w'.ownsRow base e size (.slice (some ⟨g, 0, none⟩) (n + m) cap) (n + m) (xs ++ news) → w.grownBy w' (some g) → K (a.put o.dst (.slice (some ⟨g, 0, none⟩) (n + m) cap)) w') :
    if Region.wanted o (yielded ops a.tmps) = true then Oper.wp P o a w K Q else E := by
  have hw : Region.wanted o (yielded ops a.tmps) = true := by simp [Region.wanted, hgd]
  rw [if_pos hw]
  exact wp_append_own_spare w s x t ho base e i size ht hi hsize g n cap xs hs hown ad m c news hx hl hnews h1 hroom h

theorem gTrans {a b c : World} {row : Option Nat} (h : a.grownBy b row) (k : b.grownBy c row) : a.grownBy c row :=
  ⟨k.os.trans h.os, k.tape.trans h.tape, k.output.trans h.output, Nat.le_trans h.size k.size, fun i hi hn => (k.block i (Nat.lt_of_lt_of_le hi h.size) hn).trans (h.block i hi hn)⟩
theorem jgDrew {a b : World} {row : Option Nat} (h : a.drew.grownBy b row) : a.grownBy b row := ⟨h.os, h.tape, h.output, h.size, h.block⟩
/-- The row that is put to, and that nothing else has turned. -/
def PR (w wr : World) (base g N m : Nat) (xs : List Value) : Prop := wr.ownsRow base 5 1 (.slice (some ⟨g, 0, none⟩) m N) m xs ∧ w.grownBy wr (some g)
theorem PR.step {w wr w1 : World} {base g N m : Nat} {xs ys : List Value} {o : Obj} (h : PR w wr base g N m xs) (hown : w1.ownsRow base 5 1 (.slice (some ⟨g, 0, none⟩) (m + 1) N) (m + 1) ys) (hg : (wr.alloc o).grownBy w1 (some g)) : PR w w1 base g N (m + 1) ys :=
  ⟨hown, gTrans (gTrans h.2 (World.grownBy_alloc wr o _)) hg⟩
theorem wrap8 (x : Int) : IntKind.u8.wrap x = x % 256 := IntKind.wrap_u8' x
theorem and63' (x : Int) : bits .and .u8 (x % 256) 63 = x % 64 := by rw [and63 _ (by omega) (by omega)]; omega
theorem or128' (x : Int) : bits .or .u8 128 (x % 64) = 128 + x % 64 := or128 _ (by omega) (by omega)
set_option maxHeartbeats 1000000 in
theorem put_0 {r : Int} (h1 : 0 ≤ r) (h2 : r < 128) (g j N : Nat) (ds : List Value) {w : World} {base : Nat} (hown : w.ownsRow base 5 1 (.slice (some ⟨g, 0, none⟩) j N) j ds) (hr : j + 1 ≤ N) (_hN : N ≤ 65536 * 4) (hh : w.cell? ⟨3, 0, none⟩ = some (.int .u8 0)) :
    Calls Tryz.prog 275 #[.slice (some ⟨g, 0, none⟩) j N, .int .i64 r] w fun e w' => e = .returned (.slice (some ⟨g, 0, none⟩) (j + 1) N) ∧ PR w w' base g N (j + 1) (ds ++ [.int .u8 (r)]) := by
  obtain ⟨i0, hi, hz0, hz1, hz2⟩ := info_parts (show (Tryz.prog.info? 5).map (fun i => (i.zero, i.size, i.bytes)) = some (some (.int .u8 0), 1, 1) by kernel_rfl)
  have HM := Lib.hid (show mor r = 0 by unfold mor; split <;> (try split) <;> (try split) <;> omega)
  have e12 : IntKind.i64.wrap 0 = 0 := by decide
  have e16 : IntKind.u8.wrap (r) = r := by rw [IntKind.wrap_u8']; omega
  have eor : bits .or .u8 0 (r) = r := or0 _ (by omega) (by omega)
  go_enter Tryz.func275, Tryz.ntmps275
  go_wp2_with (go_at_call 273; refine (more_is HM.out _).mono ?_; rintro e w' ⟨rfl, rfl⟩)
  go_region_law (refine step_spare (w := (w.alloc (.cells #[.int .u8 (r)] 5)).drew) rfl (.tmp 8) (.tmp 18) 41 rfl base 5 i0 1 Tryz.underlying41 hi hz1 g j N ds rfl (World.ownsRow.drew (hown.alloc _)) ⟨w.heap.size, 0, none⟩ 1 1 [.int .u8 (r)] rfl rfl (fun x u hx => cell_one_new w _ _ x u hx) (ints_oneCell .u8 [r]) (by omega) ?_; intro w1 hown1 hg1)
  have P1 : PR w w1 base g N (j + 1) (ds ++ [.int .u8 (r)]) := PR.step ⟨hown, World.grownBy.refl _ _⟩ hown1 (jgDrew hg1)
  clear hown1 hg1 e16 eor hh
  go_simp
  have f1 := wrap8
  have f2 := and63'
  have f3 := or128'
  go_wp2

  go_loopw [0, 5] (fun b i wr => (i = .int .i64 0 ∧ b = .slice (some ⟨g, 0, none⟩) (j + 1) N ∧ PR w wr base g N (j + 1) (ds ++ [.int .u8 (r)]))) (fun _ i _ => (intOf i).toNat)
  case atStart => exact ⟨rfl, rfl, P1⟩
  case round =>
    clear P1
    rcases hrel with ⟨rfl, rfl, P⟩
    · go_wp2
      go_ret
      exact ⟨rfl, P⟩
set_option maxHeartbeats 1000000 in
theorem put_1 {r : Int} (h1 : 128 ≤ r) (h2 : r < 2048) (g j N : Nat) (ds : List Value) {w : World} {base : Nat} (hown : w.ownsRow base 5 1 (.slice (some ⟨g, 0, none⟩) j N) j ds) (hr : j + 2 ≤ N) (_hN : N ≤ 65536 * 4) (hh : w.cell? ⟨3, 1, none⟩ = some (.int .u8 192)) :
    Calls Tryz.prog 275 #[.slice (some ⟨g, 0, none⟩) j N, .int .i64 r] w fun e w' => e = .returned (.slice (some ⟨g, 0, none⟩) (j + 1 + 1) N) ∧ PR w w' base g N (j + 1 + 1) (ds ++ [.int .u8 (192 + r / 64)] ++ [.int .u8 (128 + r % 64)]) := by
  obtain ⟨i0, hi, hz0, hz1, hz2⟩ := info_parts (show (Tryz.prog.info? 5).map (fun i => (i.zero, i.size, i.bytes)) = some (some (.int .u8 0), 1, 1) by kernel_rfl)
  have HM := Lib.hid (show mor r = 1 by unfold mor; split <;> (try split) <;> (try split) <;> omega)
  have e12 : IntKind.i64.wrap 6 = 6 := by decide
  have e16 : IntKind.u8.wrap (r / 64) = r / 64 := by rw [IntKind.wrap_u8']; omega
  have eor : bits .or .u8 192 (r / 64) = 192 + r / 64 := or192 _ (by omega) (by omega)
  go_enter Tryz.func275, Tryz.ntmps275
  go_wp2_with (go_at_call 273; refine (more_is HM.out _).mono ?_; rintro e w' ⟨rfl, rfl⟩)
  go_region_law (refine step_spare (w := (w.alloc (.cells #[.int .u8 (192 + r / 64)] 5)).drew) rfl (.tmp 8) (.tmp 18) 41 rfl base 5 i0 1 Tryz.underlying41 hi hz1 g j N ds rfl (World.ownsRow.drew (hown.alloc _)) ⟨w.heap.size, 0, none⟩ 1 1 [.int .u8 (192 + r / 64)] rfl rfl (fun x u hx => cell_one_new w _ _ x u hx) (ints_oneCell .u8 [192 + r / 64]) (by omega) ?_; intro w1 hown1 hg1)
  have P1 : PR w w1 base g N (j + 1) (ds ++ [.int .u8 (192 + r / 64)]) := PR.step ⟨hown, World.grownBy.refl _ _⟩ hown1 (jgDrew hg1)
  clear hown1 hg1 e16 eor hh
  go_simp
  have f1 := wrap8
  have f2 := and63'
  have f3 := or128'
  go_wp2
  go_loopw [0, 5] (fun b i wr => (i = .int .i64 1 ∧ b = .slice (some ⟨g, 0, none⟩) (j + 1) N ∧ PR w wr base g N (j + 1) (ds ++ [.int .u8 (192 + r / 64)])) ∨ (i = .int .i64 0 ∧ b = .slice (some ⟨g, 0, none⟩) (j + 1 + 1) N ∧ PR w wr base g N (j + 1 + 1) (ds ++ [.int .u8 (192 + r / 64)] ++ [.int .u8 (128 + r % 64)]))) (fun _ i _ => (intOf i).toNat)
  case atStart => exact Or.inl ⟨rfl, rfl, P1⟩
  case round =>
    clear P1
    rcases hrel with ⟨rfl, rfl, P⟩ | ⟨rfl, rfl, P⟩
    · have hown := P.1
      go_wp2_with (at_builtin; refine wpList_append_own_spare _ rfl (.tmp 24) (.tmp 32) 41 rfl base 5 i0 1 Tryz.underlying41 hi hz1 g (j + 1) N (ds ++ [.int .u8 (192 + r / 64)]) rfl (hown.alloc _) ⟨wr.heap.size, 0, none⟩ 1 1 [.int .u8 (128 + r % 64)] rfl rfl (cell_one_new _ _ _) (ints_oneCell .u8 [128 + r % 64]) (by omega) ?_; intro w2 hown2 hg2)
      have P2 := PR.step P hown2 hg2
      clear hown2 hg2
      go_roundw
      case rel => exact (Or.inr ⟨rfl, rfl, P2⟩)
      case measure => simp [intOf]
    · go_wp2
      go_ret
      exact ⟨rfl, P⟩
set_option maxHeartbeats 1000000 in
theorem put_2 {r : Int} (h1 : 2048 ≤ r) (h2 : r < 65536) (g j N : Nat) (ds : List Value) {w : World} {base : Nat} (hown : w.ownsRow base 5 1 (.slice (some ⟨g, 0, none⟩) j N) j ds) (hr : j + 3 ≤ N) (_hN : N ≤ 65536 * 4) (hh : w.cell? ⟨3, 2, none⟩ = some (.int .u8 224)) :
    Calls Tryz.prog 275 #[.slice (some ⟨g, 0, none⟩) j N, .int .i64 r] w fun e w' => e = .returned (.slice (some ⟨g, 0, none⟩) (j + 1 + 1 + 1) N) ∧ PR w w' base g N (j + 1 + 1 + 1) (ds ++ [.int .u8 (224 + r / 4096)] ++ [.int .u8 (128 + r / 64 % 64)] ++ [.int .u8 (128 + r % 64)]) := by
  obtain ⟨i0, hi, hz0, hz1, hz2⟩ := info_parts (show (Tryz.prog.info? 5).map (fun i => (i.zero, i.size, i.bytes)) = some (some (.int .u8 0), 1, 1) by kernel_rfl)
  have HM := Lib.hid (show mor r = 2 by unfold mor; split <;> (try split) <;> (try split) <;> omega)
  have e12 : IntKind.i64.wrap 12 = 12 := by decide
  have e16 : IntKind.u8.wrap (r / 4096) = r / 4096 := by rw [IntKind.wrap_u8']; omega
  have eor : bits .or .u8 224 (r / 4096) = 224 + r / 4096 := or224 _ (by omega) (by omega)
  go_enter Tryz.func275, Tryz.ntmps275
  go_wp2_with (go_at_call 273; refine (more_is HM.out _).mono ?_; rintro e w' ⟨rfl, rfl⟩)
  go_region_law (refine step_spare (w := (w.alloc (.cells #[.int .u8 (224 + r / 4096)] 5)).drew) rfl (.tmp 8) (.tmp 18) 41 rfl base 5 i0 1 Tryz.underlying41 hi hz1 g j N ds rfl (World.ownsRow.drew (hown.alloc _)) ⟨w.heap.size, 0, none⟩ 1 1 [.int .u8 (224 + r / 4096)] rfl rfl (fun x u hx => cell_one_new w _ _ x u hx) (ints_oneCell .u8 [224 + r / 4096]) (by omega) ?_; intro w1 hown1 hg1)
  have P1 : PR w w1 base g N (j + 1) (ds ++ [.int .u8 (224 + r / 4096)]) := PR.step ⟨hown, World.grownBy.refl _ _⟩ hown1 (jgDrew hg1)
  clear hown1 hg1 e16 eor hh
  go_simp
  have f1 := wrap8
  have f2 := and63'
  have f3 := or128'
  go_wp2
  go_loopw [0, 5] (fun b i wr => (i = .int .i64 2 ∧ b = .slice (some ⟨g, 0, none⟩) (j + 1) N ∧ PR w wr base g N (j + 1) (ds ++ [.int .u8 (224 + r / 4096)])) ∨ (i = .int .i64 1 ∧ b = .slice (some ⟨g, 0, none⟩) (j + 1 + 1) N ∧ PR w wr base g N (j + 1 + 1) (ds ++ [.int .u8 (224 + r / 4096)] ++ [.int .u8 (128 + r / 64 % 64)])) ∨ (i = .int .i64 0 ∧ b = .slice (some ⟨g, 0, none⟩) (j + 1 + 1 + 1) N ∧ PR w wr base g N (j + 1 + 1 + 1) (ds ++ [.int .u8 (224 + r / 4096)] ++ [.int .u8 (128 + r / 64 % 64)] ++ [.int .u8 (128 + r % 64)]))) (fun _ i _ => (intOf i).toNat)
  case atStart => exact Or.inl ⟨rfl, rfl, P1⟩
  case round =>
    clear P1
    rcases hrel with ⟨rfl, rfl, P⟩ | ⟨rfl, rfl, P⟩ | ⟨rfl, rfl, P⟩
    · have hown := P.1
      go_wp2_with (at_builtin; refine wpList_append_own_spare _ rfl (.tmp 24) (.tmp 32) 41 rfl base 5 i0 1 Tryz.underlying41 hi hz1 g (j + 1) N (ds ++ [.int .u8 (224 + r / 4096)]) rfl (hown.alloc _) ⟨wr.heap.size, 0, none⟩ 1 1 [.int .u8 (128 + r / 64 % 64)] rfl rfl (cell_one_new _ _ _) (ints_oneCell .u8 [128 + r / 64 % 64]) (by omega) ?_; intro w2 hown2 hg2)
      have P2 := PR.step P hown2 hg2
      clear hown2 hg2
      go_roundw
      case rel => exact (Or.inr (Or.inl ⟨rfl, rfl, P2⟩))
      case measure => simp [intOf]
    · have hown := P.1
      go_wp2_with (at_builtin; refine wpList_append_own_spare _ rfl (.tmp 24) (.tmp 32) 41 rfl base 5 i0 1 Tryz.underlying41 hi hz1 g (j + 1 + 1) N (ds ++ [.int .u8 (224 + r / 4096)] ++ [.int .u8 (128 + r / 64 % 64)]) rfl (hown.alloc _) ⟨wr.heap.size, 0, none⟩ 1 1 [.int .u8 (128 + r % 64)] rfl rfl (cell_one_new _ _ _) (ints_oneCell .u8 [128 + r % 64]) (by omega) ?_; intro w2 hown2 hg2)
      have P2 := PR.step P hown2 hg2
      clear hown2 hg2
      go_roundw
      case rel => exact (Or.inr (Or.inr ⟨rfl, rfl, P2⟩))
      case measure => simp [intOf]
    · go_wp2
      go_ret
      exact ⟨rfl, P⟩
set_option maxHeartbeats 1000000 in
theorem put_3 {r : Int} (h1 : 65536 ≤ r) (h2 : r ≤ 1114111) (g j N : Nat) (ds : List Value) {w : World} {base : Nat} (hown : w.ownsRow base 5 1 (.slice (some ⟨g, 0, none⟩) j N) j ds) (hr : j + 4 ≤ N) (_hN : N ≤ 65536 * 4) (hh : w.cell? ⟨3, 3, none⟩ = some (.int .u8 240)) :
    Calls Tryz.prog 275 #[.slice (some ⟨g, 0, none⟩) j N, .int .i64 r] w fun e w' => e = .returned (.slice (some ⟨g, 0, none⟩) (j + 1 + 1 + 1 + 1) N) ∧ PR w w' base g N (j + 1 + 1 + 1 + 1) (ds ++ [.int .u8 (240 + r / 262144)] ++ [.int .u8 (128 + r / 4096 % 64)] ++ [.int .u8 (128 + r / 64 % 64)] ++ [.int .u8 (128 + r % 64)]) := by
  obtain ⟨i0, hi, hz0, hz1, hz2⟩ := info_parts (show (Tryz.prog.info? 5).map (fun i => (i.zero, i.size, i.bytes)) = some (some (.int .u8 0), 1, 1) by kernel_rfl)
  have HM := Lib.hid (show mor r = 3 by unfold mor; split <;> (try split) <;> (try split) <;> omega)
  have e12 : IntKind.i64.wrap 18 = 18 := by decide
  have e16 : IntKind.u8.wrap (r / 262144) = r / 262144 := by rw [IntKind.wrap_u8']; omega
  have eor : bits .or .u8 240 (r / 262144) = 240 + r / 262144 := or240 _ (by omega) (by omega)
  go_enter Tryz.func275, Tryz.ntmps275
  go_wp2_with (go_at_call 273; refine (more_is HM.out _).mono ?_; rintro e w' ⟨rfl, rfl⟩)
  go_region_law (refine step_spare (w := (w.alloc (.cells #[.int .u8 (240 + r / 262144)] 5)).drew) rfl (.tmp 8) (.tmp 18) 41 rfl base 5 i0 1 Tryz.underlying41 hi hz1 g j N ds rfl (World.ownsRow.drew (hown.alloc _)) ⟨w.heap.size, 0, none⟩ 1 1 [.int .u8 (240 + r / 262144)] rfl rfl (fun x u hx => cell_one_new w _ _ x u hx) (ints_oneCell .u8 [240 + r / 262144]) (by omega) ?_; intro w1 hown1 hg1)
  have P1 : PR w w1 base g N (j + 1) (ds ++ [.int .u8 (240 + r / 262144)]) := PR.step ⟨hown, World.grownBy.refl _ _⟩ hown1 (jgDrew hg1)
  clear hown1 hg1 e16 eor hh
  go_simp
  have f1 := wrap8
  have f2 := and63'
  have f3 := or128'
  go_wp2
  go_loopw [0, 5] (fun b i wr => (i = .int .i64 3 ∧ b = .slice (some ⟨g, 0, none⟩) (j + 1) N ∧ PR w wr base g N (j + 1) (ds ++ [.int .u8 (240 + r / 262144)])) ∨ (i = .int .i64 2 ∧ b = .slice (some ⟨g, 0, none⟩) (j + 1 + 1) N ∧ PR w wr base g N (j + 1 + 1) (ds ++ [.int .u8 (240 + r / 262144)] ++ [.int .u8 (128 + r / 4096 % 64)])) ∨ (i = .int .i64 1 ∧ b = .slice (some ⟨g, 0, none⟩) (j + 1 + 1 + 1) N ∧ PR w wr base g N (j + 1 + 1 + 1) (ds ++ [.int .u8 (240 + r / 262144)] ++ [.int .u8 (128 + r / 4096 % 64)] ++ [.int .u8 (128 + r / 64 % 64)])) ∨ (i = .int .i64 0 ∧ b = .slice (some ⟨g, 0, none⟩) (j + 1 + 1 + 1 + 1) N ∧ PR w wr base g N (j + 1 + 1 + 1 + 1) (ds ++ [.int .u8 (240 + r / 262144)] ++ [.int .u8 (128 + r / 4096 % 64)] ++ [.int .u8 (128 + r / 64 % 64)] ++ [.int .u8 (128 + r % 64)]))) (fun _ i _ => (intOf i).toNat)
  case atStart => exact Or.inl ⟨rfl, rfl, P1⟩
  case round =>
    clear P1
    rcases hrel with ⟨rfl, rfl, P⟩ | ⟨rfl, rfl, P⟩ | ⟨rfl, rfl, P⟩ | ⟨rfl, rfl, P⟩
    · have hown := P.1
      go_wp2_with (at_builtin; refine wpList_append_own_spare _ rfl (.tmp 24) (.tmp 32) 41 rfl base 5 i0 1 Tryz.underlying41 hi hz1 g (j + 1) N (ds ++ [.int .u8 (240 + r / 262144)]) rfl (hown.alloc _) ⟨wr.heap.size, 0, none⟩ 1 1 [.int .u8 (128 + r / 4096 % 64)] rfl rfl (cell_one_new _ _ _) (ints_oneCell .u8 [128 + r / 4096 % 64]) (by omega) ?_; intro w2 hown2 hg2)
      have P2 := PR.step P hown2 hg2
      clear hown2 hg2
      go_roundw
      case rel => exact (Or.inr (Or.inl ⟨rfl, rfl, P2⟩))
      case measure => simp [intOf]
    · have hown := P.1
      go_wp2_with (at_builtin; refine wpList_append_own_spare _ rfl (.tmp 24) (.tmp 32) 41 rfl base 5 i0 1 Tryz.underlying41 hi hz1 g (j + 1 + 1) N (ds ++ [.int .u8 (240 + r / 262144)] ++ [.int .u8 (128 + r / 4096 % 64)]) rfl (hown.alloc _) ⟨wr.heap.size, 0, none⟩ 1 1 [.int .u8 (128 + r / 64 % 64)] rfl rfl (cell_one_new _ _ _) (ints_oneCell .u8 [128 + r / 64 % 64]) (by omega) ?_; intro w2 hown2 hg2)
      have P2 := PR.step P hown2 hg2
      clear hown2 hg2
      go_roundw
      case rel => exact (Or.inr (Or.inr (Or.inl ⟨rfl, rfl, P2⟩)))
      case measure => simp [intOf]
    · have hown := P.1
      go_wp2_with (at_builtin; refine wpList_append_own_spare _ rfl (.tmp 24) (.tmp 32) 41 rfl base 5 i0 1 Tryz.underlying41 hi hz1 g (j + 1 + 1 + 1) N (ds ++ [.int .u8 (240 + r / 262144)] ++ [.int .u8 (128 + r / 4096 % 64)] ++ [.int .u8 (128 + r / 64 % 64)]) rfl (hown.alloc _) ⟨wr.heap.size, 0, none⟩ 1 1 [.int .u8 (128 + r % 64)] rfl rfl (cell_one_new _ _ _) (ints_oneCell .u8 [128 + r % 64]) (by omega) ?_; intro w2 hown2 hg2)
      have P2 := PR.step P hown2 hg2
      clear hown2 hg2
      go_roundw
      case rel => exact (Or.inr (Or.inr (Or.inr ⟨rfl, rfl, P2⟩)))
      case measure => simp [intOf]
    · go_wp2
      go_ret
      exact ⟨rfl, P⟩
end Go.Proofs.YtggeiajbcehkjaaGreatDoor
