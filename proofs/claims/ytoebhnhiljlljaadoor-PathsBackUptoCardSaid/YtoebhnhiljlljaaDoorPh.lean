/- What landed of paths: the order of steps, and of paths; whether one begins with another one. -/
import Derived.Test.YtoebhnhiljlljaaDoorPg
import Derived.Test.YtoebhnhiljlljaaDoorShelf
import Derived.Deep.RegionHeldLaw
import Derived.Deep.QuietTactic
import Derived.BigQuiet
import Derived.Deep.Quiet
import Derived.Deep.CutRange
namespace Go.Proofs.YtoebhnhiljlljaaDoor
open Go.RowKit
namespace Pa
set_option maxRecDepth 100000

theorem strc_any {a b : Bs} {S T : ByteArray} (hS : S = txt a) (hT : T = txt b) (w : World) : Calls Tryd.prog 50 #[.string S, .string T] w fun e w' => e = .returned (.int .i64 (oN (bcmp a b))) ∧ w = w' := by
  have := Tryd.strings_Compare S T w
  rw [tx_data hS, tx_data hT, cmpBytes] at this
  exact this.mono fun e w' ⟨h1, h2⟩ => ⟨h1, h2.symm⟩
/-- A step in a block of its own. -/
abbrev stO (s : St) : Obj := .cells #[.int .u8 s.kind, .string (txt s.text), .string (txt s.id), .int .i64 s.pos] 32
structure Bx (wx : World) (h : Nat) (a b c d : Value) : Prop where
  lt : h < wx.heap.size
  c0 : wx.cell? ⟨h, 0, none⟩ = some a
  c1 : wx.cell? ⟨h, 1, none⟩ = some b
  c2 : wx.cell? ⟨h, 2, none⟩ = some c
  c3 : wx.cell? ⟨h, 3, none⟩ = some d
theorem cell_old {w w' : World} {b k : Nat} {v : Value} (hb : Below w.heap.size w w') (h : b < w.heap.size) (hc : w.cell? ⟨b, k, none⟩ = some v) : w'.cell? ⟨b, k, none⟩ = some v := by rw [hb.cell h]; exact hc
theorem below_tr {W w w' : World} (h : Below W.heap.size W w) (h' : Below w.heap.size w w') : Below W.heap.size W w' := h.trans (h'.mono h.size)
theorem Bx.on {w w' : World} {h : Nat} {a b c d : Value} (H : Bx w h a b c d) (hb : Below w.heap.size w w') : Bx w' h a b c d :=
  ⟨Nat.lt_of_lt_of_le H.lt hb.size, cell_old hb H.lt H.c0, cell_old hb H.lt H.c1, cell_old hb H.lt H.c2, cell_old hb H.lt H.c3⟩
theorem Bx.new (w : World) (a b c d : Value) (t : TypeId) : Bx (w.alloc (.cells #[a, b, c, d] t)) w.heap.size a b c d := by
  have e := four_new w a b c d t
  exact ⟨by show _ < (w.heap.push _).size; rw [Array.size_push]; omega, e.1, e.2.1, e.2.2.1, e.2.2.2⟩
theorem below_new (w : World) (o : Obj) : Below w.heap.size w (w.alloc o) := (Below.refl _ _).alloc (Nat.le_refl _) _
section
variable {P : Program} {ops : Array Oper} {C : World → Prop}
/-- A region that draws its order: one walk, in the order of the text, over worlds of a class of one's own. -/
theorem reg_lit {id : Nat} {Q : Exit → Act → World → Prop} {a : Act} {w : World} {l : List Oper} (hm : P.follows .mixedOrders = true) (hB : Region.lexB .any l.toArray = true) (hC : C w.drew)
    (h : wpQuiet P l.toArray C (fun a' => ∀ w', C w' → Q .normal a' w') l a) : (Code.region id l.toArray true).wp P Q a w := wp_region_quiet hm hB hC (by simpa using h)
end
/-- The worlds in which nothing that was there has turned. -/
structure Kept (w : World) where
  wx : World
  held : Below w.heap.size w wx
instance (w : World) : Nonempty (Kept w) := ⟨⟨w, Below.refl _ _⟩⟩
theorem Kept.out {w : World} {v : Value} {s : Kept w} {w' : World} (h : Below s.wx.heap.size s.wx w') : Ending.returned v = Ending.returned v ∧ ∃ t : Kept w, w' = t.wx := ⟨rfl, ⟨w', below_tr s.held h⟩, rfl⟩
theorem Kept.cell {w : World} (s : Kept w) {p : Addr} {v : Value} (h : w.cell? p = some v) : s.wx.cell? p = some v := (s.held.cell (World.block_lt_of_cell? w p h)).trans h
set_option maxHeartbeats 8000000 in
theorem order_any (x y : St) (w : World) :
    Calls Tryd.prog 34 #[stV x, stV y] w fun e w' => e = .returned (.int .i64 (oN (cS x y))) ∧ Below w.heap.size w w' := by
  obtain ⟨T, hT⟩ : ∃ T, T = txt x.text := ⟨_, rfl⟩
  obtain ⟨T', hT'⟩ : ∃ T, T = txt y.text := ⟨_, rfl⟩
  obtain ⟨U, hU⟩ : ∃ T, T = txt x.id := ⟨_, rfl⟩
  obtain ⟨U', hU'⟩ : ∃ T, T = txt y.id := ⟨_, rfl⟩
  obtain ⟨R, hR⟩ : ∃ R, R = oN (cS x y) := ⟨_, rfl⟩
  obtain ⟨O1, h1⟩ : ∃ O, O = oN (ncmp x.kind y.kind) := ⟨_, rfl⟩
  obtain ⟨O2, h2⟩ : ∃ O, O = oN (bcmp x.text y.text) := ⟨_, rfl⟩
  obtain ⟨O3, h3⟩ : ∃ O, O = oN (icmp x.pos y.pos) := ⟨_, rfl⟩
  obtain ⟨O4, h4⟩ : ∃ O, O = oN (bcmp x.id y.id) := ⟨_, rfl⟩
  have HR := Lib.hid (show R = or4 O1 O2 O3 O4 by rw [hR, h1, h2, h3, h4, or4_oN]; rfl)
  have CK := Lib.hid (kinds_any x.kind y.kind)
  have CT := Lib.hid (strc_any hT hT')
  have CI := Lib.hid (ints_any x.pos y.pos)
  have CU := Lib.hid (strc_any hU hU')
  rw [← h1] at CK
  rw [← h2] at CT
  rw [← h3] at CI
  rw [← h4] at CU
  unfold stV
  rw [← hT, ← hT', ← hU, ← hU', ← hR]
  obtain ⟨k, hk⟩ : ∃ k : Int, k = x.kind := ⟨_, rfl⟩
  obtain ⟨k', hk'⟩ : ∃ k : Int, k = y.kind := ⟨_, rfl⟩
  obtain ⟨p, hp⟩ : ∃ k : Int, k = x.pos := ⟨_, rfl⟩
  obtain ⟨p', hp'⟩ : ∃ k : Int, k = y.pos := ⟨_, rfl⟩
  rw [← hk, ← hk'] at CK
  rw [← hp, ← hp'] at CI
  rw [← hk, ← hk', ← hp, ← hp']
  clear h1 h2 h3 h4 hR hk hk' hp hp' hT hT' hU hU'
  obtain ⟨W1, hW1⟩ : ∃ W, W = w.alloc (.cells #[.int .u8 k, .string T, .string U, .int .i64 p] 32) := ⟨_, rfl⟩
  obtain ⟨W2, hW2⟩ : ∃ W, W = W1.alloc (.cells #[.int .u8 k', .string T', .string U', .int .i64 p'] 32) := ⟨_, rfl⟩
  have hb1 : Below w.heap.size w W1 := by rw [hW1]; exact below_new ..
  have hb2 : Below W1.heap.size W1 W2 := by rw [hW2]; exact below_new ..
  have HX := Lib.hid (show Bx W2 w.heap.size (.int .u8 k) (.string T) (.string U) (.int .i64 p) from (show Bx W1 w.heap.size (.int .u8 k) (.string T) (.string U) (.int .i64 p) from by rw [hW1]; exact Bx.new ..).on hb2)
  have HY := Lib.hid (show Bx W2 W1.heap.size (.int .u8 k') (.string T') (.string U') (.int .i64 p') from by rw [hW2]; exact Bx.new ..)
  have hsz : w.heap.size + 1 = W1.heap.size := by rw [hW1]; show _ = (w.heap.push _).size; rw [Array.size_push]
  have HB2 := Lib.hid (below_tr hb1 hb2)
  have HW1 := Lib.hid hW1
  have HW2 := Lib.hid hW2
  clear hW1 hW2 hb1 hb2
  go_enter Tryd.func34, Tryd.ntmps34
  go_upto_region 1 with fail
  rw [← HW1.out, ← HW2.out]
  obtain ⟨h2, hh2⟩ : ∃ h2, h2 = W1.heap.size := ⟨_, rfl⟩
  rw [← hh2] at HY ⊢
  obtain ⟨h, hh⟩ : ∃ h, h = w.heap.size := ⟨_, rfl⟩
  rw [← hh] at HX ⊢
  clear HW1 HW2 hh hh2 hsz
  have CO := Lib.hid (fun (w' : World) (g : Nat) (h0 : w'.cell? ⟨g, 0, none⟩ = some (.int .i64 O1)) (h1 : w'.cell? ⟨g, 1, none⟩ = some (.int .i64 O2)) (h2 : w'.cell? ⟨g, 2, none⟩ = some (.int .i64 O3)) (h3 : w'.cell? ⟨g, 3, none⟩ = some (.int .i64 O4)) => or4_any (k := 4) w' h0 h1 h2 h3)
  have SS := Lib.hid (fun (X Y : World) (h1 : Below W2.heap.size W2 X ∧ X.cell? ⟨h, 0, none⟩ = some (.int .u8 k) ∧ X.cell? ⟨h, 1, none⟩ = some (.string T) ∧ X.cell? ⟨h, 2, none⟩ = some (.string U) ∧ X.cell? ⟨h, 3, none⟩ = some (.int .i64 p) ∧ X.cell? ⟨h2, 0, none⟩ = some (.int .u8 k') ∧ X.cell? ⟨h2, 1, none⟩ = some (.string T') ∧ X.cell? ⟨h2, 2, none⟩ = some (.string U') ∧ X.cell? ⟨h2, 3, none⟩ = some (.int .i64 p')) (hb : Below X.heap.size X Y) =>
    show Below W2.heap.size W2 Y ∧ Y.cell? ⟨h, 0, none⟩ = some (.int .u8 k) ∧ Y.cell? ⟨h, 1, none⟩ = some (.string T) ∧ Y.cell? ⟨h, 2, none⟩ = some (.string U) ∧ Y.cell? ⟨h, 3, none⟩ = some (.int .i64 p) ∧ Y.cell? ⟨h2, 0, none⟩ = some (.int .u8 k') ∧ Y.cell? ⟨h2, 1, none⟩ = some (.string T') ∧ Y.cell? ⟨h2, 2, none⟩ = some (.string U') ∧ Y.cell? ⟨h2, 3, none⟩ = some (.int .i64 p') from by
      obtain ⟨b, c0, c1, c2, c3, d0, d1, d2, d3⟩ := h1
      have l1 := World.block_lt_of_cell? X _ c0
      have l2 := World.block_lt_of_cell? X _ d0
      exact ⟨below_tr b hb, cell_old hb l1 c0, cell_old hb l1 c1, cell_old hb l1 c2, cell_old hb l1 c3, cell_old hb l2 d0, cell_old hb l2 d1, cell_old hb l2 d2, cell_old hb l2 d3⟩)
  have S0 := Lib.hid (show Below W2.heap.size W2 W2.drew ∧ W2.drew.cell? ⟨h, 0, none⟩ = some (.int .u8 k) ∧ W2.drew.cell? ⟨h, 1, none⟩ = some (.string T) ∧ W2.drew.cell? ⟨h, 2, none⟩ = some (.string U) ∧ W2.drew.cell? ⟨h, 3, none⟩ = some (.int .i64 p) ∧ W2.drew.cell? ⟨h2, 0, none⟩ = some (.int .u8 k') ∧ W2.drew.cell? ⟨h2, 1, none⟩ = some (.string T') ∧ W2.drew.cell? ⟨h2, 2, none⟩ = some (.string U') ∧ W2.drew.cell? ⟨h2, 3, none⟩ = some (.int .i64 p') from ⟨(Below.refl _ _).drew, HX.out.c0, HX.out.c1, HX.out.c2, HX.out.c3, HY.out.c0, HY.out.c1, HY.out.c2, HY.out.c3⟩)
  go_region_held_law (fun X => Below W2.heap.size W2 X ∧ X.cell? ⟨h, 0, none⟩ = some (.int .u8 k) ∧ X.cell? ⟨h, 1, none⟩ = some (.string T) ∧ X.cell? ⟨h, 2, none⟩ = some (.string U) ∧ X.cell? ⟨h, 3, none⟩ = some (.int .i64 p) ∧ X.cell? ⟨h2, 0, none⟩ = some (.int .u8 k') ∧ X.cell? ⟨h2, 1, none⟩ = some (.string T') ∧ X.cell? ⟨h2, 2, none⟩ = some (.string U') ∧ X.cell? ⟨h2, 3, none⟩ = some (.int .i64 p'))
    (first | exact S0.out | exact SS.out _ _ (by assumption) (by assumption) | exact SS.out W2.drew _ S0.out (below_new W2.drew (.cells #[.int .i64 O1, .int .i64 O2, .int .i64 O3, .int .i64 O4] 3)) | exact SS.out _ _ (by assumption) (below_new ..))
    (first
      | (go_simp; go_at_call 49; refine (CK.out _).mono ?_; rintro e w3 ⟨rfl, rfl⟩)
      | (go_simp; go_at_call 50; refine (CT.out _).mono ?_; rintro e w3 ⟨rfl, rfl⟩)
      | (go_simp; go_at_call 50; refine (CU.out _).mono ?_; rintro e w3 ⟨rfl, rfl⟩)
      | (go_simp; go_at_call 35; refine (CI.out _).mono ?_; rintro e w3 ⟨rfl, rfl⟩)
      | (go_simp; go_at_call 48; refine (CO.out _ _ (by first | assumption | exact (four_new W2 ..).1) (by first | assumption | exact (four_new W2 ..).2.1) (by first | assumption | exact (four_new W2 ..).2.2.1) (by first | assumption | exact (four_new W2 ..).2.2.2)).mono ?_; rintro e w3 ⟨rfl, rfl⟩))
  all_goals go_wp2_with fail
  all_goals go_ret
  all_goals exact ⟨ret_int HR.out.symm, (below_tr HB2.out (below_new W2 _)).drew⟩
end Pa
end Go.Proofs.YtoebhnhiljlljaaDoor
