/- The document's fault of a place; its two answers' blocks. -/
import Derived.Test.YtfnahondlcbjnaaTe
import Derived.OneCell
namespace Go.Proofs.Ytfnahondlcbjnaa
open Go.RowKit
namespace Jk

theorem below_tr {a b c : World} (h1 : Below a.heap.size a b) (h2 : Below b.heap.size b c) : Below a.heap.size a c :=
  h1.trans (h2.mono h1.size)
/-- A token of the document's, a fault. -/
abbrev rtV (k i j : Int) : Value := .agg #[.int .i64 k, .int .i64 i, .int .i64 j]
abbrev fvV (c a : Int) : Value := .agg #[.int .i64 c, .int .i64 a]
abbrev rtO (k i j : Int) : Obj := .cells #[.int .i64 k, .int .i64 i, .int .i64 j] 40
abbrev fvO (c a : Int) : Obj := .cells #[.int .i64 c, .int .i64 a] 28
/-- The answers' blocks: a token's, a fault's. -/
structure RS (w wx : World) (k i j c a : Int) : Prop where
  below : Below w.heap.size w wx
  r : wx.heap[w.heap.size]? = some (rtO k i j)
  v : wx.heap[w.heap.size + 1]? = some (fvO c a)
theorem lt_blk {wx : World} {k : Nat} {o : Obj} (h : wx.heap[k]? = some o) : k < wx.heap.size := by
  rcases Nat.lt_or_ge k wx.heap.size with q | q
  · exact q
  · rw [Array.getElem?_eq_none q] at h; cases h
section
variable {w wx wy : World} {k i j c a k' i' j' c' a' : Int}
theorem RS.start : RS w ((w.alloc (rtO k i j)).alloc (fvO c a)) k i j c a := by
  refine ⟨((Below.refl _ _).alloc (Nat.le_refl _) _).alloc (by simp) _, ?_, ?_⟩
  · show ((w.heap.push _).push _)[w.heap.size]? = _
    rw [Array.getElem?_push, if_neg (by simp), Array.getElem?_push, if_pos rfl]
  · show ((w.heap.push _).push _)[w.heap.size + 1]? = _
    rw [Array.getElem?_push, if_pos (by simp)]
theorem RS.on (H : RS w wx k i j c a) (hb : Below wx.heap.size wx wy) : RS w wy k i j c a :=
  ⟨below_tr H.below hb, by rw [hb.block _ (lt_blk H.r)]; exact H.r, by rw [hb.block _ (lt_blk H.v)]; exact H.v⟩
theorem RS.cells (H : RS w wx k i j c a) : (wx.cell? ⟨w.heap.size, 0, none⟩ = some (.int .i64 k) ∧ wx.cell? ⟨w.heap.size, 1, none⟩ = some (.int .i64 i) ∧ wx.cell? ⟨w.heap.size, 2, none⟩ = some (.int .i64 j) ∧ wx.cell? ⟨w.heap.size + 1, 0, none⟩ = some (.int .i64 c) ∧ wx.cell? ⟨w.heap.size + 1, 1, none⟩ = some (.int .i64 a)) ∧
    wx.frozen? ⟨w.heap.size, 0, none⟩ = false ∧ wx.frozen? ⟨w.heap.size, 1, none⟩ = false ∧ wx.frozen? ⟨w.heap.size, 2, none⟩ = false ∧ wx.frozen? ⟨w.heap.size + 1, 0, none⟩ = false ∧ wx.frozen? ⟨w.heap.size + 1, 1, none⟩ = false := by
  simp [World.cell?, World.frozen?, H.r, H.v]
theorem RS.set (H : RS w wx k i j c a) : RS w (((((wx.setCell ⟨w.heap.size, 0, none⟩ (.int .i64 k')).setCell ⟨w.heap.size, 1, none⟩ (.int .i64 i')).setCell ⟨w.heap.size, 2, none⟩ (.int .i64 j')).setCell ⟨w.heap.size + 1, 0, none⟩ (.int .i64 c')).setCell ⟨w.heap.size + 1, 1, none⟩ (.int .i64 a')) k' i' j' c' a' := by
  have h1 := heap_setCell_same wx w.heap.size 0 _ _ (.int .i64 k') H.r
  have h2 := heap_setCell_same _ w.heap.size 1 _ _ (.int .i64 i') h1
  have h3 := heap_setCell_same _ w.heap.size 2 _ _ (.int .i64 j') h2
  have oth : ∀ (W : World) (p q n : Nat) (o : Obj) (u : Value), p ≠ q → W.heap[p]? = some o → (W.setCell ⟨q, n, none⟩ u).heap[p]? = some o := fun W p q n o u hpq hW => by
    rw [heap_setCell_other W ⟨q, n, none⟩ p u (by simpa using hpq)]; exact hW
  have g0 := oth _ (w.heap.size + 1) w.heap.size 2 _ (.int .i64 j') (by omega) (oth _ (w.heap.size + 1) w.heap.size 1 _ (.int .i64 i') (by omega) (oth _ (w.heap.size + 1) w.heap.size 0 _ (.int .i64 k') (by omega) H.v))
  have g1 := heap_setCell_same _ (w.heap.size + 1) 0 _ _ (.int .i64 c') g0
  have g2 := heap_setCell_same _ (w.heap.size + 1) 1 _ _ (.int .i64 a') g1
  refine ⟨((((H.below.setCell (by simp) _).setCell (by simp) _).setCell (by simp) _).setCell (by simp) _).setCell (by simp) _, ?_, g2⟩
  exact oth _ _ _ _ _ _ (by omega) (oth _ _ _ _ _ _ (by omega) h3)
end
theorem rsyn_is (x : Int) (w : World) : Calls Try.prog 18 #[.int .i64 x] w fun e w' => e = .returned (.tuple #[rtV 0 0 0, fvV 3 x]) ∧ Below w.heap.size w w' := by
  have F0 := Lib.hid (RS.start (w := w) (k := 0) (i := 0) (j := 0) (c := 3) (a := x))
  go_enter Try.func18, Try.ntmps18
  go_wp2_with fail
  refine bodyPost_ret (v := .tuple #[rtV 0 0 0, fvV 3 x]) (by simp [results, Try.results18, go_sem, *]) rfl ?_
  exact ⟨rfl, F0.out.below⟩
end Jk
end Go.Proofs.Ytfnahondlcbjnaa
