/- What a law finds when it is called: the table of short escapes as the program lays it; the door's own heap meets the condition (TOML). -/
import Derived.Test.YtpdaelcoiilkkaaDoorRows
import Derived.Test.YtpdaelcoiilkkaaDoorTyl
import Derived.ProofKit
import Derived.LaidMore
import Derived.OpenShut
import Derived.Stop.Joined
import Derived.Lib.LaidTab
import Derived.ChangeOld
import Derived.ChangeSame
import Derived.Lay
namespace Go.Proofs.YtpdaelcoiilkkaaDoor
open Go.ChangeShapes Go.WideShapes Go.ChangeAt Go.RowKit

theorem own : ownKnob Tryd.prog.godebug = none := by kernel_rfl
theorem laidOut : laidOutB Tryd.prog = true := by kernel_rfl
theorem gShorts : Tryd.prog.globalNamed "inarch/tquotes.shorts" = some 0 := by kernel_rfl
theorem tShorts : (Tryd.prog.globals[0]?).map (·.type) = some 101 := by kernel_rfl
/-- What the rows list. -/
def laid5 : List (String × DataW Unit) := [("inarch/tquotes.shorts", Rows.laid_inarch_tquotes_shorts)]
theorem plain5 {w : World} : laidMetH Tryd.prog laid5 w = laidMet Tryd.prog laid5 w := MakeChecks.laidMetH_plain _ _ _ (by kernel_rfl)
set_option maxRecDepth 100000 in
theorem door_met (os : Os) (args : Array Value) : laidMetH Tryd.prog laid5 ((World.laidAll Tryd.prog os laid5).forCall (fun _ _ => 0) ⟨#[], args, []⟩).memory := by
  rw [plain5]; exact laidMet_laidAll _ (by kernel_rfl) (by kernel_rfl)
section
variable {enc : TypeId × Value → Unit} {w : World} {base : Nat} {sp : Nat → Bool} {held : Bool} {fuel : Nat} {cs : List Value}
/-- An array of pairs of bytes that reads so holds them, cell for cell. -/
theorem pairs_of {zs : List (Int × Int)} {p : List MemPlace} (hz : zs.length = 7)
    (h : DataW.trod enc Tryd.prog w base sp held fuel 101 cs = some (.agg (zs.map fun z => .agg [.lit (.int .u8 z.1), .lit (.int .u8 z.2)]), p)) :
    ∀ i z, zs[i]? = some z → cs[i * 2]? = some (.int .u8 z.1) ∧ cs[i * 2 + 1]? = some (.int .u8 z.2) := by
  intro i z hi
  have hi8 : i < 7 := by
    rcases Nat.lt_or_ge i 7 with h1 | h1
    · exact h1
    · rw [List.getElem?_eq_none (by omega)] at hi; cases hi
  obtain ⟨xs, m, _, hx, hl, hxl, hel⟩ := DataW.trod_array Tryd.underlying101 h
  have hxs := congrArg Prod.fst hx
  simp only [DataW.agg.injEq] at hxs
  have h1 := hel i hi8
  have h2 : xs[i]? = some (xs[i]'(by omega)) := List.getElem?_eq_getElem (by omega)
  rw [h2] at h1
  have h3 : (xs[i]'(by omega)).1 = .agg [.lit (.int .u8 z.1), .lit (.int .u8 z.2)] := by
    have := congrArg (·[i]?) hxs
    simp only [List.getElem?_map, hi, h2, Option.map_some, Option.some.injEq] at this
    exact this.symm
  have cu : Tryd.prog.cellsOf 100 = 2 := by kernel_rfl
  have c5 : Tryd.prog.cellsOf 5 = 1 := by kernel_rfl
  rw [cu] at h1
  obtain ⟨y0, y1, n, hy, hlen, t0, t1⟩ := trod_struct2 Tryd.underlying100 h1
  rw [hy] at h3
  simp only [DataW.agg.injEq, List.cons.injEq, and_true] at h3
  obtain ⟨a0, a1⟩ := h3
  simp only [c5] at t0 t1
  obtain ⟨x0, e0, f0, _⟩ := DataW.trod_int Tryd.underlying5 t0
  obtain ⟨x1, e1, f1, _⟩ := DataW.trod_int Tryd.underlying5 t1
  rw [f0] at a0
  rw [f1] at a1
  simp only [DataW.lit.injEq, Lit.int.injEq, true_and] at a0 a1
  subst a0 a1
  constructor
  · have := congrArg (·[0]?) e0
    simpa [List.getElem?_take, List.getElem?_drop] using this
  · have := congrArg (·[0]?) e1
    simpa [List.getElem?_take, List.getElem?_drop] using this
end
theorem tab_of_laid {W : World} (h : laidMetH Tryd.prog laid5 W) : Tab W := by
  rw [plain5] at h
  obtain ⟨ps, ⟨g0, t0, cs0, f0, p0, q0, hg0, ht0, hv0, hd0, _, _⟩, _⟩ := h
  obtain rfl := Option.some.inj (gShorts.symm.trans hg0)
  obtain rfl := Option.some.inj (tShorts.symm.trans ht0)
  have e1 := pairs_of (zs := [(98, 8), (116, 9), (110, 10), (102, 12), (114, 13), (34, 34), (92, 92)]) rfl hd0
  have k1 : ∀ i, W.cell? ⟨0, i, none⟩ = cs0[i]? := fun i => World.var?_cell hg0 hv0 i
  have a1 : ∀ i z, ([(98, 8), (116, 9), (110, 10), (102, 12), (114, 13), (34, 34), (92, 92)] : List (Int × Int))[i]? = some z → W.cell? ⟨0, i * 2, none⟩ = some (.int .u8 z.1) ∧ W.cell? ⟨0, i * 2 + 1, none⟩ = some (.int .u8 z.2) := fun i z h => by
    obtain ⟨h1, h2⟩ := e1 i z h
    rw [k1, k1, ← Array.getElem?_toList, ← Array.getElem?_toList]; exact ⟨h1, h2⟩
  have m0 : W.cell? ⟨0, 0, none⟩ = some (.int .u8 98) := (a1 0 _ rfl).1
  exact ⟨⟨(a1 0 _ rfl).1, (a1 0 _ rfl).2, (a1 1 _ rfl).1, (a1 1 _ rfl).2, (a1 2 _ rfl).1, (a1 2 _ rfl).2, (a1 3 _ rfl).1, (a1 3 _ rfl).2, (a1 4 _ rfl).1, (a1 4 _ rfl).2, (a1 5 _ rfl).1, (a1 5 _ rfl).2, (a1 6 _ rfl).1, (a1 6 _ rfl).2⟩, World.block_lt_of_cell? W _ m0⟩
end Go.Proofs.YtpdaelcoiilkkaaDoor
