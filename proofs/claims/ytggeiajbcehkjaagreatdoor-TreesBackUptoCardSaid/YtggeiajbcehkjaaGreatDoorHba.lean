/- What a law of trees finds when it is called: the tables as the program lays them; the door's own heap meets the condition. -/
import Derived.Test.YtggeiajbcehkjaaGreatDoorRows
import Derived.Test.YtggeiajbcehkjaaGreatDoorGaw
import Derived.ProofKit
import Derived.LaidMore
import Derived.OpenShut
import Derived.Stop.Joined
import Derived.Lib.LaidTab
import Derived.ChangeOld
import Derived.ChangeSame
import Derived.Lay
namespace Go.Proofs.YtggeiajbcehkjaaGreatDoor
open Go.ChangeShapes Go.WideShapes Go.ChangeAt Go.RowKit
open Jt (Tabs0)
namespace Tt

theorem own : ownKnob Tryz.prog.godebug = none := by kernel_rfl
theorem laidOut : laidOutB Tryz.prog = true := by kernel_rfl
theorem gHeads : Tryz.prog.globalNamed "inarch/utf8s.heads" = some 3 := by kernel_rfl
theorem gShorts : Tryz.prog.globalNamed "inarch/quotes.shorts" = some 1 := by kernel_rfl
theorem tHeads : (Tryz.prog.globals[3]?).map (·.type) = some 345 := by kernel_rfl
theorem tShorts : (Tryz.prog.globals[1]?).map (·.type) = some 295 := by kernel_rfl
theorem tPow : (Tryz.prog.globals[2]?).map (·.type) = some 343 := by kernel_rfl
theorem pow_tab : (Rows.laid_internal_strconv_uint64pow10 : DataW Unit) = Lib.tabData .u64 Lib.pow10Tab := by kernel_rfl
/-- What the rows list. -/
def laid5 : List (String × DataW Unit) := [("math/bits.deBruijn32tab", Rows.laid_math_bits_deBruijn32tab), ("math/bits.deBruijn64tab", Rows.laid_math_bits_deBruijn64tab), ("internal/strconv.uint64pow10", Rows.laid_internal_strconv_uint64pow10), ("unicode/utf8.acceptRanges", Rows.laid_unicode_utf8_acceptRanges), ("inarch/ints.radixes", Rows.laid_inarch_ints_radixes), ("inarch/utf8s.heads", Rows.laid_inarch_utf8s_heads), ("inarch/quotes.shorts", Rows.laid_inarch_quotes_shorts), ("unicode.CaseRanges", Rows.laid_unicode_CaseRanges), ("unicode/utf8.first", Rows.laid_unicode_utf8_first)]
theorem plain5 {w : World} : laidMetH Tryz.prog laid5 w = laidMet Tryz.prog laid5 w := MakeChecks.laidMetH_plain _ _ _ (by kernel_rfl)
set_option maxRecDepth 100000 in
theorem door_met (os : Os) (args : Array Value) : laidMetH Tryz.prog laid5 ((World.laidAll Tryz.prog os laid5).forCall (fun _ _ => 0) ⟨#[], args, []⟩).memory := by
  rw [plain5]; exact laidMet_laidAll _ (by kernel_rfl) (by kernel_rfl)
section
variable {enc : TypeId × Value → Unit} {w : World} {base : Nat} {sp : Nat → Bool} {held : Bool} {fuel : Nat} {cs : List Value}
/-- An array of pairs of bytes that reads so holds them, cell for cell. -/
theorem pairs_of {zs : List (Int × Int)} {p : List MemPlace} (hz : zs.length = 8)
    (h : DataW.trod enc Tryz.prog w base sp held fuel 295 cs = some (.agg (zs.map fun z => .agg [.lit (.int .u8 z.1), .lit (.int .u8 z.2)]), p)) :
    ∀ i z, zs[i]? = some z → cs[i * 2]? = some (.int .u8 z.1) ∧ cs[i * 2 + 1]? = some (.int .u8 z.2) := by
  intro i z hi
  have hi8 : i < 8 := by
    rcases Nat.lt_or_ge i 8 with h1 | h1
    · exact h1
    · rw [List.getElem?_eq_none (by omega)] at hi; cases hi
  obtain ⟨xs, m, _, hx, hl, hxl, hel⟩ := DataW.trod_array Tryz.underlying295 h
  have hxs := congrArg Prod.fst hx
  simp only [DataW.agg.injEq] at hxs
  have h1 := hel i hi8
  have h2 : xs[i]? = some (xs[i]'(by omega)) := List.getElem?_eq_getElem (by omega)
  rw [h2] at h1
  have h3 : (xs[i]'(by omega)).1 = .agg [.lit (.int .u8 z.1), .lit (.int .u8 z.2)] := by
    have := congrArg (·[i]?) hxs
    simp only [List.getElem?_map, hi, h2, Option.map_some, Option.some.injEq] at this
    exact this.symm
  have cu : Tryz.prog.cellsOf 294 = 2 := by kernel_rfl
  have c5 : Tryz.prog.cellsOf 5 = 1 := by kernel_rfl
  rw [cu] at h1
  obtain ⟨y0, y1, n, hy, hlen, t0, t1⟩ := trod_struct2 Tryz.underlying294 h1
  rw [hy] at h3
  simp only [DataW.agg.injEq, List.cons.injEq, and_true] at h3
  obtain ⟨a0, a1⟩ := h3
  simp only [c5] at t0 t1
  obtain ⟨x0, e0, f0, _⟩ := DataW.trod_int Tryz.underlying5 t0
  obtain ⟨x1, e1, f1, _⟩ := DataW.trod_int Tryz.underlying5 t1
  rw [f0] at a0
  rw [f1] at a1
  simp only [DataW.lit.injEq, Lit.int.injEq, true_and] at a0 a1
  subst a0 a1
  constructor
  · have := congrArg (·[0]?) e0
    simpa [List.getElem?_take, List.getElem?_drop] using this
  · have := congrArg (·[0]?) e1
    simpa [List.getElem?_take, List.getElem?_drop] using this
end
theorem tab_of_laid {W : World} (h : laidMetH Tryz.prog laid5 W) (_hsh : W.ShapedOpen Tryz.prog) : Tabs0 W := by
  rw [plain5] at h
  obtain ⟨ps, ⟨g0, t0, cs0, f0, p0, q0, hg0, ht0, hv0, hd0, ⟨g1, t1, cs1, f1, p1, q1, hg1, ht1, hv1, hd1, ⟨g2, t2, cs2, f2, p2, q2, hg2, ht2, hv2, hd2, ⟨g3, t3, cs3, f3, p3, q3, hg3, ht3, hv3, hd3, ⟨g4, t4, cs4, f4, p4, q4, hg4, ht4, hv4, hd4, ⟨g5, t5, cs5, f5, p5, q5, hg5, ht5, hv5, hd5, ⟨g6, t6, cs6, f6, p6, q6, hg6, ht6, hv6, hd6, ⟨g7, t7, cs7, f7, p7, q7, hg7, ht7, hv7, hd7, ⟨g8, t8, cs8, f8, p8, q8, hg8, ht8, hv8, hd8, _, _⟩, _⟩, _⟩, _⟩, _⟩, _⟩, _⟩, _⟩, _⟩, _, _⟩ := h
  obtain rfl := Option.some.inj (De.gPow.symm.trans hg2)
  obtain rfl := Option.some.inj (tPow.symm.trans ht2)
  obtain rfl := Option.some.inj (gHeads.symm.trans hg5)
  obtain rfl := Option.some.inj (gShorts.symm.trans hg6)
  obtain rfl := Option.some.inj (tHeads.symm.trans ht5)
  obtain rfl := Option.some.inj (tShorts.symm.trans ht6)
  have c79 : Tryz.prog.cellsOf 217 = 1 := by kernel_rfl
  have ct : Tryz.prog.cellsOf 343 = 20 := by kernel_rfl
  rw [pow_tab] at hd2
  have e2 := Lib.cells_of_tab Tryz.underlying343 Tryz.underlying217 c79 ct hd2
  have c5 : Tryz.prog.cellsOf 5 = 1 := by kernel_rfl
  have c52 : Tryz.prog.cellsOf 345 = 4 := by kernel_rfl
  have e0 := Lib.cells_of_tab (k := .u8) (zs := [0, 192, 224, 240]) Tryz.underlying345 Tryz.underlying5 c5 c52 hd5
  have e1 := pairs_of (zs := [(34, 34), (92, 92), (47, 47), (98, 8), (102, 12), (110, 10), (114, 13), (116, 9)]) rfl hd6
  have k0 : ∀ i, W.cell? ⟨3, i, none⟩ = cs5[i]? := fun i => World.var?_cell hg5 hv5 i
  have k1 : ∀ i, W.cell? ⟨1, i, none⟩ = cs6[i]? := fun i => World.var?_cell hg6 hv6 i
  have a0 : ∀ i : Nat, cs5[i]? = (([0, 192, 224, 240] : List Int).map (Value.int .u8))[i]? := fun i => by rw [← Array.getElem?_toList, e0]
  have a1 : ∀ i z, ([(34, 34), (92, 92), (47, 47), (98, 8), (102, 12), (110, 10), (114, 13), (116, 9)] : List (Int × Int))[i]? = some z → W.cell? ⟨1, i * 2, none⟩ = some (.int .u8 z.1) ∧ W.cell? ⟨1, i * 2 + 1, none⟩ = some (.int .u8 z.2) := fun i z h => by
    obtain ⟨h1, h2⟩ := e1 i z h
    rw [k1, k1, ← Array.getElem?_toList, ← Array.getElem?_toList]; exact ⟨h1, h2⟩
  have m0 : W.cell? ⟨3, 0, none⟩ = some (.int .u8 0) := by rw [k0, a0]; rfl
  have hT : De.Tab W := by unfold De.Tab Lib.TabIs; rw [hv2, ← e2]
  refine ⟨hT, ⟨m0, ?_, ?_, ?_⟩, ⟨(a1 0 _ rfl).1, (a1 0 _ rfl).2, (a1 1 _ rfl).1, (a1 1 _ rfl).2, (a1 2 _ rfl).1, (a1 2 _ rfl).2, (a1 3 _ rfl).1, (a1 3 _ rfl).2, (a1 4 _ rfl).1, (a1 4 _ rfl).2, (a1 5 _ rfl).1, (a1 5 _ rfl).2, (a1 6 _ rfl).1, (a1 6 _ rfl).2, (a1 7 _ rfl).1, (a1 7 _ rfl).2⟩, World.block_lt_of_cell? W _ m0⟩
  all_goals (rw [k0, a0]; rfl)
end Tt
end Go.Proofs.YtggeiajbcehkjaaGreatDoor
