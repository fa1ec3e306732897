/- What a law of values finds when it is called: the table of short escapes as the program lays it. -/
import Derived.Test.YtnnlgodgaolkkaaGreatDoorRows
import Derived.Test.YtnnlgodgaolkkaaGreatDoorHc
import Derived.Test.YtnnlgodgaolkkaaGreatDoorUim
import Derived.Test.YtnnlgodgaolkkaaGreatDoorHr
import Derived.Lib.Strings
import Derived.ProofKit
import Derived.LaidMore
import Derived.OpenShut
import Derived.Stop.Joined
import Derived.Lib.LaidTab
import Derived.ChangeOld
import Derived.ChangeSame
import Derived.Lay
namespace Go.Proofs.YtnnlgodgaolkkaaGreatDoor
open Go.ChangeShapes Go.WideShapes Go.ChangeAt Go.RowKit
namespace Va
set_option maxRecDepth 100000

theorem own : ownKnob Tryz.prog.godebug = none := by kernel_rfl
theorem laidOut : laidOutB Tryz.prog = true := by kernel_rfl
theorem gShorts : Tryz.prog.globalNamed "inarch/quotes.shorts" = some 1 := by kernel_rfl
theorem tShorts : (Tryz.prog.globals[1]?).map (·.type) = some 94 := by kernel_rfl
theorem tPow : (Tryz.prog.globals[2]?).map (·.type) = some 129 := by kernel_rfl
theorem pow_tab : (Rows.laid_internal_strconv_uint64pow10 : DataW Unit) = Lib.tabData .u64 Lib.pow10Tab := by kernel_rfl
/-- What the rows list. -/
def laidF : List (String × DataW Unit) := [("math/bits.deBruijn32tab", Rows.laid_math_bits_deBruijn32tab), ("math/bits.deBruijn64tab", Rows.laid_math_bits_deBruijn64tab), ("internal/strconv.uint64pow10", Rows.laid_internal_strconv_uint64pow10), ("inarch/quotes.shorts", Rows.laid_inarch_quotes_shorts)]
theorem plain5 {w : World} : laidMetH Tryz.prog laidF w = laidMet Tryz.prog laidF w := MakeChecks.laidMetH_plain _ _ _ (by kernel_rfl)
set_option maxRecDepth 100000 in
theorem door_metF (os : Os) (args : Array Value) : laidMetH Tryz.prog laidF ((World.laidAll Tryz.prog os laidF).forCall (fun _ _ => 0) ⟨#[], args, []⟩).memory := by
  rw [plain5]; exact laidMet_laidAll _ (by kernel_rfl) (by kernel_rfl)
section
variable {enc : TypeId × Value → Unit} {w : World} {base : Nat} {sp : Nat → Bool} {held : Bool} {fuel : Nat} {cs : List Value}
/-- An array of pairs of bytes that reads so holds them, cell for cell. -/
theorem pairs_of {zs : List (Int × Int)} {p : List MemPlace} (hz : zs.length = 8)
    (h : DataW.trod enc Tryz.prog w base sp held fuel 94 cs = some (.agg (zs.map fun z => .agg [.lit (.int .u8 z.1), .lit (.int .u8 z.2)]), p)) :
    ∀ i z, zs[i]? = some z → cs[i * 2]? = some (.int .u8 z.1) ∧ cs[i * 2 + 1]? = some (.int .u8 z.2) := by
  intro i z hi
  have hi8 : i < 8 := by
    rcases Nat.lt_or_ge i 8 with h1 | h1
    · exact h1
    · rw [List.getElem?_eq_none (by omega)] at hi; cases hi
  obtain ⟨xs, m, _, hx, hl, hxl, hel⟩ := DataW.trod_array Tryz.underlying94 h
  have hxs := congrArg Prod.fst hx
  simp only [DataW.agg.injEq] at hxs
  have h1 := hel i hi8
  have h2 : xs[i]? = some (xs[i]'(by omega)) := List.getElem?_eq_getElem (by omega)
  rw [h2] at h1
  have h3 : (xs[i]'(by omega)).1 = .agg [.lit (.int .u8 z.1), .lit (.int .u8 z.2)] := by
    have := congrArg (·[i]?) hxs
    simp only [List.getElem?_map, hi, h2, Option.map_some, Option.some.injEq] at this
    exact this.symm
  have cu : Tryz.prog.cellsOf 93 = 2 := by kernel_rfl
  have c5 : Tryz.prog.cellsOf 5 = 1 := by kernel_rfl
  rw [cu] at h1
  obtain ⟨y0, y1, n, hy, hlen, t0, t1⟩ := trod_struct2 Tryz.underlying93 h1
  rw [hy] at h3
  simp only [DataW.agg.injEq, List.cons.injEq, and_true] at h3
  obtain ⟨a0, a1⟩ := h3
  simp only [c5] at t0 t1
  obtain ⟨x0, e0, f0, _⟩ := DataW.trod_int Tryz.underlying5 t0
  obtain ⟨x1, e1, f1, _⟩ := DataW.trod_int Tryz.underlying5 t1
  rw [f0] at a0
  rw [f1] at a1
  simp only [DataW.lit.injEq, Lit.int.injEq, true_and] at a0 a1
  subst a0 a1
  constructor
  · have := congrArg (·[0]?) e0
    simpa [List.getElem?_take, List.getElem?_drop] using this
  · have := congrArg (·[0]?) e1
    simpa [List.getElem?_take, List.getElem?_drop] using this
end
/-- What the laws stand on: the short escapes, the powers of ten. -/
def TabV (w : World) : Prop := Shorts w ∧ 1 < w.heap.size ∧ P10 w ∧ 2 < w.heap.size
/-- They lie below. -/
abbrev loV : Nat := max 1 2 + 1
theorem TabV.on {w w' : World} (h : TabV w) (hb : Below loV w w') : TabV w' := by
  obtain ⟨⟨h0, h1, h2, h3, h4, h5, h6, h7, h8, h9, h10, h11, h12, h13, h14, h15⟩, hz, hp, hq⟩ := h
  have e : ∀ (i : Nat) (v : Value), w.cell? ⟨1, i, none⟩ = some v → w'.cell? ⟨1, i, none⟩ = some v := fun i v hv => (hb.cell (p := ⟨1, i, none⟩) (show 1 < loV by decide)).trans hv
  exact ⟨⟨e _ _ h0, e _ _ h1, e _ _ h2, e _ _ h3, e _ _ h4, e _ _ h5, e _ _ h6, e _ _ h7, e _ _ h8, e _ _ h9, e _ _ h10, e _ _ h11, e _ _ h12, e _ _ h13, e _ _ h14, e _ _ h15⟩, Nat.lt_of_lt_of_le hz hb.size, hp.on (by decide) hb, Nat.lt_of_lt_of_le hq hb.size⟩
theorem P10.lt {w : World} (h : P10 w) : 2 < w.heap.size := by
  unfold P10 Lib.TabIs World.var? at h
  rw [gPow] at h
  simp only [Option.bind_some] at h
  rcases Nat.lt_or_ge 2 w.heap.size with h' | h'
  · exact h'
  · rw [Array.getElem?_eq_none h'] at h; cases h
theorem tab_of_laidF {W : World} (h : laidMetH Tryz.prog laidF W) (_hsh : W.ShapedOpen Tryz.prog) : TabV W := by
  rw [plain5] at h
  obtain ⟨ps, ⟨g8, t8, cs8, f8, p8, q8, hg8, ht8, hv8, hd8, ⟨g9, t9, cs9, f9, p9, q9, hg9, ht9, hv9, hd9, ⟨g2, t2, cs2, f2, p2, q2, hg2, ht2, hv2, hd2, ⟨g1, t1, cs1, f1, p1, q1, hg1, ht1, hv1, hd1, _, _⟩, _⟩, _⟩, _⟩, _, _⟩ := h
  obtain rfl := Option.some.inj (gShorts.symm.trans hg1)
  obtain rfl := Option.some.inj (tShorts.symm.trans ht1)
  obtain rfl := Option.some.inj (gPow.symm.trans hg2)
  obtain rfl := Option.some.inj (tPow.symm.trans ht2)
  have c79 : Tryz.prog.cellsOf 110 = 1 := by kernel_rfl
  have ct : Tryz.prog.cellsOf 129 = 20 := by kernel_rfl
  rw [pow_tab] at hd2
  have e := Lib.cells_of_tab Tryz.underlying129 Tryz.underlying110 c79 ct hd2
  have t10 : P10 W := by
    unfold P10 Lib.TabIs
    rw [hv2, ← e]
  have e1 := pairs_of (zs := [(34, 34), (92, 92), (47, 47), (98, 8), (102, 12), (110, 10), (114, 13), (116, 9)]) rfl hd1
  have k1 : ∀ i, W.cell? ⟨1, i, none⟩ = cs1[i]? := fun i => World.var?_cell hg1 hv1 i
  have a1 : ∀ i z, ([(34, 34), (92, 92), (47, 47), (98, 8), (102, 12), (110, 10), (114, 13), (116, 9)] : List (Int × Int))[i]? = some z → W.cell? ⟨1, i * 2, none⟩ = some (.int .u8 z.1) ∧ W.cell? ⟨1, i * 2 + 1, none⟩ = some (.int .u8 z.2) := fun i z h => by
    obtain ⟨h1, h2⟩ := e1 i z h
    rw [k1, k1, ← Array.getElem?_toList, ← Array.getElem?_toList]; exact ⟨h1, h2⟩
  exact ⟨⟨(a1 0 _ rfl).1, (a1 0 _ rfl).2, (a1 1 _ rfl).1, (a1 1 _ rfl).2, (a1 2 _ rfl).1, (a1 2 _ rfl).2, (a1 3 _ rfl).1, (a1 3 _ rfl).2, (a1 4 _ rfl).1, (a1 4 _ rfl).2, (a1 5 _ rfl).1, (a1 5 _ rfl).2, (a1 6 _ rfl).1, (a1 6 _ rfl).2, (a1 7 _ rfl).1, (a1 7 _ rfl).2⟩, World.block_lt_of_cell? W _ (a1 0 _ rfl).1, t10, t10.lt⟩
end Va
end Go.Proofs.YtnnlgodgaolkkaaGreatDoor
