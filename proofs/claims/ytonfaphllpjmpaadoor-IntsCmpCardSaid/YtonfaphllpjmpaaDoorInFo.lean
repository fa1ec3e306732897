/- What a law finds when it is called: the library's tables and the program's own as the program lays them; the door's own heap meets the condition. -/
import Derived.Test.YtonfaphllpjmpaaDoorRows
import Derived.Test.YtonfaphllpjmpaaDoorInE
import Derived.Test.YtonfaphllpjmpaaDoorInZ
import Derived.ProofKit
import Derived.LaidMore
import Derived.OpenShut
import Derived.Stop.Joined
import Derived.Lib.LaidTab
import Derived.Lib.TrailingZeros
import Derived.ChangeOld
import Derived.ChangeSame
import Derived.Lay
namespace Go.Proofs.YtonfaphllpjmpaaDoor
open Go.ChangeShapes Go.WideShapes Go.ChangeAt Go.RowKit

theorem own : ownKnob Tryd.prog.godebug = none := by kernel_rfl
theorem laidOut : laidOutB Tryd.prog = true := by kernel_rfl
/-- What the rows of all laws but IntsRadix list. -/
def laidO : List (String × DataW Unit) := [("math/bits.deBruijn32tab", Rows.laid_math_bits_deBruijn32tab), ("math/bits.deBruijn64tab", Rows.laid_math_bits_deBruijn64tab), ("internal/strconv.uint64pow10", Rows.laid_internal_strconv_uint64pow10), ("inarch/ints.radixes", Rows.laid_inarch_ints_radixes)]
/-- What IntsRadix's row lists. -/
def laidR : List (String × DataW Unit) := [("math/bits.deBruijn32tab", Rows.laid_math_bits_deBruijn32tab), ("math/bits.deBruijn64tab", Rows.laid_math_bits_deBruijn64tab), ("internal/strconv.uint64pow10", Rows.laid_internal_strconv_uint64pow10), ("unicode/utf8.acceptRanges", Rows.laid_unicode_utf8_acceptRanges), ("inarch/ints.radixes", Rows.laid_inarch_ints_radixes), ("unicode.CaseRanges", Rows.laid_unicode_CaseRanges), ("unicode/utf8.first", Rows.laid_unicode_utf8_first)]
theorem plainO {w : World} : laidMetH Tryd.prog laidO w = laidMet Tryd.prog laidO w := MakeChecks.laidMetH_plain _ _ _ (by kernel_rfl)
theorem plainR {w : World} : laidMetH Tryd.prog laidR w = laidMet Tryd.prog laidR w := MakeChecks.laidMetH_plain _ _ _ (by kernel_rfl)
set_option maxRecDepth 100000 in
theorem door_metO (os : Os) (args : Array Value) : laidMetH Tryd.prog laidO ((World.laidAll Tryd.prog os laidO).forCall (fun _ _ => 0) ⟨#[], args, []⟩).memory := by
  rw [plainO]; exact laidMet_laidAll _ (by kernel_rfl) (by kernel_rfl)
set_option maxRecDepth 100000 in
theorem door_metR (os : Os) (args : Array Value) : laidMetH Tryd.prog laidR ((World.laidAll Tryd.prog os laidR).forCall (fun _ _ => 0) ⟨#[], args, []⟩).memory := by
  rw [plainR]; exact laidMet_laidAll _ (by kernel_rfl) (by kernel_rfl)
theorem tPow : (Tryd.prog.globals[0]?).map (·.type) = some 93 := by kernel_rfl
theorem pow_tab : (Rows.laid_internal_strconv_uint64pow10 : DataW Unit) = Lib.tabData .u64 Lib.pow10Tab := by kernel_rfl
theorem gDeb : Tryd.prog.globalNamed "math/bits.deBruijn64tab" = some 7 := by kernel_rfl
theorem tDeb : (Tryd.prog.globals[7]?).map (·.type) = some 120 := by kernel_rfl
theorem gRad : Tryd.prog.globalNamed "inarch/ints.radixes" = some 2 := by kernel_rfl
theorem tRad : (Tryd.prog.globals[2]?).map (·.type) = some 108 := by kernel_rfl
def debTab : List Int := List.map (fun n : Nat => (n : Int)) Lib.deBruijn64tab
theorem deb_tab : (Rows.laid_math_bits_deBruijn64tab : DataW Unit) = Lib.tabData .u8 debTab := by kernel_rfl
/-- All that the laws ask of the world. -/
def AllT (w : World) : Prop := Tab w ∧ Tab10 w ∧ Deb w
theorem deb_of {W : World} {cs : Array Value} (hv : W.var? Tryd.prog "math/bits.deBruijn64tab" = some cs) (e : (debTab.map fun z => Value.int .u8 z).toArray = cs) : Deb W := by
  have k1 : ∀ i, W.cell? ⟨7, i, none⟩ = cs[i]? := fun i => World.var?_cell gDeb hv i
  subst e
  exact ⟨(k1 1).trans (by kernel_rfl), (k1 7).trans (by kernel_rfl), (k1 15).trans (by kernel_rfl)⟩
section
variable {enc : TypeId × Value → Unit} {w : World} {base : Nat} {sp : Nat → Bool} {held : Bool} {fuel : Nat} {cs : List Value}
/-- The array of radixes that reads so holds them, cell for cell. -/
theorem rads_of {zs : List (Int × Int × Int)} {p : List MemPlace} (hz : zs.length = 3)
    (h : DataW.trod enc Tryd.prog w base sp held fuel 108 cs = some (.agg (zs.map fun z => .agg [.agg [.lit (.int .u8 z.1), .lit (.int .u8 z.2.1)], .lit (.int .i64 z.2.2)]), p)) :
    ∀ i z, zs[i]? = some z → cs[i * 3]? = some (.int .u8 z.1) ∧ cs[i * 3 + 1]? = some (.int .u8 z.2.1) ∧ cs[i * 3 + 2]? = some (.int .i64 z.2.2) := by
  intro i z hi
  have hi3 : i < 3 := by
    rcases Nat.lt_or_ge i 3 with h1 | h1
    · exact h1
    · rw [List.getElem?_eq_none (by omega)] at hi; cases hi
  obtain ⟨xs, m, _, hx, hl, hxl, hel⟩ := DataW.trod_array Tryd.underlying108 h
  have hxs := congrArg Prod.fst hx
  simp only [DataW.agg.injEq] at hxs
  have h1 := hel i hi3
  have h2 : xs[i]? = some (xs[i]'(by omega)) := List.getElem?_eq_getElem (by omega)
  rw [h2] at h1
  have h3 : (xs[i]'(by omega)).1 = .agg [.agg [.lit (.int .u8 z.1), .lit (.int .u8 z.2.1)], .lit (.int .i64 z.2.2)] := by
    have := congrArg (·[i]?) hxs
    simp only [List.getElem?_map, hi, h2, Option.map_some, Option.some.injEq] at this
    exact this.symm
  have cu : Tryd.prog.cellsOf 107 = 3 := by kernel_rfl
  have cp : Tryd.prog.cellsOf 105 = 2 := by kernel_rfl
  have c5 : Tryd.prog.cellsOf 5 = 1 := by kernel_rfl
  have ci : Tryd.prog.cellsOf 3 = 1 := by kernel_rfl
  rw [cu] at h1
  obtain ⟨y0, y1, n, hy, hlen, t0, t1⟩ := trod_struct2 Tryd.underlying107 h1
  rw [hy] at h3
  simp only [DataW.agg.injEq, List.cons.injEq, and_true] at h3
  obtain ⟨a0, a1⟩ := h3
  simp only [cp, ci] at t0 t1
  obtain ⟨u0, u1, n', hy', hlen', s0, s1⟩ := trod_struct2 Tryd.underlying105 t0
  rw [hy'] at a0
  simp only [DataW.agg.injEq, List.cons.injEq, and_true] at a0
  obtain ⟨b0, b1⟩ := a0
  simp only [c5] at s0 s1
  obtain ⟨x0, e0, f0, _⟩ := DataW.trod_int Tryd.underlying5 s0
  obtain ⟨x1, e1, f1, _⟩ := DataW.trod_int Tryd.underlying5 s1
  obtain ⟨x2, e2, f2, _⟩ := DataW.trod_int Tryd.underlying3 t1
  rw [f0] at b0
  rw [f1] at b1
  rw [f2] at a1
  simp only [DataW.lit.injEq, Lit.int.injEq, true_and] at b0 b1 a1
  subst b0 b1 a1
  refine ⟨?_, ?_, ?_⟩
  · have := congrArg (·[0]?) e0
    simpa [List.getElem?_take, List.getElem?_drop] using this
  · have := congrArg (·[0]?) e1
    simpa [List.getElem?_take, List.getElem?_drop] using this
  · have := congrArg (·[0]?) e2
    simpa [List.getElem?_take, List.getElem?_drop] using this
end
theorem rads_of_laid {W : World} {f : Nat} {cs : Array Value} {p : List MemPlace} {base : Nat} {sp : Nat → Bool} {held : Bool} {enc : TypeId × Value → Unit} (hv : W.var? Tryd.prog "inarch/ints.radixes" = some cs) (hd : DataW.trod enc Tryd.prog W base sp held f 108 cs.toList = some (Rows.laid_inarch_ints_radixes, p)) : Rads W := by
  have e1 := rads_of (zs := [(48, 120, 16), (48, 111, 8), (48, 98, 2)]) rfl hd
  have k1 : ∀ i, W.cell? ⟨2, i, none⟩ = cs[i]? := fun i => World.var?_cell gRad hv i
  have a1 : ∀ i z, ([(48, 120, 16), (48, 111, 8), (48, 98, 2)] : List (Int × Int × Int))[i]? = some z → W.cell? ⟨2, i * 3, none⟩ = some (.int .u8 z.1) ∧ W.cell? ⟨2, i * 3 + 1, none⟩ = some (.int .u8 z.2.1) ∧ W.cell? ⟨2, i * 3 + 2, none⟩ = some (.int .i64 z.2.2) := fun i z h => by
    obtain ⟨h1, h2, h3⟩ := e1 i z h
    rw [k1, k1, k1, ← Array.getElem?_toList, ← Array.getElem?_toList, ← Array.getElem?_toList]; exact ⟨h1, h2, h3⟩
  exact ⟨(a1 0 _ rfl).1, (a1 0 _ rfl).2.1, (a1 0 _ rfl).2.2, (a1 1 _ rfl).1, (a1 1 _ rfl).2.1, (a1 1 _ rfl).2.2, (a1 2 _ rfl).1, (a1 2 _ rfl).2.1, (a1 2 _ rfl).2.2⟩
theorem tab_of_laidO {W : World} (h : laidMetH Tryd.prog laidO W) : AllT W := by
  rw [plainO] at h
  obtain ⟨ps, ⟨g0, t0, cs0, f0, p0, q0, hg0, ht0, hv0, hd0, ⟨g1, t1, cs1, f1, p1, q1, hg1, ht1, hv1, hd1, ⟨g2, t2, cs2, f2, p2, q2, hg2, ht2, hv2, hd2, ⟨g3, t3, cs3, f3, p3, q3, hg3, ht3, hv3, hd3, _, _⟩, _⟩, _⟩, _⟩, _, _⟩ := h
  obtain rfl := Option.some.inj (gDeb.symm.trans hg1)
  obtain rfl := Option.some.inj (tDeb.symm.trans ht1)
  obtain rfl := Option.some.inj (gPow.symm.trans hg2)
  obtain rfl := Option.some.inj (tPow.symm.trans ht2)
  obtain rfl := Option.some.inj (gRad.symm.trans hg3)
  obtain rfl := Option.some.inj (tRad.symm.trans ht3)
  have c8 : Tryd.prog.cellsOf 5 = 1 := by kernel_rfl
  have ca : Tryd.prog.cellsOf 120 = 64 := by kernel_rfl
  have c79 : Tryd.prog.cellsOf 29 = 1 := by kernel_rfl
  have ct : Tryd.prog.cellsOf 93 = 20 := by kernel_rfl
  rw [pow_tab] at hd2
  rw [deb_tab] at hd1
  have e := Lib.cells_of_tab Tryd.underlying93 Tryd.underlying29 c79 ct hd2
  have e1 := Lib.cells_of_tab Tryd.underlying120 Tryd.underlying5 c8 ca hd1
  have t10 : Tab10 W := by
    unfold Tab10 Lib.TabIs
    rw [hv2, ← e]
  exact ⟨⟨rads_of_laid hv3 hd3, t10⟩, t10, deb_of hv1 (by rw [← e1])⟩
theorem tab_of_laidR {W : World} (h : laidMetH Tryd.prog laidR W) : AllT W := by
  rw [plainR] at h
  obtain ⟨ps, ⟨g0, t0, cs0, f0, p0, q0, hg0, ht0, hv0, hd0, ⟨g1, t1, cs1, f1, p1, q1, hg1, ht1, hv1, hd1, ⟨g2, t2, cs2, f2, p2, q2, hg2, ht2, hv2, hd2, ⟨g3, t3, cs3, f3, p3, q3, hg3, ht3, hv3, hd3, ⟨g4, t4, cs4, f4, p4, q4, hg4, ht4, hv4, hd4, _⟩, _⟩, _⟩, _⟩, _⟩, _, _⟩ := h
  obtain rfl := Option.some.inj (gDeb.symm.trans hg1)
  obtain rfl := Option.some.inj (tDeb.symm.trans ht1)
  obtain rfl := Option.some.inj (gPow.symm.trans hg2)
  obtain rfl := Option.some.inj (tPow.symm.trans ht2)
  obtain rfl := Option.some.inj (gRad.symm.trans hg4)
  obtain rfl := Option.some.inj (tRad.symm.trans ht4)
  have c8 : Tryd.prog.cellsOf 5 = 1 := by kernel_rfl
  have ca : Tryd.prog.cellsOf 120 = 64 := by kernel_rfl
  have c79 : Tryd.prog.cellsOf 29 = 1 := by kernel_rfl
  have ct : Tryd.prog.cellsOf 93 = 20 := by kernel_rfl
  rw [pow_tab] at hd2
  rw [deb_tab] at hd1
  have e := Lib.cells_of_tab Tryd.underlying93 Tryd.underlying29 c79 ct hd2
  have e1 := Lib.cells_of_tab Tryd.underlying120 Tryd.underlying5 c8 ca hd1
  have t10 : Tab10 W := by
    unfold Tab10 Lib.TabIs
    rw [hv2, ← e]
  exact ⟨⟨rads_of_laid hv4 hd4, t10⟩, t10, deb_of hv1 (by rw [← e1])⟩
/-- The laws as the rows ask them. -/
theorem readW_any (s : ByteArray) (w : World) (h : AllT w) : Calls Tryd.prog 3 #[.string s] w fun e w' => e = .returned (.bool true) ∧ Below w.heap.size w w' := lread_any s w h.1
theorem cmpW_any (s t : ByteArray) (w : World) (h : AllT w) : Calls Tryd.prog 4 #[.string s, .string t] w fun e w' => e = .returned (.bool true) ∧ Below w.heap.size w w' := lcmp_any s t w h.1
theorem orderW_any {a b : Int} (a0 : -9223372036854775808 ≤ a) (a1 : a ≤ 9223372036854775807) (b0 : -9223372036854775808 ≤ b) (b1 : b ≤ 9223372036854775807) (w : World) (h : AllT w) : Calls Tryd.prog 7 #[.int .i64 a, .int .i64 b] w fun e w' => e = .returned (.bool true) ∧ Below w.heap.size w w' := order_any a b ⟨a0, a1⟩ ⟨b0, b1⟩ w h.1 h.2.1
theorem radixW_any {v a : Int} (v0 : -9223372036854775808 ≤ v) (v1 : v ≤ 9223372036854775807) (a0 : 0 ≤ a) (a1 : a ≤ 18446744073709551615) (w : World) (h : AllT w) : Calls Tryd.prog 5 #[.int .i64 v, .int .u64 a] w fun e w' => e = .returned (.bool true) ∧ Below w.heap.size w w' := by
  obtain ⟨n, rfl⟩ := Int.eq_ofNat_of_zero_le a0
  exact radix_any ⟨v0, v1⟩ n (by omega) w h.1 h.2.1 h.2.2
theorem edgeW_any {n c : Int} (n0 : 0 ≤ n) (n1 : n ≤ 18446744073709551615) (c0 : 0 ≤ c) (c1 : c ≤ 255) (w : World) (h : AllT w) : Calls Tryd.prog 6 #[.int .u64 n, .int .u8 c] w fun e w' => e = .returned (.bool true) ∧ Below w.heap.size w w' := by
  obtain ⟨m, rfl⟩ := Int.eq_ofNat_of_zero_le n0
  exact edge_any m (by omega) c c0 c1 w h.1 h.2.1 h.2.2
end Go.Proofs.YtonfaphllpjmpaaDoor
