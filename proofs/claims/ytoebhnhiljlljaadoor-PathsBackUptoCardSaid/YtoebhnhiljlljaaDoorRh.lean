/- What the laws that read find: the library's tables and errors as the program lays them; PathsBack as its row asks it. -/
import Derived.Test.YtoebhnhiljlljaaDoorPw
import Derived.Test.YtoebhnhiljlljaaDoorRg
import Derived.LaidLaws
namespace Go.Proofs.YtoebhnhiljlljaaDoor
open Go.ChangeShapes Go.WideShapes Go.ChangeAt Go.RowKit
namespace Pa
set_option maxRecDepth 100000

theorem gRange : Tryd.prog.globalNamed "strconv.ErrRange" = some 3 := by kernel_rfl
theorem gSyntax : Tryd.prog.globalNamed "strconv.ErrSyntax" = some 2 := by kernel_rfl
theorem tRange : (Tryd.prog.globals[3]?).map (·.type) = some 46 := by kernel_rfl
theorem tSyntax : (Tryd.prog.globals[2]?).map (·.type) = some 46 := by kernel_rfl
/-- What the rows of PathsBack and PathsText list. -/
def laidT : List (String × DataW Unit) := [("math/bits.deBruijn32tab", Rows.laid_math_bits_deBruijn32tab), ("math/bits.deBruijn64tab", Rows.laid_math_bits_deBruijn64tab), ("internal/strconv.uint64pow10", Rows.laid_internal_strconv_uint64pow10), ("strconv.ErrRange", Rows.laid_strconv_ErrRange), ("strconv.ErrSyntax", Rows.laid_strconv_ErrSyntax)]
theorem plainT {w : World} : laidMetH Tryd.prog laidT w = laidMet Tryd.prog laidT w := MakeChecks.laidMetH_plain _ _ _ (by kernel_rfl)
theorem door_metT (os : Os) (args : Array Value) : laidMetH Tryd.prog laidT ((World.laidAll Tryd.prog os laidT).forCall (fun _ _ => 0) ⟨#[], args, []⟩).memory := by
  rw [plainT]; exact laidMet_laidAll _ (by kernel_rfl) (by kernel_rfl)
theorem tab_of_laidT {W : World} (h : laidMetH Tryd.prog laidT W) (_hsh : W.ShapedOpen Tryd.prog) : TL W := by
  rw [plainT] at h
  obtain ⟨ps, ⟨g8, t8, cs8, f8, p8, q8, hg8, ht8, hv8, hd8, ⟨g9, t9, cs9, f9, p9, q9, hg9, ht9, hv9, hd9, ⟨g2, t2, cs2, f2, p2, q2, hg2, ht2, hv2, hd2, ⟨g3, t3, cs3, f3, p3, q3, hg3, ht3, hv3, hd3, ⟨g4, t4, cs4, f4, p4, q4, hg4, ht4, hv4, hd4, _, _⟩, _⟩, _⟩, _⟩, _⟩, _, _⟩ := h
  obtain rfl := Option.some.inj (gPow.symm.trans hg2)
  obtain rfl := Option.some.inj (tPow.symm.trans ht2)
  obtain rfl := Option.some.inj (gRange.symm.trans hg3)
  obtain rfl := Option.some.inj (tRange.symm.trans ht3)
  obtain rfl := Option.some.inj (gSyntax.symm.trans hg4)
  obtain rfl := Option.some.inj (tSyntax.symm.trans ht4)
  have c79 : Tryd.prog.cellsOf 94 = 1 := by kernel_rfl
  have ct : Tryd.prog.cellsOf 106 = 20 := by kernel_rfl
  rw [pow_tab] at hd2
  have e := Lib.cells_of_tab Tryd.underlying106 Tryd.underlying94 c79 ct hd2
  obtain ⟨_, u3, v3, e3, _, _⟩ := iface_of_trod Tryd.underlying46 hd3
  obtain ⟨_, u4, v4, e4, _, _⟩ := iface_of_trod Tryd.underlying46 hd4
  refine ⟨?_, ⟨u4, v4, ?_⟩, u3, v3, ?_⟩
  · unfold P10 Lib.TabIs
    rw [hv2, ← e]
  · rw [World.var?_cell hg4 hv4 0, ← Array.getElem?_toList, e4]; rfl
  · rw [World.var?_cell hg3 hv3 0, ← Array.getElem?_toList, e3]; rfl
theorem backU_any {w : World} {A B : Option Addr} {n m c d : Nat} {L M : List St} (h : Sm w A n c L) (hb : pW L ≤ 1048576) (h' : Sm w B m d M) (hb' : pW M ≤ 1048576) (_w : World) (hT : TL w) :
    Calls Tryd.prog 5 #[.slice A n c, .slice B m d] w fun e w' => e = .returned (.bool true) ∧ Below w.heap.size w w' := back_law w h h' hb hb' hT
end Pa
end Go.Proofs.YtoebhnhiljlljaaDoor
