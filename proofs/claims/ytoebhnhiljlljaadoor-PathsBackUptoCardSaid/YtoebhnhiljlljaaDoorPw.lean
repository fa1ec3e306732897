/- What the laws of paths find when they are called: the library's tables as the program lays them; PathsOrder as its row asks it. -/
import Derived.Test.YtoebhnhiljlljaaDoorRows
import Derived.Test.YtoebhnhiljlljaaDoorPt
import Derived.Test.YtoebhnhiljlljaaDoorPv
import Derived.Lib.Strings
import Derived.ProofKit
import Derived.LaidMore
import Derived.OpenShut
import Derived.Stop.Joined
import Derived.Lib.LaidTab
import Derived.ChangeOld
import Derived.ChangeSame
import Derived.Lay
namespace Go.Proofs.YtoebhnhiljlljaaDoor
open Go.ChangeShapes Go.WideShapes Go.ChangeAt Go.RowKit
namespace Pa
set_option maxRecDepth 100000

theorem own : ownKnob Tryd.prog.godebug = none := by kernel_rfl
theorem laidOut : laidOutB Tryd.prog = true := by kernel_rfl
theorem tPow : (Tryd.prog.globals[1]?).map (·.type) = some 106 := by kernel_rfl
theorem pow_tab : (Rows.laid_internal_strconv_uint64pow10 : DataW Unit) = Lib.tabData .u64 Lib.pow10Tab := by kernel_rfl
/-- What the row of PathsOrder lists. -/
def laidO : List (String × DataW Unit) := [("math/bits.deBruijn32tab", Rows.laid_math_bits_deBruijn32tab), ("math/bits.deBruijn64tab", Rows.laid_math_bits_deBruijn64tab), ("internal/strconv.uint64pow10", Rows.laid_internal_strconv_uint64pow10)]
theorem plainO {w : World} : laidMetH Tryd.prog laidO w = laidMet Tryd.prog laidO w := MakeChecks.laidMetH_plain _ _ _ (by kernel_rfl)
theorem door_metO (os : Os) (args : Array Value) : laidMetH Tryd.prog laidO ((World.laidAll Tryd.prog os laidO).forCall (fun _ _ => 0) ⟨#[], args, []⟩).memory := by
  rw [plainO]; exact laidMet_laidAll _ (by kernel_rfl) (by kernel_rfl)
theorem tab_of_laidO {W : World} (h : laidMetH Tryd.prog laidO W) (_hsh : W.ShapedOpen Tryd.prog) : P10 W := by
  rw [plainO] at h
  obtain ⟨ps, ⟨g8, t8, cs8, f8, p8, q8, hg8, ht8, hv8, hd8, ⟨g9, t9, cs9, f9, p9, q9, hg9, ht9, hv9, hd9, ⟨g2, t2, cs2, f2, p2, q2, hg2, ht2, hv2, hd2, _, _⟩, _⟩, _⟩, _, _⟩ := h
  obtain rfl := Option.some.inj (gPow.symm.trans hg2)
  obtain rfl := Option.some.inj (tPow.symm.trans ht2)
  have c79 : Tryd.prog.cellsOf 94 = 1 := by kernel_rfl
  have ct : Tryd.prog.cellsOf 106 = 20 := by kernel_rfl
  rw [pow_tab] at hd2
  have e := Lib.cells_of_tab Tryd.underlying106 Tryd.underlying94 c79 ct hd2
  unfold P10 Lib.TabIs
  rw [hv2, ← e]
theorem orderU_any {w : World} {A B : Option Addr} {n m c d : Nat} {L M : List St} {s : St} (h : Sm w A n c L) (hb : pW L ≤ 1048576) (h' : Sm w B m d M) (hb' : pW M ≤ 1048576) (hs : s.Ok) (hw : sw s ≤ 1048576) (_w : World) (hT : P10 w) :
    Calls Tryd.prog 4 #[.slice A n c, .slice B m d, stV s] w fun e w' => e = .returned (.bool true) ∧ Below w.heap.size w w' := order_law w h h' hs hb hb' hw hT
end Pa
end Go.Proofs.YtoebhnhiljlljaaDoor
