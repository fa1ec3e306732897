/-
  DERIVED. GIVEN WITH THE SEED: THE CARDS: each row of YtdclhepjoifpiaaGreatDoorRows.lean that lists a variable, with what it lists TIED to the program's text (the seventh form; the later family's looks); each row that meets fmt, with fmt's text TOLD by the authors' own Lean function (tested against real Go, not proved from fmt's source: count such statements apart). THE CARD IS WHAT COUNTS. Prove the row's statement (the work); the ties are given (YtdclhepjoifpiaaGreatDoorTie.lean); close each card by the builder's one call (the guide's Derived/Test/ToyasCard.lean, 'card_holds'). Laid BY PROGRAM, IN A SANDBOX (cutbox-door.mjs). By AI agents, Wed Nov 11 2026. No macro, syntax, notation, axiom, sorry.
-/
import Derived.Test.YtdclhepjoifpiaaGreatDoorRows
import GoSem.ClaimSeven
namespace Go.Proofs.YtdclhepjoifpiaaGreatDoor
namespace Rows

/-- THE TIED CARD OF 'inarchlaw09.JtreesParse'. -/
def jtreesParseCard : Claim7 := { stood := { row := jtreesParseRow, standIns := [], harness := (true, "56ec31061a5b33a75431b98009fc8e367af12b8fb3704a29300458a74c105884"), looks := true }, kinds := [], alts := [], laidByText := true, laidKinds := [.data, .data, .data, .data, .data, .data, .pinned], laidTests := true, laidLooks := .later }
def JtreesParseCardSaid : Prop := Claim7.holds Tryz.pinned (.plain (OpenSpec.ofChange jtreesParseSpec)) jtreesParseCard

/-- THE TIED CARD OF 'inarchlaw09.JtreesSpans'. -/
def jtreesSpansCard : Claim7 := { stood := { row := jtreesSpansRow, standIns := [], harness := (true, "56ec31061a5b33a75431b98009fc8e367af12b8fb3704a29300458a74c105884"), looks := true }, kinds := [], alts := [], laidByText := true, laidKinds := [.data, .data, .data, .data, .data, .data, .pinned], laidTests := true, laidLooks := .later }
def JtreesSpansCardSaid : Prop := Claim7.holds Tryz.pinned (.plain (OpenSpec.ofChange jtreesSpansSpec)) jtreesSpansCard

/-- THE TIED CARD OF 'inarchlaw09.JtreesBlanks'. -/
def jtreesBlanksCard : Claim7 := { stood := { row := jtreesBlanksRow, standIns := [], harness := (true, "56ec31061a5b33a75431b98009fc8e367af12b8fb3704a29300458a74c105884"), looks := true }, kinds := [], alts := [], laidByText := true, laidKinds := [.data, .data, .data, .data, .data, .data, .pinned], laidTests := true, laidLooks := .later }
def JtreesBlanksCardSaid : Prop := Claim7.holds Tryz.pinned (.plain (OpenSpec.ofChange jtreesBlanksSpec)) jtreesBlanksCard

/-- THE TIED CARD OF 'inarchlaw09.JtreesDeep'. -/
def jtreesDeepCard : Claim7 := { stood := { row := jtreesDeepRow, standIns := [], harness := (true, "56ec31061a5b33a75431b98009fc8e367af12b8fb3704a29300458a74c105884"), looks := true }, kinds := [], alts := [], laidByText := true, laidKinds := [.data, .data, .data, .data, .data, .data, .pinned], laidTests := true, laidLooks := .later }
def JtreesDeepCardSaid : Prop := Claim7.holds Tryz.pinned (.plain (OpenSpec.ofChange jtreesDeepSpec)) jtreesDeepCard

/-- THE SECOND FORM's CARD OF 'inarchlaw09.JtreesParse'. -/
def jtreesParseUptoCard : Claim7 := { stood := { row := jtreesParseUptoRow, standIns := [], harness := (true, "56ec31061a5b33a75431b98009fc8e367af12b8fb3704a29300458a74c105884"), looks := true }, kinds := [], alts := [], laidByText := true, laidKinds := [.data, .data, .data, .data, .data, .data, .pinned], laidTests := true, laidLooks := .later }
def JtreesParseUptoCardSaid : Prop := Claim7.holds Tryz.pinned (.plain (OpenSpec.upto jtreesParseSpec)) jtreesParseUptoCard

/-- THE SECOND FORM's CARD OF 'inarchlaw09.JtreesSpans'. -/
def jtreesSpansUptoCard : Claim7 := { stood := { row := jtreesSpansUptoRow, standIns := [], harness := (true, "56ec31061a5b33a75431b98009fc8e367af12b8fb3704a29300458a74c105884"), looks := true }, kinds := [], alts := [], laidByText := true, laidKinds := [.data, .data, .data, .data, .data, .data, .pinned], laidTests := true, laidLooks := .later }
def JtreesSpansUptoCardSaid : Prop := Claim7.holds Tryz.pinned (.plain (OpenSpec.upto jtreesSpansSpec)) jtreesSpansUptoCard

/-- THE SECOND FORM's CARD OF 'inarchlaw09.JtreesBlanks'. -/
def jtreesBlanksUptoCard : Claim7 := { stood := { row := jtreesBlanksUptoRow, standIns := [], harness := (true, "56ec31061a5b33a75431b98009fc8e367af12b8fb3704a29300458a74c105884"), looks := true }, kinds := [], alts := [], laidByText := true, laidKinds := [.data, .data, .data, .data, .data, .data, .pinned], laidTests := true, laidLooks := .later }
def JtreesBlanksUptoCardSaid : Prop := Claim7.holds Tryz.pinned (.plain (OpenSpec.upto jtreesBlanksSpec)) jtreesBlanksUptoCard

/-- THE SECOND FORM's CARD OF 'inarchlaw09.JtreesDeep'. -/
def jtreesDeepUptoCard : Claim7 := { stood := { row := jtreesDeepUptoRow, standIns := [], harness := (true, "56ec31061a5b33a75431b98009fc8e367af12b8fb3704a29300458a74c105884"), looks := true }, kinds := [], alts := [], laidByText := true, laidKinds := [.data, .data, .data, .data, .data, .data, .pinned], laidTests := true, laidLooks := .later }
def JtreesDeepUptoCardSaid : Prop := Claim7.holds Tryz.pinned (.plain (OpenSpec.upto jtreesDeepSpec)) jtreesDeepUptoCard
end Rows
end Go.Proofs.YtdclhepjoifpiaaGreatDoor
