/-
  DERIVED. GIVEN WITH THE SEED: THE CARDS: each row of YtoebhnhiljlljaaDoorRows.lean that lists a variable, with what it lists TIED to the program's text (the seventh form; the later family's looks); each row that meets fmt, with fmt's text TOLD by the authors' own Lean function (tested against real Go, not proved from fmt's source: count such statements apart). THE CARD IS WHAT COUNTS. Prove the row's statement (the work); the ties are given (YtoebhnhiljlljaaDoorTie.lean); close each card by the builder's one call (the guide's Derived/Test/ToyasCard.lean, 'card_holds'). Laid BY PROGRAM, IN A SANDBOX (cutbox-door.mjs). By AI agents, Wed Nov 11 2026. No macro, syntax, notation, axiom, sorry.
-/
import Derived.Test.YtoebhnhiljlljaaDoorRows
import GoSem.ClaimSeven
namespace Go.Proofs.YtoebhnhiljlljaaDoor
namespace Rows

/-- THE TIED CARD OF 'inarchlaw16.PathsText'. -/
def pathsTextCard : Claim7 := { stood := { row := pathsTextRow, standIns := [], harness := (true, "859828feddd6aa8434bbe528593209ec501d8f27310b00b9efc0cd3f36d06ba0"), looks := true }, kinds := [], alts := [], laidByText := true, laidKinds := [.data, .data, .data, .sentinel, .sentinel], laidTests := true, laidLooks := .later }
def PathsTextCardSaid : Prop := Claim7.holds Tryd.pinned (.plain (OpenSpec.ofChange pathsTextSpec)) pathsTextCard

/-- THE TIED CARD OF 'inarchlaw16.PathsOrder'. -/
def pathsOrderCard : Claim7 := { stood := { row := pathsOrderRow, standIns := [], harness := (true, "859828feddd6aa8434bbe528593209ec501d8f27310b00b9efc0cd3f36d06ba0"), looks := true }, kinds := [], alts := [], laidByText := true, laidKinds := [.data, .data, .data], laidTests := true, laidLooks := .later }
def PathsOrderCardSaid : Prop := Claim7.holds Tryd.pinned (.plain (OpenSpec.ofChange pathsOrderSpec)) pathsOrderCard

/-- THE TIED CARD OF 'inarchlaw16.PathsBack'. -/
def pathsBackCard : Claim7 := { stood := { row := pathsBackRow, standIns := [], harness := (true, "859828feddd6aa8434bbe528593209ec501d8f27310b00b9efc0cd3f36d06ba0"), looks := true }, kinds := [], alts := [], laidByText := true, laidKinds := [.data, .data, .data, .sentinel, .sentinel], laidTests := true, laidLooks := .later }
def PathsBackCardSaid : Prop := Claim7.holds Tryd.pinned (.plain (OpenSpec.ofChange pathsBackSpec)) pathsBackCard

/-- THE SECOND FORM's CARD OF 'inarchlaw16.PathsText'. -/
def pathsTextUptoCard : Claim7 := { stood := { row := pathsTextUptoRow, standIns := [], harness := (true, "859828feddd6aa8434bbe528593209ec501d8f27310b00b9efc0cd3f36d06ba0"), looks := true }, kinds := [], alts := [], laidByText := true, laidKinds := [.data, .data, .data, .sentinel, .sentinel], laidTests := true, laidLooks := .later }
def PathsTextUptoCardSaid : Prop := Claim7.holds Tryd.pinned (.plain (OpenSpec.upto pathsTextSpec)) pathsTextUptoCard

/-- THE SECOND FORM's CARD OF 'inarchlaw16.PathsOrder'. -/
def pathsOrderUptoCard : Claim7 := { stood := { row := pathsOrderUptoRow, standIns := [], harness := (true, "859828feddd6aa8434bbe528593209ec501d8f27310b00b9efc0cd3f36d06ba0"), looks := true }, kinds := [], alts := [], laidByText := true, laidKinds := [.data, .data, .data], laidTests := true, laidLooks := .later }
def PathsOrderUptoCardSaid : Prop := Claim7.holds Tryd.pinned (.plain (OpenSpec.upto pathsOrderSpec)) pathsOrderUptoCard

/-- THE SECOND FORM's CARD OF 'inarchlaw16.PathsBack'. -/
def pathsBackUptoCard : Claim7 := { stood := { row := pathsBackUptoRow, standIns := [], harness := (true, "859828feddd6aa8434bbe528593209ec501d8f27310b00b9efc0cd3f36d06ba0"), looks := true }, kinds := [], alts := [], laidByText := true, laidKinds := [.data, .data, .data, .sentinel, .sentinel], laidTests := true, laidLooks := .later }
def PathsBackUptoCardSaid : Prop := Claim7.holds Tryd.pinned (.plain (OpenSpec.upto pathsBackSpec)) pathsBackUptoCard
end Rows
end Go.Proofs.YtoebhnhiljlljaaDoor
