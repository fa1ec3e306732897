/-
  DERIVED. GIVEN WITH THE SEED: THE CARDS: each row of YtggeiajbcehkjaaGreatDoorRows.lean that lists a variable, with what it lists TIED to the program's text (the seventh form; the later family's looks); each row that meets fmt, with fmt's text TOLD by the authors' own Lean function (tested against real Go, not proved from fmt's source: count such statements apart). THE CARD IS WHAT COUNTS. Prove the row's statement (the work); the ties are given (YtggeiajbcehkjaaGreatDoorTie.lean); close each card by the builder's one call (the guide's Derived/Test/ToyasCard.lean, 'card_holds'). Laid BY PROGRAM, IN A SANDBOX (cutbox-door.mjs). By AI agents, Wed Nov 11 2026. No macro, syntax, notation, axiom, sorry.
-/
import Derived.Test.YtggeiajbcehkjaaGreatDoorRows
import GoSem.ClaimSeven
namespace Go.Proofs.YtggeiajbcehkjaaGreatDoor
namespace Rows

/-- THE TIED CARD OF 'inarchlaw15.TreesAny'. -/
def treesAnyCard : Claim7 := { stood := { row := treesAnyRow, standIns := [], harness := (true, "02a888ba91c626c8e479c6c1502ab114d729db50408a68f45c341633183c9452"), looks := true }, kinds := [], alts := [], laidByText := true, laidKinds := [.data, .data, .data, .data, .data, .data, .data, .pinned, .pinned], laidTests := true, laidLooks := .later }
def TreesAnyCardSaid : Prop := Claim7.holds Tryz.pinned (.plain (OpenSpec.ofChange treesAnySpec)) treesAnyCard

/-- THE TIED CARD OF 'inarchlaw15.TreesMake'. -/
def treesMakeCard : Claim7 := { stood := { row := treesMakeRow, standIns := [], harness := (true, "02a888ba91c626c8e479c6c1502ab114d729db50408a68f45c341633183c9452"), looks := true }, kinds := [], alts := [], laidByText := true, laidKinds := [.data, .data, .data, .data, .data, .data, .data, .pinned, .pinned], laidTests := true, laidLooks := .later }
def TreesMakeCardSaid : Prop := Claim7.holds Tryz.pinned (.plain (OpenSpec.ofChange treesMakeSpec)) treesMakeCard

/-- THE TIED CARD OF 'inarchlaw15.TreesBack'. -/
def treesBackCard : Claim7 := { stood := { row := treesBackRow, standIns := [], harness := (true, "02a888ba91c626c8e479c6c1502ab114d729db50408a68f45c341633183c9452"), looks := true }, kinds := [], alts := [], laidByText := true, laidKinds := [.data, .data, .data, .data, .data, .data, .data, .pinned, .pinned], laidTests := true, laidLooks := .later }
def TreesBackCardSaid : Prop := Claim7.holds Tryz.pinned (.plain (OpenSpec.ofChange treesBackSpec)) treesBackCard

/-- THE TIED CARD OF 'inarchlaw15.TreesDocument'. -/
def treesDocumentCard : Claim7 := { stood := { row := treesDocumentRow, standIns := [], harness := (true, "02a888ba91c626c8e479c6c1502ab114d729db50408a68f45c341633183c9452"), looks := true }, kinds := [], alts := [], laidByText := true, laidKinds := [.data, .data, .data, .data, .data, .data, .data, .pinned, .pinned], laidTests := true, laidLooks := .later }
def TreesDocumentCardSaid : Prop := Claim7.holds Tryz.pinned (.plain (OpenSpec.ofChange treesDocumentSpec)) treesDocumentCard

/-- THE SECOND FORM's CARD OF 'inarchlaw15.TreesAny'. -/
def treesAnyUptoCard : Claim7 := { stood := { row := treesAnyUptoRow, standIns := [], harness := (true, "02a888ba91c626c8e479c6c1502ab114d729db50408a68f45c341633183c9452"), looks := true }, kinds := [], alts := [], laidByText := true, laidKinds := [.data, .data, .data, .data, .data, .data, .data, .pinned, .pinned], laidTests := true, laidLooks := .later }
def TreesAnyUptoCardSaid : Prop := Claim7.holds Tryz.pinned (.plain (OpenSpec.upto treesAnySpec)) treesAnyUptoCard

/-- THE SECOND FORM's CARD OF 'inarchlaw15.TreesMake'. -/
def treesMakeUptoCard : Claim7 := { stood := { row := treesMakeUptoRow, standIns := [], harness := (true, "02a888ba91c626c8e479c6c1502ab114d729db50408a68f45c341633183c9452"), looks := true }, kinds := [], alts := [], laidByText := true, laidKinds := [.data, .data, .data, .data, .data, .data, .data, .pinned, .pinned], laidTests := true, laidLooks := .later }
def TreesMakeUptoCardSaid : Prop := Claim7.holds Tryz.pinned (.plain (OpenSpec.upto treesMakeSpec)) treesMakeUptoCard

/-- THE SECOND FORM's CARD OF 'inarchlaw15.TreesBack'. -/
def treesBackUptoCard : Claim7 := { stood := { row := treesBackUptoRow, standIns := [], harness := (true, "02a888ba91c626c8e479c6c1502ab114d729db50408a68f45c341633183c9452"), looks := true }, kinds := [], alts := [], laidByText := true, laidKinds := [.data, .data, .data, .data, .data, .data, .data, .pinned, .pinned], laidTests := true, laidLooks := .later }
def TreesBackUptoCardSaid : Prop := Claim7.holds Tryz.pinned (.plain (OpenSpec.upto treesBackSpec)) treesBackUptoCard

/-- THE SECOND FORM's CARD OF 'inarchlaw15.TreesDocument'. -/
def treesDocumentUptoCard : Claim7 := { stood := { row := treesDocumentUptoRow, standIns := [], harness := (true, "02a888ba91c626c8e479c6c1502ab114d729db50408a68f45c341633183c9452"), looks := true }, kinds := [], alts := [], laidByText := true, laidKinds := [.data, .data, .data, .data, .data, .data, .data, .pinned, .pinned], laidTests := true, laidLooks := .later }
def TreesDocumentUptoCardSaid : Prop := Claim7.holds Tryz.pinned (.plain (OpenSpec.upto treesDocumentSpec)) treesDocumentUptoCard
end Rows
end Go.Proofs.YtggeiajbcehkjaaGreatDoor
