/-
  DERIVED. GIVEN WITH THE SEED: THE CARDS: each row of YtpdaelcoiilkkaaDoorRows.lean that lists a variable, with what it lists TIED to the program's text (the seventh form; the later family's looks); each row that meets fmt, with fmt's text TOLD by the authors' own Lean function (tested against real Go, not proved from fmt's source: count such statements apart). THE CARD IS WHAT COUNTS. Prove the row's statement (the work); the ties are given (YtpdaelcoiilkkaaDoorTie.lean); close each card by the builder's one call (the guide's Derived/Test/ToyasCard.lean, 'card_holds'). Laid BY PROGRAM, IN A SANDBOX (cutbox-door.mjs). By AI agents, Wed Nov 11 2026. No macro, syntax, notation, axiom, sorry.
-/
import Derived.Test.YtpdaelcoiilkkaaDoorRows
import GoSem.ClaimSeven
namespace Go.Proofs.YtpdaelcoiilkkaaDoor
namespace Rows

/-- THE TIED CARD OF 'inarchlaw10.TkeysRead'. -/
def tkeysReadCard : Claim7 := { stood := { row := tkeysReadRow, standIns := [], harness := (true, "512826fe20c98d39f1ad95170b91c444e0bae18f709ccdbf6638943651b2a05e"), looks := true }, kinds := [], alts := [], laidByText := true, laidKinds := [.data], laidTests := true, laidLooks := .later }
def TkeysReadCardSaid : Prop := Claim7.holds Tryd.pinned (.plain (OpenSpec.ofChange tkeysReadSpec)) tkeysReadCard

/-- THE TIED CARD OF 'inarchlaw10.TkeysWrite'. -/
def tkeysWriteCard : Claim7 := { stood := { row := tkeysWriteRow, standIns := [], harness := (true, "512826fe20c98d39f1ad95170b91c444e0bae18f709ccdbf6638943651b2a05e"), looks := true }, kinds := [], alts := [], laidByText := true, laidKinds := [.data], laidTests := true, laidLooks := .later }
def TkeysWriteCardSaid : Prop := Claim7.holds Tryd.pinned (.plain (OpenSpec.ofChange tkeysWriteSpec)) tkeysWriteCard

/-- THE TIED CARD OF 'inarchlaw10.TkeysBack'. -/
def tkeysBackCard : Claim7 := { stood := { row := tkeysBackRow, standIns := [], harness := (true, "512826fe20c98d39f1ad95170b91c444e0bae18f709ccdbf6638943651b2a05e"), looks := true }, kinds := [], alts := [], laidByText := true, laidKinds := [.data], laidTests := true, laidLooks := .later }
def TkeysBackCardSaid : Prop := Claim7.holds Tryd.pinned (.plain (OpenSpec.ofChange tkeysBackSpec)) tkeysBackCard

/-- THE TIED CARD OF 'inarchlaw10.TkeysWays'. -/
def tkeysWaysCard : Claim7 := { stood := { row := tkeysWaysRow, standIns := [], harness := (true, "512826fe20c98d39f1ad95170b91c444e0bae18f709ccdbf6638943651b2a05e"), looks := true }, kinds := [], alts := [], laidByText := true, laidKinds := [.data], laidTests := true, laidLooks := .later }
def TkeysWaysCardSaid : Prop := Claim7.holds Tryd.pinned (.plain (OpenSpec.ofChange tkeysWaysSpec)) tkeysWaysCard

/-- THE SECOND FORM's CARD OF 'inarchlaw10.TkeysRead'. -/
def tkeysReadUptoCard : Claim7 := { stood := { row := tkeysReadUptoRow, standIns := [], harness := (true, "512826fe20c98d39f1ad95170b91c444e0bae18f709ccdbf6638943651b2a05e"), looks := true }, kinds := [], alts := [], laidByText := true, laidKinds := [.data], laidTests := true, laidLooks := .later }
def TkeysReadUptoCardSaid : Prop := Claim7.holds Tryd.pinned (.plain (OpenSpec.upto tkeysReadSpec)) tkeysReadUptoCard

/-- THE SECOND FORM's CARD OF 'inarchlaw10.TkeysWrite'. -/
def tkeysWriteUptoCard : Claim7 := { stood := { row := tkeysWriteUptoRow, standIns := [], harness := (true, "512826fe20c98d39f1ad95170b91c444e0bae18f709ccdbf6638943651b2a05e"), looks := true }, kinds := [], alts := [], laidByText := true, laidKinds := [.data], laidTests := true, laidLooks := .later }
def TkeysWriteUptoCardSaid : Prop := Claim7.holds Tryd.pinned (.plain (OpenSpec.upto tkeysWriteSpec)) tkeysWriteUptoCard

/-- THE SECOND FORM's CARD OF 'inarchlaw10.TkeysBack'. -/
def tkeysBackUptoCard : Claim7 := { stood := { row := tkeysBackUptoRow, standIns := [], harness := (true, "512826fe20c98d39f1ad95170b91c444e0bae18f709ccdbf6638943651b2a05e"), looks := true }, kinds := [], alts := [], laidByText := true, laidKinds := [.data], laidTests := true, laidLooks := .later }
def TkeysBackUptoCardSaid : Prop := Claim7.holds Tryd.pinned (.plain (OpenSpec.upto tkeysBackSpec)) tkeysBackUptoCard

/-- THE SECOND FORM's CARD OF 'inarchlaw10.TkeysWays'. -/
def tkeysWaysUptoCard : Claim7 := { stood := { row := tkeysWaysUptoRow, standIns := [], harness := (true, "512826fe20c98d39f1ad95170b91c444e0bae18f709ccdbf6638943651b2a05e"), looks := true }, kinds := [], alts := [], laidByText := true, laidKinds := [.data], laidTests := true, laidLooks := .later }
def TkeysWaysUptoCardSaid : Prop := Claim7.holds Tryd.pinned (.plain (OpenSpec.upto tkeysWaysSpec)) tkeysWaysUptoCard
end Rows
end Go.Proofs.YtpdaelcoiilkkaaDoor
