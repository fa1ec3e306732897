/-
  DERIVED. GIVEN WITH THE SEED: THE CARDS: each row of YtnnlgodgaolkkaaDoorRows.lean that lists a variable, with what it lists TIED to the program's text (the seventh form; the later family's looks); each row that meets fmt, with fmt's text TOLD by the authors' own Lean function (tested against real Go, not proved from fmt's source: count such statements apart). THE CARD IS WHAT COUNTS. Prove the row's statement (the work); the ties are given (YtnnlgodgaolkkaaDoorTie.lean); close each card by the builder's one call (the guide's Derived/Test/ToyasCard.lean, 'card_holds'). Laid BY PROGRAM, IN A SANDBOX (cutbox-door.mjs). By AI agents, Wed Nov 11 2026. No macro, syntax, notation, axiom, sorry.
-/
import Derived.Test.YtnnlgodgaolkkaaDoorRows
import GoSem.ClaimSeven
namespace Go.Proofs.YtnnlgodgaolkkaaDoor
namespace Rows

/-- THE TIED CARD OF 'inarchlaw14.ValuesTurned'. -/
def valuesTurnedCard : Claim7 := { stood := { row := valuesTurnedRow, standIns := [], harness := (true, "d1ff02bee116ae8d3dcbf61b1afca500b995236c10173648bc284d5abf88c808"), looks := false }, kinds := [], alts := [], laidByText := true, laidKinds := [.data], laidTests := true, laidLooks := .later }
def ValuesTurnedCardSaid : Prop := Claim7.holds Tryd.pinned (.plain (OpenSpec.ofChange valuesTurnedSpec)) valuesTurnedCard

/-- THE TIED CARD OF 'inarchlaw14.ValuesParts'. -/
def valuesPartsCard : Claim7 := { stood := { row := valuesPartsRow, standIns := [], harness := (true, "d1ff02bee116ae8d3dcbf61b1afca500b995236c10173648bc284d5abf88c808"), looks := false }, kinds := [], alts := [], laidByText := true, laidKinds := [.data], laidTests := true, laidLooks := .later }
def ValuesPartsCardSaid : Prop := Claim7.holds Tryd.pinned (.plain (OpenSpec.ofChange valuesPartsSpec)) valuesPartsCard

/-- THE SECOND FORM's CARD OF 'inarchlaw14.ValuesTurned'. -/
def valuesTurnedUptoCard : Claim7 := { stood := { row := valuesTurnedUptoRow, standIns := [], harness := (true, "d1ff02bee116ae8d3dcbf61b1afca500b995236c10173648bc284d5abf88c808"), looks := false }, kinds := [], alts := [], laidByText := true, laidKinds := [.data], laidTests := true, laidLooks := .later }
def ValuesTurnedUptoCardSaid : Prop := Claim7.holds Tryd.pinned (.plain (OpenSpec.upto valuesTurnedSpec)) valuesTurnedUptoCard

/-- THE SECOND FORM's CARD OF 'inarchlaw14.ValuesParts'. -/
def valuesPartsUptoCard : Claim7 := { stood := { row := valuesPartsUptoRow, standIns := [], harness := (true, "d1ff02bee116ae8d3dcbf61b1afca500b995236c10173648bc284d5abf88c808"), looks := false }, kinds := [], alts := [], laidByText := true, laidKinds := [.data], laidTests := true, laidLooks := .later }
def ValuesPartsUptoCardSaid : Prop := Claim7.holds Tryd.pinned (.plain (OpenSpec.upto valuesPartsSpec)) valuesPartsUptoCard
end Rows
end Go.Proofs.YtnnlgodgaolkkaaDoor
