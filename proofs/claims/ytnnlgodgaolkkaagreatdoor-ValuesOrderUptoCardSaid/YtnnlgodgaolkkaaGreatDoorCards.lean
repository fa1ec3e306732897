/-
  DERIVED. GIVEN WITH THE SEED: THE CARDS: each row of YtnnlgodgaolkkaaGreatDoorRows.lean that lists a variable, with what it lists TIED to the program's text (the seventh form; the later family's looks); each row that meets fmt, with fmt's text TOLD by the authors' own Lean function (tested against real Go, not proved from fmt's source: count such statements apart). THE CARD IS WHAT COUNTS. Prove the row's statement (the work); the ties are given (YtnnlgodgaolkkaaGreatDoorTie.lean); close each card by the builder's one call (the guide's Derived/Test/ToyasCard.lean, 'card_holds'). Laid BY PROGRAM, IN A SANDBOX (cutbox-door.mjs). By AI agents, Wed Nov 11 2026. No macro, syntax, notation, axiom, sorry.
-/
import Derived.Test.YtnnlgodgaolkkaaGreatDoorRows
import GoSem.ClaimSeven
namespace Go.Proofs.YtnnlgodgaolkkaaGreatDoor
namespace Rows

/-- THE TIED CARD OF 'inarchlaw14.ValuesAny'. -/
def valuesAnyCard : Claim7 := { stood := { row := valuesAnyRow, standIns := [], harness := (true, "2dc9545c8ffc6d21fb826e0d92231a45ce33955fc2770211512aa1074661e3d0"), looks := false }, kinds := [], alts := [], laidByText := true, laidKinds := [.data, .data, .data, .data], laidTests := true, laidLooks := .later }
def ValuesAnyCardSaid : Prop := Claim7.holds Tryz.pinned (.plain (OpenSpec.ofChange valuesAnySpec)) valuesAnyCard

/-- THE TIED CARD OF 'inarchlaw14.ValuesOrder'. -/
def valuesOrderCard : Claim7 := { stood := { row := valuesOrderRow, standIns := [], harness := (true, "2dc9545c8ffc6d21fb826e0d92231a45ce33955fc2770211512aa1074661e3d0"), looks := false }, kinds := [], alts := [], laidByText := true, laidKinds := [.data, .data, .data, .data], laidTests := true, laidLooks := .later }
def ValuesOrderCardSaid : Prop := Claim7.holds Tryz.pinned (.plain (OpenSpec.ofChange valuesOrderSpec)) valuesOrderCard

/-- THE SECOND FORM's CARD OF 'inarchlaw14.ValuesAny'. -/
def valuesAnyUptoCard : Claim7 := { stood := { row := valuesAnyUptoRow, standIns := [], harness := (true, "2dc9545c8ffc6d21fb826e0d92231a45ce33955fc2770211512aa1074661e3d0"), looks := false }, kinds := [], alts := [], laidByText := true, laidKinds := [.data, .data, .data, .data], laidTests := true, laidLooks := .later }
def ValuesAnyUptoCardSaid : Prop := Claim7.holds Tryz.pinned (.plain (OpenSpec.upto valuesAnySpec)) valuesAnyUptoCard

/-- THE SECOND FORM's CARD OF 'inarchlaw14.ValuesOrder'. -/
def valuesOrderUptoCard : Claim7 := { stood := { row := valuesOrderUptoRow, standIns := [], harness := (true, "2dc9545c8ffc6d21fb826e0d92231a45ce33955fc2770211512aa1074661e3d0"), looks := false }, kinds := [], alts := [], laidByText := true, laidKinds := [.data, .data, .data, .data], laidTests := true, laidLooks := .later }
def ValuesOrderUptoCardSaid : Prop := Claim7.holds Tryz.pinned (.plain (OpenSpec.upto valuesOrderSpec)) valuesOrderUptoCard
end Rows
end Go.Proofs.YtnnlgodgaolkkaaGreatDoor
