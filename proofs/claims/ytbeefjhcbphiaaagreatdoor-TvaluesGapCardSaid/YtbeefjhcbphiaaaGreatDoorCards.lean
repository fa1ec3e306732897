/-
  DERIVED. GIVEN WITH THE SEED: THE CARDS: each row of YtbeefjhcbphiaaaGreatDoorRows.lean that lists a variable, with what it lists TIED to the program's text (the seventh form; the later family's looks); each row that meets fmt, with fmt's text TOLD by the authors' own Lean function (tested against real Go, not proved from fmt's source: count such statements apart). THE CARD IS WHAT COUNTS. Prove the row's statement (the work); the ties are given (YtbeefjhcbphiaaaGreatDoorTie.lean); close each card by the builder's one call (the guide's Derived/Test/ToyasCard.lean, 'card_holds'). Laid BY PROGRAM, IN A SANDBOX (cutbox-door.mjs). By AI agents, Wed Nov 11 2026. No macro, syntax, notation, axiom, sorry.
-/
import Derived.Test.YtbeefjhcbphiaaaGreatDoorRows
import GoSem.ClaimSeven
namespace Go.Proofs.YtbeefjhcbphiaaaGreatDoor
namespace Rows

/-- THE TIED CARD OF 'inarchlaw11.TvaluesRead'. -/
def tvaluesReadCard : Claim7 := { stood := { row := tvaluesReadRow, standIns := [], harness := (true, "aa3f20038b888a9e0c44c059abc055e10957f9e85671cf3edea1644efb791831"), looks := true }, kinds := [], alts := [], laidByText := true, laidKinds := [.data, .data, .data, .data, .data, .pinned, .pinned], laidTests := true, laidLooks := .later }
def TvaluesReadCardSaid : Prop := Claim7.holds Tryz.pinned (.plain (OpenSpec.ofChange tvaluesReadSpec)) tvaluesReadCard

/-- THE TIED CARD OF 'inarchlaw11.TvaluesGap'. -/
def tvaluesGapCard : Claim7 := { stood := { row := tvaluesGapRow, standIns := [], harness := (true, "aa3f20038b888a9e0c44c059abc055e10957f9e85671cf3edea1644efb791831"), looks := true }, kinds := [], alts := [], laidByText := true, laidKinds := [.data, .data, .data, .data, .data, .pinned, .pinned], laidTests := true, laidLooks := .later }
def TvaluesGapCardSaid : Prop := Claim7.holds Tryz.pinned (.plain (OpenSpec.ofChange tvaluesGapSpec)) tvaluesGapCard

/-- THE TIED CARD OF 'inarchlaw11.TvaluesParts'. -/
def tvaluesPartsCard : Claim7 := { stood := { row := tvaluesPartsRow, standIns := [], harness := (true, "aa3f20038b888a9e0c44c059abc055e10957f9e85671cf3edea1644efb791831"), looks := true }, kinds := [], alts := [], laidByText := true, laidKinds := [.data, .data, .data, .data, .data, .data, .pinned, .pinned], laidTests := true, laidLooks := .later }
def TvaluesPartsCardSaid : Prop := Claim7.holds Tryz.pinned (.plain (OpenSpec.ofChange tvaluesPartsSpec)) tvaluesPartsCard

/-- THE TIED CARD OF 'inarchlaw11.TvaluesDeep'. -/
def tvaluesDeepCard : Claim7 := { stood := { row := tvaluesDeepRow, standIns := [], harness := (true, "aa3f20038b888a9e0c44c059abc055e10957f9e85671cf3edea1644efb791831"), looks := true }, kinds := [], alts := [], laidByText := true, laidKinds := [.data, .data, .data, .data, .data, .pinned, .pinned], laidTests := true, laidLooks := .later }
def TvaluesDeepCardSaid : Prop := Claim7.holds Tryz.pinned (.plain (OpenSpec.ofChange tvaluesDeepSpec)) tvaluesDeepCard

/-- THE TIED CARD OF 'inarchlaw11.TvaluesPlain'. -/
def tvaluesPlainCard : Claim7 := { stood := { row := tvaluesPlainRow, standIns := [], harness := (true, "aa3f20038b888a9e0c44c059abc055e10957f9e85671cf3edea1644efb791831"), looks := true }, kinds := [], alts := [], laidByText := true, laidKinds := [.data, .data, .data, .data, .data, .data, .pinned, .pinned], laidTests := true, laidLooks := .later }
def TvaluesPlainCardSaid : Prop := Claim7.holds Tryz.pinned (.plain (OpenSpec.ofChange tvaluesPlainSpec)) tvaluesPlainCard

/-- THE SECOND FORM's CARD OF 'inarchlaw11.TvaluesRead'. -/
def tvaluesReadUptoCard : Claim7 := { stood := { row := tvaluesReadUptoRow, standIns := [], harness := (true, "aa3f20038b888a9e0c44c059abc055e10957f9e85671cf3edea1644efb791831"), looks := true }, kinds := [], alts := [], laidByText := true, laidKinds := [.data, .data, .data, .data, .data, .pinned, .pinned], laidTests := true, laidLooks := .later }
def TvaluesReadUptoCardSaid : Prop := Claim7.holds Tryz.pinned (.plain (OpenSpec.upto tvaluesReadSpec)) tvaluesReadUptoCard

/-- THE SECOND FORM's CARD OF 'inarchlaw11.TvaluesGap'. -/
def tvaluesGapUptoCard : Claim7 := { stood := { row := tvaluesGapUptoRow, standIns := [], harness := (true, "aa3f20038b888a9e0c44c059abc055e10957f9e85671cf3edea1644efb791831"), looks := true }, kinds := [], alts := [], laidByText := true, laidKinds := [.data, .data, .data, .data, .data, .pinned, .pinned], laidTests := true, laidLooks := .later }
def TvaluesGapUptoCardSaid : Prop := Claim7.holds Tryz.pinned (.plain (OpenSpec.upto tvaluesGapSpec)) tvaluesGapUptoCard

/-- THE SECOND FORM's CARD OF 'inarchlaw11.TvaluesParts'. -/
def tvaluesPartsUptoCard : Claim7 := { stood := { row := tvaluesPartsUptoRow, standIns := [], harness := (true, "aa3f20038b888a9e0c44c059abc055e10957f9e85671cf3edea1644efb791831"), looks := true }, kinds := [], alts := [], laidByText := true, laidKinds := [.data, .data, .data, .data, .data, .data, .pinned, .pinned], laidTests := true, laidLooks := .later }
def TvaluesPartsUptoCardSaid : Prop := Claim7.holds Tryz.pinned (.plain (OpenSpec.upto tvaluesPartsSpec)) tvaluesPartsUptoCard

/-- THE SECOND FORM's CARD OF 'inarchlaw11.TvaluesDeep'. -/
def tvaluesDeepUptoCard : Claim7 := { stood := { row := tvaluesDeepUptoRow, standIns := [], harness := (true, "aa3f20038b888a9e0c44c059abc055e10957f9e85671cf3edea1644efb791831"), looks := true }, kinds := [], alts := [], laidByText := true, laidKinds := [.data, .data, .data, .data, .data, .pinned, .pinned], laidTests := true, laidLooks := .later }
def TvaluesDeepUptoCardSaid : Prop := Claim7.holds Tryz.pinned (.plain (OpenSpec.upto tvaluesDeepSpec)) tvaluesDeepUptoCard

/-- THE SECOND FORM's CARD OF 'inarchlaw11.TvaluesPlain'. -/
def tvaluesPlainUptoCard : Claim7 := { stood := { row := tvaluesPlainUptoRow, standIns := [], harness := (true, "aa3f20038b888a9e0c44c059abc055e10957f9e85671cf3edea1644efb791831"), looks := true }, kinds := [], alts := [], laidByText := true, laidKinds := [.data, .data, .data, .data, .data, .data, .pinned, .pinned], laidTests := true, laidLooks := .later }
def TvaluesPlainUptoCardSaid : Prop := Claim7.holds Tryz.pinned (.plain (OpenSpec.upto tvaluesPlainSpec)) tvaluesPlainUptoCard
end Rows
end Go.Proofs.YtbeefjhcbphiaaaGreatDoor
