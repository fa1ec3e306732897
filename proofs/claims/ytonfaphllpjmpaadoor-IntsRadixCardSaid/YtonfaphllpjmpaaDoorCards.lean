/-
  DERIVED. GIVEN WITH THE SEED: THE CARDS: each row of YtonfaphllpjmpaaDoorRows.lean that lists a variable, with what it lists TIED to the program's text (the seventh form; the later family's looks); each row that meets fmt, with fmt's text TOLD by the authors' own Lean function (tested against real Go, not proved from fmt's source: count such statements apart). THE CARD IS WHAT COUNTS. Prove the row's statement (the work); the ties are given (YtonfaphllpjmpaaDoorTie.lean); close each card by the builder's one call (the guide's Derived/Test/ToyasCard.lean, 'card_holds'). Laid BY PROGRAM, IN A SANDBOX (cutbox-door.mjs). By AI agents, Wed Nov 11 2026. No macro, syntax, notation, axiom, sorry.
-/
import Derived.Test.YtonfaphllpjmpaaDoorRows
import GoSem.ClaimSeven
namespace Go.Proofs.YtonfaphllpjmpaaDoor
namespace Rows

/-- THE TIED CARD OF 'inarchlaw05.IntsRead'. -/
def intsReadCard : Claim7 := { stood := { row := intsReadRow, standIns := [], harness := (true, "f7280dfd817706dfac05f7d1549f6466220f17129d14e187ba4fbd7de6c195b4"), looks := false }, kinds := [], alts := [], laidByText := true, laidKinds := [.data, .data, .data, .data], laidTests := true, laidLooks := .later }
def IntsReadCardSaid : Prop := Claim7.holds Tryd.pinned (.plain (OpenSpec.ofChange intsReadSpec)) intsReadCard

/-- THE TIED CARD OF 'inarchlaw05.IntsCmp'. -/
def intsCmpCard : Claim7 := { stood := { row := intsCmpRow, standIns := [], harness := (true, "f7280dfd817706dfac05f7d1549f6466220f17129d14e187ba4fbd7de6c195b4"), looks := false }, kinds := [], alts := [], laidByText := true, laidKinds := [.data, .data, .data, .data], laidTests := true, laidLooks := .later }
def IntsCmpCardSaid : Prop := Claim7.holds Tryd.pinned (.plain (OpenSpec.ofChange intsCmpSpec)) intsCmpCard

/-- THE TIED CARD OF 'inarchlaw05.IntsRadix'. -/
def intsRadixCard : Claim7 := { stood := { row := intsRadixRow, standIns := [], harness := (true, "f7280dfd817706dfac05f7d1549f6466220f17129d14e187ba4fbd7de6c195b4"), looks := false }, kinds := [], alts := [], laidByText := true, laidKinds := [.data, .data, .data, .data, .data, .pinned, .pinned], laidTests := true, laidLooks := .later }
def IntsRadixCardSaid : Prop := Claim7.holds Tryd.pinned (.plain (OpenSpec.ofChange intsRadixSpec)) intsRadixCard

/-- THE TIED CARD OF 'inarchlaw05.IntsEdge'. -/
def intsEdgeCard : Claim7 := { stood := { row := intsEdgeRow, standIns := [], harness := (true, "f7280dfd817706dfac05f7d1549f6466220f17129d14e187ba4fbd7de6c195b4"), looks := false }, kinds := [], alts := [], laidByText := true, laidKinds := [.data, .data, .data, .data], laidTests := true, laidLooks := .later }
def IntsEdgeCardSaid : Prop := Claim7.holds Tryd.pinned (.plain (OpenSpec.ofChange intsEdgeSpec)) intsEdgeCard

/-- THE TIED CARD OF 'inarchlaw05.IntsOrder'. -/
def intsOrderCard : Claim7 := { stood := { row := intsOrderRow, standIns := [], harness := (true, "f7280dfd817706dfac05f7d1549f6466220f17129d14e187ba4fbd7de6c195b4"), looks := false }, kinds := [], alts := [], laidByText := true, laidKinds := [.data, .data, .data, .data], laidTests := true, laidLooks := .later }
def IntsOrderCardSaid : Prop := Claim7.holds Tryd.pinned (.plain (OpenSpec.ofChange intsOrderSpec)) intsOrderCard

/-- THE SECOND FORM's CARD OF 'inarchlaw05.IntsRead'. -/
def intsReadUptoCard : Claim7 := { stood := { row := intsReadUptoRow, standIns := [], harness := (true, "f7280dfd817706dfac05f7d1549f6466220f17129d14e187ba4fbd7de6c195b4"), looks := false }, kinds := [], alts := [], laidByText := true, laidKinds := [.data, .data, .data, .data], laidTests := true, laidLooks := .later }
def IntsReadUptoCardSaid : Prop := Claim7.holds Tryd.pinned (.plain (OpenSpec.upto intsReadSpec)) intsReadUptoCard

/-- THE SECOND FORM's CARD OF 'inarchlaw05.IntsCmp'. -/
def intsCmpUptoCard : Claim7 := { stood := { row := intsCmpUptoRow, standIns := [], harness := (true, "f7280dfd817706dfac05f7d1549f6466220f17129d14e187ba4fbd7de6c195b4"), looks := false }, kinds := [], alts := [], laidByText := true, laidKinds := [.data, .data, .data, .data], laidTests := true, laidLooks := .later }
def IntsCmpUptoCardSaid : Prop := Claim7.holds Tryd.pinned (.plain (OpenSpec.upto intsCmpSpec)) intsCmpUptoCard

/-- THE SECOND FORM's CARD OF 'inarchlaw05.IntsRadix'. -/
def intsRadixUptoCard : Claim7 := { stood := { row := intsRadixUptoRow, standIns := [], harness := (true, "f7280dfd817706dfac05f7d1549f6466220f17129d14e187ba4fbd7de6c195b4"), looks := false }, kinds := [], alts := [], laidByText := true, laidKinds := [.data, .data, .data, .data, .data, .pinned, .pinned], laidTests := true, laidLooks := .later }
def IntsRadixUptoCardSaid : Prop := Claim7.holds Tryd.pinned (.plain (OpenSpec.upto intsRadixSpec)) intsRadixUptoCard

/-- THE SECOND FORM's CARD OF 'inarchlaw05.IntsEdge'. -/
def intsEdgeUptoCard : Claim7 := { stood := { row := intsEdgeUptoRow, standIns := [], harness := (true, "f7280dfd817706dfac05f7d1549f6466220f17129d14e187ba4fbd7de6c195b4"), looks := false }, kinds := [], alts := [], laidByText := true, laidKinds := [.data, .data, .data, .data], laidTests := true, laidLooks := .later }
def IntsEdgeUptoCardSaid : Prop := Claim7.holds Tryd.pinned (.plain (OpenSpec.upto intsEdgeSpec)) intsEdgeUptoCard

/-- THE SECOND FORM's CARD OF 'inarchlaw05.IntsOrder'. -/
def intsOrderUptoCard : Claim7 := { stood := { row := intsOrderUptoRow, standIns := [], harness := (true, "f7280dfd817706dfac05f7d1549f6466220f17129d14e187ba4fbd7de6c195b4"), looks := false }, kinds := [], alts := [], laidByText := true, laidKinds := [.data, .data, .data, .data], laidTests := true, laidLooks := .later }
def IntsOrderUptoCardSaid : Prop := Claim7.holds Tryd.pinned (.plain (OpenSpec.upto intsOrderSpec)) intsOrderUptoCard
end Rows
end Go.Proofs.YtonfaphllpjmpaaDoor
