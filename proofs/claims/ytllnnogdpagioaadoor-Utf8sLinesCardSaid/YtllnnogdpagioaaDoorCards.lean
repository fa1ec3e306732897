/-
  DERIVED. GIVEN WITH THE SEED: THE CARDS: each row of YtllnnogdpagioaaDoorRows.lean that lists a variable, with what it lists TIED to the program's text (the seventh form; the later family's looks); each row that meets fmt, with fmt's text TOLD by the authors' own Lean function (tested against real Go, not proved from fmt's source: count such statements apart). THE CARD IS WHAT COUNTS. Prove the row's statement (the work); the ties are given (YtllnnogdpagioaaDoorTie.lean); close each card by the builder's one call (the guide's Derived/Test/ToyasCard.lean, 'card_holds'). Laid BY PROGRAM, IN A SANDBOX (cutbox-door.mjs). By AI agents, Wed Nov 11 2026. No macro, syntax, notation, axiom, sorry.
-/
import Derived.Test.YtllnnogdpagioaaDoorRows
import GoSem.ClaimSeven
namespace Go.Proofs.YtllnnogdpagioaaDoor
namespace Rows

/-- THE TIED CARD OF 'inarchlaw01.Utf8sCheck'. -/
def utf8sCheckCard : Claim7 := { stood := { row := utf8sCheckRow, standIns := [], harness := (true, "592201e7ffcc493b7914e54fc6261fe9edadd447efcfd4b19a24724a4657b749"), looks := false }, kinds := [], alts := [], laidByText := true, laidKinds := [.data, .data], laidTests := true, laidLooks := .later }
def Utf8sCheckCardSaid : Prop := Claim7.holds Tryd.pinned (.plain (OpenSpec.ofChange utf8sCheckSpec)) utf8sCheckCard

/-- THE TIED CARD OF 'inarchlaw01.Utf8sPlace'. -/
def utf8sPlaceCard : Claim7 := { stood := { row := utf8sPlaceRow, standIns := [], harness := (true, "592201e7ffcc493b7914e54fc6261fe9edadd447efcfd4b19a24724a4657b749"), looks := false }, kinds := [], alts := [], laidByText := true, laidKinds := [.data, .data], laidTests := true, laidLooks := .later }
def Utf8sPlaceCardSaid : Prop := Claim7.holds Tryd.pinned (.plain (OpenSpec.ofChange utf8sPlaceSpec)) utf8sPlaceCard

/-- THE TIED CARD OF 'inarchlaw01.Utf8sPut'. -/
def utf8sPutCard : Claim7 := { stood := { row := utf8sPutRow, standIns := [], harness := (true, "592201e7ffcc493b7914e54fc6261fe9edadd447efcfd4b19a24724a4657b749"), looks := false }, kinds := [], alts := [], laidByText := true, laidKinds := [.data, .data], laidTests := true, laidLooks := .later }
def Utf8sPutCardSaid : Prop := Claim7.holds Tryd.pinned (.plain (OpenSpec.ofChange utf8sPutSpec)) utf8sPutCard

/-- THE TIED CARD OF 'inarchlaw01.Utf8sBack'. -/
def utf8sBackCard : Claim7 := { stood := { row := utf8sBackRow, standIns := [], harness := (true, "592201e7ffcc493b7914e54fc6261fe9edadd447efcfd4b19a24724a4657b749"), looks := false }, kinds := [], alts := [], laidByText := true, laidKinds := [.data, .data], laidTests := true, laidLooks := .later }
def Utf8sBackCardSaid : Prop := Claim7.holds Tryd.pinned (.plain (OpenSpec.ofChange utf8sBackSpec)) utf8sBackCard

/-- THE TIED CARD OF 'inarchlaw01.Utf8sJoin'. -/
def utf8sJoinCard : Claim7 := { stood := { row := utf8sJoinRow, standIns := [], harness := (true, "592201e7ffcc493b7914e54fc6261fe9edadd447efcfd4b19a24724a4657b749"), looks := false }, kinds := [], alts := [], laidByText := true, laidKinds := [.data, .data], laidTests := true, laidLooks := .later }
def Utf8sJoinCardSaid : Prop := Claim7.holds Tryd.pinned (.plain (OpenSpec.ofChange utf8sJoinSpec)) utf8sJoinCard

/-- THE TIED CARD OF 'inarchlaw01.Utf8sLines'. -/
def utf8sLinesCard : Claim7 := { stood := { row := utf8sLinesRow, standIns := [], harness := (true, "592201e7ffcc493b7914e54fc6261fe9edadd447efcfd4b19a24724a4657b749"), looks := false }, kinds := [], alts := [], laidByText := true, laidKinds := [.data, .data], laidTests := true, laidLooks := .later }
def Utf8sLinesCardSaid : Prop := Claim7.holds Tryd.pinned (.plain (OpenSpec.ofChange utf8sLinesSpec)) utf8sLinesCard

/-- THE SECOND FORM's CARD OF 'inarchlaw01.Utf8sCheck'. -/
def utf8sCheckUptoCard : Claim7 := { stood := { row := utf8sCheckUptoRow, standIns := [], harness := (true, "592201e7ffcc493b7914e54fc6261fe9edadd447efcfd4b19a24724a4657b749"), looks := false }, kinds := [], alts := [], laidByText := true, laidKinds := [.data, .data], laidTests := true, laidLooks := .later }
def Utf8sCheckUptoCardSaid : Prop := Claim7.holds Tryd.pinned (.plain (OpenSpec.upto utf8sCheckSpec)) utf8sCheckUptoCard

/-- THE SECOND FORM's CARD OF 'inarchlaw01.Utf8sPlace'. -/
def utf8sPlaceUptoCard : Claim7 := { stood := { row := utf8sPlaceUptoRow, standIns := [], harness := (true, "592201e7ffcc493b7914e54fc6261fe9edadd447efcfd4b19a24724a4657b749"), looks := false }, kinds := [], alts := [], laidByText := true, laidKinds := [.data, .data], laidTests := true, laidLooks := .later }
def Utf8sPlaceUptoCardSaid : Prop := Claim7.holds Tryd.pinned (.plain (OpenSpec.upto utf8sPlaceSpec)) utf8sPlaceUptoCard

/-- THE SECOND FORM's CARD OF 'inarchlaw01.Utf8sPut'. -/
def utf8sPutUptoCard : Claim7 := { stood := { row := utf8sPutUptoRow, standIns := [], harness := (true, "592201e7ffcc493b7914e54fc6261fe9edadd447efcfd4b19a24724a4657b749"), looks := false }, kinds := [], alts := [], laidByText := true, laidKinds := [.data, .data], laidTests := true, laidLooks := .later }
def Utf8sPutUptoCardSaid : Prop := Claim7.holds Tryd.pinned (.plain (OpenSpec.upto utf8sPutSpec)) utf8sPutUptoCard

/-- THE SECOND FORM's CARD OF 'inarchlaw01.Utf8sBack'. -/
def utf8sBackUptoCard : Claim7 := { stood := { row := utf8sBackUptoRow, standIns := [], harness := (true, "592201e7ffcc493b7914e54fc6261fe9edadd447efcfd4b19a24724a4657b749"), looks := false }, kinds := [], alts := [], laidByText := true, laidKinds := [.data, .data], laidTests := true, laidLooks := .later }
def Utf8sBackUptoCardSaid : Prop := Claim7.holds Tryd.pinned (.plain (OpenSpec.upto utf8sBackSpec)) utf8sBackUptoCard

/-- THE SECOND FORM's CARD OF 'inarchlaw01.Utf8sJoin'. -/
def utf8sJoinUptoCard : Claim7 := { stood := { row := utf8sJoinUptoRow, standIns := [], harness := (true, "592201e7ffcc493b7914e54fc6261fe9edadd447efcfd4b19a24724a4657b749"), looks := false }, kinds := [], alts := [], laidByText := true, laidKinds := [.data, .data], laidTests := true, laidLooks := .later }
def Utf8sJoinUptoCardSaid : Prop := Claim7.holds Tryd.pinned (.plain (OpenSpec.upto utf8sJoinSpec)) utf8sJoinUptoCard

/-- THE SECOND FORM's CARD OF 'inarchlaw01.Utf8sLines'. -/
def utf8sLinesUptoCard : Claim7 := { stood := { row := utf8sLinesUptoRow, standIns := [], harness := (true, "592201e7ffcc493b7914e54fc6261fe9edadd447efcfd4b19a24724a4657b749"), looks := false }, kinds := [], alts := [], laidByText := true, laidKinds := [.data, .data], laidTests := true, laidLooks := .later }
def Utf8sLinesUptoCardSaid : Prop := Claim7.holds Tryd.pinned (.plain (OpenSpec.upto utf8sLinesSpec)) utf8sLinesUptoCard
end Rows
end Go.Proofs.YtllnnogdpagioaaDoor
