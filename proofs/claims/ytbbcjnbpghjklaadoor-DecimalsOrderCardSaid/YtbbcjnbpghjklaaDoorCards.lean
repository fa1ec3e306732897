/-
  DERIVED. GIVEN WITH THE SEED: THE CARDS: each row of YtbbcjnbpghjklaaDoorRows.lean that lists a variable, with what it lists TIED to the program's text (the seventh form; the later family's looks); each row that meets fmt, with fmt's text TOLD by the authors' own Lean function (tested against real Go, not proved from fmt's source: count such statements apart). THE CARD IS WHAT COUNTS. Prove the row's statement (the work); the ties are given (YtbbcjnbpghjklaaDoorTie.lean); close each card by the builder's one call (the guide's Derived/Test/ToyasCard.lean, 'card_holds'). Laid BY PROGRAM, IN A SANDBOX (cutbox-door.mjs). By AI agents, Wed Nov 11 2026. No macro, syntax, notation, axiom, sorry.
-/
import Derived.Test.YtbbcjnbpghjklaaDoorRows
import GoSem.ClaimSeven
namespace Go.Proofs.YtbbcjnbpghjklaaDoor
namespace Rows

/-- THE TIED CARD OF 'inarchlaw02.DecimalsRead'. -/
def decimalsReadCard : Claim7 := { stood := { row := decimalsReadRow, standIns := [], harness := (true, "920c10618048b4b1bd98cc44d4f09acd86c352cc329809a60830049c7183c426"), looks := false }, kinds := [], alts := [], laidByText := true, laidKinds := [.data, .data, .data, .data, .pinned], laidTests := true, laidLooks := .later }
def DecimalsReadCardSaid : Prop := Claim7.holds Tryd.pinned (.plain (OpenSpec.ofChange decimalsReadSpec)) decimalsReadCard

/-- THE TIED CARD OF 'inarchlaw02.DecimalsLess'. -/
def decimalsLessCard : Claim7 := { stood := { row := decimalsLessRow, standIns := [], harness := (true, "920c10618048b4b1bd98cc44d4f09acd86c352cc329809a60830049c7183c426"), looks := false }, kinds := [], alts := [], laidByText := true, laidKinds := [.data, .data, .data, .data, .pinned], laidTests := true, laidLooks := .later }
def DecimalsLessCardSaid : Prop := Claim7.holds Tryd.pinned (.plain (OpenSpec.ofChange decimalsLessSpec)) decimalsLessCard

/-- THE TIED CARD OF 'inarchlaw02.DecimalsValue'. -/
def decimalsValueCard : Claim7 := { stood := { row := decimalsValueRow, standIns := [], harness := (true, "920c10618048b4b1bd98cc44d4f09acd86c352cc329809a60830049c7183c426"), looks := false }, kinds := [], alts := [], laidByText := true, laidKinds := [.data, .data, .data, .data, .pinned], laidTests := true, laidLooks := .later }
def DecimalsValueCardSaid : Prop := Claim7.holds Tryd.pinned (.plain (OpenSpec.ofChange decimalsValueSpec)) decimalsValueCard

/-- THE TIED CARD OF 'inarchlaw02.DecimalsWays'. -/
def decimalsWaysCard : Claim7 := { stood := { row := decimalsWaysRow, standIns := [], harness := (true, "920c10618048b4b1bd98cc44d4f09acd86c352cc329809a60830049c7183c426"), looks := false }, kinds := [], alts := [], laidByText := true, laidKinds := [.data, .data, .data, .data, .pinned], laidTests := true, laidLooks := .later }
def DecimalsWaysCardSaid : Prop := Claim7.holds Tryd.pinned (.plain (OpenSpec.ofChange decimalsWaysSpec)) decimalsWaysCard

/-- THE TIED CARD OF 'inarchlaw02.DecimalsOrder'. -/
def decimalsOrderCard : Claim7 := { stood := { row := decimalsOrderRow, standIns := [], harness := (true, "920c10618048b4b1bd98cc44d4f09acd86c352cc329809a60830049c7183c426"), looks := false }, kinds := [], alts := [], laidByText := true, laidKinds := [.data, .data, .data, .data, .pinned], laidTests := true, laidLooks := .later }
def DecimalsOrderCardSaid : Prop := Claim7.holds Tryd.pinned (.plain (OpenSpec.ofChange decimalsOrderSpec)) decimalsOrderCard

/-- THE SECOND FORM's CARD OF 'inarchlaw02.DecimalsRead'. -/
def decimalsReadUptoCard : Claim7 := { stood := { row := decimalsReadUptoRow, standIns := [], harness := (true, "920c10618048b4b1bd98cc44d4f09acd86c352cc329809a60830049c7183c426"), looks := false }, kinds := [], alts := [], laidByText := true, laidKinds := [.data, .data, .data, .data, .pinned], laidTests := true, laidLooks := .later }
def DecimalsReadUptoCardSaid : Prop := Claim7.holds Tryd.pinned (.plain (OpenSpec.upto decimalsReadSpec)) decimalsReadUptoCard

/-- THE SECOND FORM's CARD OF 'inarchlaw02.DecimalsLess'. -/
def decimalsLessUptoCard : Claim7 := { stood := { row := decimalsLessUptoRow, standIns := [], harness := (true, "920c10618048b4b1bd98cc44d4f09acd86c352cc329809a60830049c7183c426"), looks := false }, kinds := [], alts := [], laidByText := true, laidKinds := [.data, .data, .data, .data, .pinned], laidTests := true, laidLooks := .later }
def DecimalsLessUptoCardSaid : Prop := Claim7.holds Tryd.pinned (.plain (OpenSpec.upto decimalsLessSpec)) decimalsLessUptoCard

/-- THE SECOND FORM's CARD OF 'inarchlaw02.DecimalsValue'. -/
def decimalsValueUptoCard : Claim7 := { stood := { row := decimalsValueUptoRow, standIns := [], harness := (true, "920c10618048b4b1bd98cc44d4f09acd86c352cc329809a60830049c7183c426"), looks := false }, kinds := [], alts := [], laidByText := true, laidKinds := [.data, .data, .data, .data, .pinned], laidTests := true, laidLooks := .later }
def DecimalsValueUptoCardSaid : Prop := Claim7.holds Tryd.pinned (.plain (OpenSpec.upto decimalsValueSpec)) decimalsValueUptoCard

/-- THE SECOND FORM's CARD OF 'inarchlaw02.DecimalsWays'. -/
def decimalsWaysUptoCard : Claim7 := { stood := { row := decimalsWaysUptoRow, standIns := [], harness := (true, "920c10618048b4b1bd98cc44d4f09acd86c352cc329809a60830049c7183c426"), looks := false }, kinds := [], alts := [], laidByText := true, laidKinds := [.data, .data, .data, .data, .pinned], laidTests := true, laidLooks := .later }
def DecimalsWaysUptoCardSaid : Prop := Claim7.holds Tryd.pinned (.plain (OpenSpec.upto decimalsWaysSpec)) decimalsWaysUptoCard

/-- THE SECOND FORM's CARD OF 'inarchlaw02.DecimalsOrder'. -/
def decimalsOrderUptoCard : Claim7 := { stood := { row := decimalsOrderUptoRow, standIns := [], harness := (true, "920c10618048b4b1bd98cc44d4f09acd86c352cc329809a60830049c7183c426"), looks := false }, kinds := [], alts := [], laidByText := true, laidKinds := [.data, .data, .data, .data, .pinned], laidTests := true, laidLooks := .later }
def DecimalsOrderUptoCardSaid : Prop := Claim7.holds Tryd.pinned (.plain (OpenSpec.upto decimalsOrderSpec)) decimalsOrderUptoCard
end Rows
end Go.Proofs.YtbbcjnbpghjklaaDoor
