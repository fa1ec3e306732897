/-
  DERIVED. GIVEN WITH THE SEED: THE CARDS: each row of YtgmlbcdakblpiaaDoorRows.lean that lists a variable, with what it lists TIED to the program's text (the seventh form; the later family's looks); each row that meets fmt, with fmt's text TOLD by the authors' own Lean function (tested against real Go, not proved from fmt's source: count such statements apart). THE CARD IS WHAT COUNTS. Prove the row's statement (the work); the ties are given (YtgmlbcdakblpiaaDoorTie.lean); close each card by the builder's one call (the guide's Derived/Test/ToyasCard.lean, 'card_holds'). Laid BY PROGRAM, IN A SANDBOX (cutbox-door.mjs). By AI agents, Wed Nov 11 2026. No macro, syntax, notation, axiom, sorry.
-/
import Derived.Test.YtgmlbcdakblpiaaDoorRows
import GoSem.ClaimSeven
namespace Go.Proofs.YtgmlbcdakblpiaaDoor
namespace Rows

/-- THE TIED CARD OF 'inarchlaw07.DatesRead'. -/
def datesReadCard : Claim7 := { stood := { row := datesReadRow, standIns := [], harness := (true, "d603fc26956062ee9cb864b38a0664c51cf2b2174db1bd18dd285468da7ae807"), looks := false }, kinds := [], alts := [], laidByText := true, laidKinds := [.data, .pinned, .pinned], laidTests := true, laidLooks := .later }
def DatesReadCardSaid : Prop := Claim7.holds Tryd.pinned (.plain (OpenSpec.ofChange datesReadSpec)) datesReadCard

/-- THE TIED CARD OF 'inarchlaw07.DatesDays'. -/
def datesDaysCard : Claim7 := { stood := { row := datesDaysRow, standIns := [], harness := (true, "d603fc26956062ee9cb864b38a0664c51cf2b2174db1bd18dd285468da7ae807"), looks := false }, kinds := [], alts := [], laidByText := true, laidKinds := [.data, .pinned, .pinned], laidTests := true, laidLooks := .later }
def DatesDaysCardSaid : Prop := Claim7.holds Tryd.pinned (.plain (OpenSpec.ofChange datesDaysSpec)) datesDaysCard

/-- THE TIED CARD OF 'inarchlaw07.DatesTimes'. -/
def datesTimesCard : Claim7 := { stood := { row := datesTimesRow, standIns := [], harness := (true, "d603fc26956062ee9cb864b38a0664c51cf2b2174db1bd18dd285468da7ae807"), looks := false }, kinds := [], alts := [], laidByText := true, laidKinds := [.data, .pinned, .pinned], laidTests := true, laidLooks := .later }
def DatesTimesCardSaid : Prop := Claim7.holds Tryd.pinned (.plain (OpenSpec.ofChange datesTimesSpec)) datesTimesCard

/-- THE TIED CARD OF 'inarchlaw07.DatesBack'. -/
def datesBackCard : Claim7 := { stood := { row := datesBackRow, standIns := [], harness := (true, "d603fc26956062ee9cb864b38a0664c51cf2b2174db1bd18dd285468da7ae807"), looks := false }, kinds := [], alts := [], laidByText := true, laidKinds := [.data, .pinned, .pinned], laidTests := true, laidLooks := .later }
def DatesBackCardSaid : Prop := Claim7.holds Tryd.pinned (.plain (OpenSpec.ofChange datesBackSpec)) datesBackCard

/-- THE SECOND FORM's CARD OF 'inarchlaw07.DatesRead'. -/
def datesReadUptoCard : Claim7 := { stood := { row := datesReadUptoRow, standIns := [], harness := (true, "d603fc26956062ee9cb864b38a0664c51cf2b2174db1bd18dd285468da7ae807"), looks := false }, kinds := [], alts := [], laidByText := true, laidKinds := [.data, .pinned, .pinned], laidTests := true, laidLooks := .later }
def DatesReadUptoCardSaid : Prop := Claim7.holds Tryd.pinned (.plain (OpenSpec.upto datesReadSpec)) datesReadUptoCard

/-- THE SECOND FORM's CARD OF 'inarchlaw07.DatesDays'. -/
def datesDaysUptoCard : Claim7 := { stood := { row := datesDaysUptoRow, standIns := [], harness := (true, "d603fc26956062ee9cb864b38a0664c51cf2b2174db1bd18dd285468da7ae807"), looks := false }, kinds := [], alts := [], laidByText := true, laidKinds := [.data, .pinned, .pinned], laidTests := true, laidLooks := .later }
def DatesDaysUptoCardSaid : Prop := Claim7.holds Tryd.pinned (.plain (OpenSpec.upto datesDaysSpec)) datesDaysUptoCard

/-- THE SECOND FORM's CARD OF 'inarchlaw07.DatesTimes'. -/
def datesTimesUptoCard : Claim7 := { stood := { row := datesTimesUptoRow, standIns := [], harness := (true, "d603fc26956062ee9cb864b38a0664c51cf2b2174db1bd18dd285468da7ae807"), looks := false }, kinds := [], alts := [], laidByText := true, laidKinds := [.data, .pinned, .pinned], laidTests := true, laidLooks := .later }
def DatesTimesUptoCardSaid : Prop := Claim7.holds Tryd.pinned (.plain (OpenSpec.upto datesTimesSpec)) datesTimesUptoCard

/-- THE SECOND FORM's CARD OF 'inarchlaw07.DatesBack'. -/
def datesBackUptoCard : Claim7 := { stood := { row := datesBackUptoRow, standIns := [], harness := (true, "d603fc26956062ee9cb864b38a0664c51cf2b2174db1bd18dd285468da7ae807"), looks := false }, kinds := [], alts := [], laidByText := true, laidKinds := [.data, .pinned, .pinned], laidTests := true, laidLooks := .later }
def DatesBackUptoCardSaid : Prop := Claim7.holds Tryd.pinned (.plain (OpenSpec.upto datesBackSpec)) datesBackUptoCard
end Rows
end Go.Proofs.YtgmlbcdakblpiaaDoor
