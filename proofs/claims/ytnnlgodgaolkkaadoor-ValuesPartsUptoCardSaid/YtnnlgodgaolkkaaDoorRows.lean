/-
  NARROWER THAN 'FOR EVERY INPUT', by the rows' own cells (each row's printed sentence says how): ValuesTurned: loops, laid · ValuesParts: loops, laid.
  DERIVED. THE GIVEN ROWS OF THIS SEAT. 2 by the template 'for every input the law returns true; each argument reads behind the call as it read before'; 0 by the template 'total and deterministic' (their statements: YtnnlgodgaolkkaaDoorTotals.lean).
  GIVEN WITH THE SEED: the statements are not yours to turn. If you find one false, say at which input.
  Laid BY PROGRAM, IN A SANDBOX (cutbox-rows.mjs): the forced cells as the released guide's own fill.sh prints them over the translation f4cb150892eb0ac6… (all of the seat's roots in one cut). By AI agents, Wed Nov 11 2026. No macro, syntax, notation, axiom, sorry.
-/
import Derived.Test.YtnnlgodgaolkkaaDoorChecked
import GoSem.Claim
import GoSem.ClaimJoined
import GoSem.ClaimMapViews
import Derived.JoinedTies
import Derived.KernelRfl
namespace Go.Proofs.YtnnlgodgaolkkaaDoor
/- THE CELL 'sum', in the pinned program and in every row, IS THE sha256 OF THE DUMP (.gsa) THAT YtnnlgodgaolkkaaDoorProg.lean LOADS. Nothing in Lean hashes anything: it is a label: what it is worth is what the hold of that sum in a sandbox is worth. -/
noncomputable def Tryd.pinned : Pinned := { name := "ytnnlgodgaolkkaadoor", sum := "f4cb150892eb0ac6f71179e2e1e99a57580f32f3ebc8d68f8d9bab01b63bde41", checked := Tryd.checked }
namespace Rows
def none {H : Type} : Left H := { results := [], args := [] }

/- WHAT THE LISTED PACKAGE-LEVEL VARIABLES READ AS WHEN THE CALL BEGINS. Each datum BY PROGRAM (the guide's laid-datum.mjs) off the statement by which the dump's own 'gosem.cut.vars' lays the variable. In a bare row this is a premise. The card (YtnnlgodgaolkkaaDoorCards.lean) ties it to the program's text. -/
def laid_inarch_quotes_shorts {H : Type} : DataW H := .agg [.agg [.lit (.int .u8 34), .lit (.int .u8 34)], .agg [.lit (.int .u8 92), .lit (.int .u8 92)], .agg [.lit (.int .u8 47), .lit (.int .u8 47)], .agg [.lit (.int .u8 98), .lit (.int .u8 8)], .agg [.lit (.int .u8 102), .lit (.int .u8 12)], .agg [.lit (.int .u8 110), .lit (.int .u8 10)], .agg [.lit (.int .u8 114), .lit (.int .u8 13)], .agg [.lit (.int .u8 116), .lit (.int .u8 9)]]

/-- 'inarchlaw14.ValuesTurned': WHATEVER THE INPUT: true; the input reads as it did. -/
def valuesTurnedSpec : ChangeSpec := { name := "valuesTurned", fn := fun _ => fun
  | [d1, d2, d3] => { results := [.lit (.bool true)], args := [d1, d2, d3] }
  | _ => none }
def valuesTurnedRow : OpenClaim := { program := "ytnnlgodgaolkkaadoor", sum := "f4cb150892eb0ac6f71179e2e1e99a57580f32f3ebc8d68f8d9bab01b63bde41", func := "inarch/inarchlaw14.ValuesTurned", spec := "valuesTurned", inPlace := ["internal/bytealg.abigen_runtime_cmpstring"], unfollowed := true, recurses := true, named := ["inarch/quotes.shorts"], loops := true, apart := false, laid := [("inarch/quotes.shorts", laid_inarch_quotes_shorts)] }
def ValuesTurnedSaid : Prop := valuesTurnedRow.holds Tryd.pinned (OpenSpec.ofChange valuesTurnedSpec)

/-- ITS FALSE NEIGHBOUR: 'it returns false'. Refute it at one input. -/
def valuesTurnedWrong : ChangeSpec := { name := "valuesTurned", fn := fun _ => fun
  | [d1, d2, d3] => { results := [.lit (.bool false)], args := [d1, d2, d3] }
  | _ => none }
def ValuesTurnedWrongFalsely : Prop := valuesTurnedRow.holds Tryd.pinned (OpenSpec.ofChange valuesTurnedWrong)

/-- 'inarchlaw14.ValuesParts': WHATEVER THE INPUT: true; the input reads as it did. -/
def valuesPartsSpec : ChangeSpec := { name := "valuesParts", fn := fun _ => fun
  | [d1, d2] => { results := [.lit (.bool true)], args := [d1, d2] }
  | _ => none }
def valuesPartsRow : OpenClaim := { program := "ytnnlgodgaolkkaadoor", sum := "f4cb150892eb0ac6f71179e2e1e99a57580f32f3ebc8d68f8d9bab01b63bde41", func := "inarch/inarchlaw14.ValuesParts", spec := "valuesParts", inPlace := ["internal/bytealg.abigen_runtime_cmpstring"], unfollowed := true, recurses := true, named := ["inarch/quotes.shorts"], loops := true, apart := false, laid := [("inarch/quotes.shorts", laid_inarch_quotes_shorts)] }
def ValuesPartsSaid : Prop := valuesPartsRow.holds Tryd.pinned (OpenSpec.ofChange valuesPartsSpec)

/-- ITS FALSE NEIGHBOUR: 'it returns false'. Refute it at one input. -/
def valuesPartsWrong : ChangeSpec := { name := "valuesParts", fn := fun _ => fun
  | [d1, d2] => { results := [.lit (.bool false)], args := [d1, d2] }
  | _ => none }
def ValuesPartsWrongFalsely : Prop := valuesPartsRow.holds Tryd.pinned (OpenSpec.ofChange valuesPartsWrong)

/- THE SECOND FORM. 'bulk': how many values and letters a reading holds, each counted each time it is reached (what is shared counts as often as it is met; a slice's spare places count too). A statement '..UptoSaid' is the law's where the arguments, and the package variables that the reading takes, are together of bulk at most 1048576: NARROWER than '..Said'. Prove '..Said' where nothing that the law and all that it calls make is longer than what came in: it says more and counts as full. Else prove '..UptoSaid'. A law counts once. -/
mutual
def uptoBulk {H : Type} : DataW H → Nat
  | .lit (.string bytes) => bytes.length + 1
  | .lit _ => 1
  | .nil => 1
  | .ptr d => uptoBulk d + 1
  | .slice elems spare => uptoBulkAll elems + uptoBulkAll spare + 1
  | .agg parts => uptoBulkAll parts + 1
  | .iface _ d => uptoBulk d + 1
  | .map entries => uptoBulkEntries entries + 1
  | .held _ => 1
def uptoBulkAll {H : Type} : List (DataW H) → Nat
  | [] => 0
  | d :: r => uptoBulk d + uptoBulkAll r
def uptoBulkEntries {H : Type} : List (Lit × DataW H) → Nat
  | [] => 0
  | x :: r => uptoBulkEntry x + uptoBulkEntries r
def uptoBulkEntry {H : Type} : Lit × DataW H → Nat
  | (.string bytes, d) => bytes.length + uptoBulk d + 1
  | (_, d) => uptoBulk d + 1
 end
def uptoSmall : (H : Type) → List (DataW H) → Bool := fun _ ds => decide (uptoBulkAll ds ≤ 1048576)
def OpenSpec.upto (s : _root_.Go.ChangeSpec) : _root_.Go.OpenSpec := { _root_.Go.OpenSpec.ofChange s with cond := some uptoSmall }

/-- 'inarchlaw14.ValuesTurned', WHERE WHAT IT READS IS OF BULK AT MOST 1048576: true; the input reads as it did. -/
def valuesTurnedUptoRow : OpenClaim := { program := "ytnnlgodgaolkkaadoor", sum := "f4cb150892eb0ac6f71179e2e1e99a57580f32f3ebc8d68f8d9bab01b63bde41", func := "inarch/inarchlaw14.ValuesTurned", spec := "valuesTurned", inPlace := ["internal/bytealg.abigen_runtime_cmpstring"], unfollowed := true, recurses := true, named := ["inarch/quotes.shorts"], loops := true, apart := false, laid := [("inarch/quotes.shorts", laid_inarch_quotes_shorts)], narrowed := true }
def ValuesTurnedUptoSaid : Prop := valuesTurnedUptoRow.holds Tryd.pinned (OpenSpec.upto valuesTurnedSpec)

/-- 'inarchlaw14.ValuesParts', WHERE WHAT IT READS IS OF BULK AT MOST 1048576: true; the input reads as it did. -/
def valuesPartsUptoRow : OpenClaim := { program := "ytnnlgodgaolkkaadoor", sum := "f4cb150892eb0ac6f71179e2e1e99a57580f32f3ebc8d68f8d9bab01b63bde41", func := "inarch/inarchlaw14.ValuesParts", spec := "valuesParts", inPlace := ["internal/bytealg.abigen_runtime_cmpstring"], unfollowed := true, recurses := true, named := ["inarch/quotes.shorts"], loops := true, apart := false, laid := [("inarch/quotes.shorts", laid_inarch_quotes_shorts)], narrowed := true }
def ValuesPartsUptoSaid : Prop := valuesPartsUptoRow.holds Tryd.pinned (OpenSpec.upto valuesPartsSpec)

end Rows
end Go.Proofs.YtnnlgodgaolkkaaDoor
