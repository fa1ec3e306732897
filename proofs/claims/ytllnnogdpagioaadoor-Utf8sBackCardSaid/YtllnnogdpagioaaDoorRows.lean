/-
  NARROWER THAN 'FOR EVERY INPUT', by the rows' own cells (each row's printed sentence says how): Utf8sCheck: laid · Utf8sPlace: laid · Utf8sPut: laid · Utf8sBack: laid · Utf8sJoin: laid · Utf8sLines: laid.
  DERIVED. THE GIVEN ROWS OF THIS SEAT. 6 by the template 'for every input the law returns true; each argument reads behind the call as it read before'; 0 by the template 'total and deterministic' (their statements: YtllnnogdpagioaaDoorTotals.lean).
  GIVEN WITH THE SEED: the statements are not yours to turn. If you find one false, say at which input.
  Laid BY PROGRAM, IN A SANDBOX (cutbox-rows.mjs): the forced cells as the released guide's own fill.sh prints them over the translation 0893e59a90afa744… (all of the seat's roots in one cut). By AI agents, Wed Nov 11 2026. No macro, syntax, notation, axiom, sorry.
-/
import Derived.Test.YtllnnogdpagioaaDoorChecked
import GoSem.Claim
import GoSem.ClaimJoined
import GoSem.ClaimMapViews
import Derived.JoinedTies
import Derived.KernelRfl
namespace Go.Proofs.YtllnnogdpagioaaDoor
/- THE CELL 'sum', in the pinned program and in every row, IS THE sha256 OF THE DUMP (.gsa) THAT YtllnnogdpagioaaDoorProg.lean LOADS. Nothing in Lean hashes anything: it is a label: what it is worth is what the hold of that sum in a sandbox is worth. -/
noncomputable def Tryd.pinned : Pinned := { name := "ytllnnogdpagioaadoor", sum := "0893e59a90afa744399e59b98a81d6bd59b523f3f9c2e10b04485bd43f84e5c4", checked := Tryd.checked }
namespace Rows
def none {H : Type} : Left H := { results := [], args := [] }

/- WHAT THE LISTED PACKAGE-LEVEL VARIABLES READ AS WHEN THE CALL BEGINS. Each datum BY PROGRAM (the guide's laid-datum.mjs) off the statement by which the dump's own 'gosem.cut.vars' lays the variable. In a bare row this is a premise. The card (YtllnnogdpagioaaDoorCards.lean) ties it to the program's text. -/
def laid_inarch_utf8s_heads {H : Type} : DataW H := .agg [.lit (.int .u8 0), .lit (.int .u8 192), .lit (.int .u8 224), .lit (.int .u8 240)]
def laid_inarch_utf8s_masks {H : Type} : DataW H := .agg [.lit (.int .u8 127), .lit (.int .u8 31), .lit (.int .u8 15), .lit (.int .u8 7)]

/-- 'inarchlaw01.Utf8sCheck': WHATEVER THE INPUT: true; the input reads as it did. -/
def utf8sCheckSpec : ChangeSpec := { name := "utf8sCheck", fn := fun _ => fun
  | [d] => { results := [.lit (.bool true)], args := [d] }
  | _ => none }
def utf8sCheckRow : OpenClaim := { program := "ytllnnogdpagioaadoor", sum := "0893e59a90afa744399e59b98a81d6bd59b523f3f9c2e10b04485bd43f84e5c4", func := "inarch/inarchlaw01.Utf8sCheck", spec := "utf8sCheck", inPlace := ["internal/bytealg.Count", "internal/bytealg.IndexByte", "internal/bytealg.Index"], named := ["internal/bytealg.MaxLen", "inarch/utf8s.heads", "inarch/utf8s.masks"], apart := false, laid := [("inarch/utf8s.heads", laid_inarch_utf8s_heads), ("inarch/utf8s.masks", laid_inarch_utf8s_masks)] }
def Utf8sCheckSaid : Prop := utf8sCheckRow.holds Tryd.pinned (OpenSpec.ofChange utf8sCheckSpec)

/-- ITS FALSE NEIGHBOUR: 'it returns false'. Refute it at one input. -/
def utf8sCheckWrong : ChangeSpec := { name := "utf8sCheck", fn := fun _ => fun
  | [d] => { results := [.lit (.bool false)], args := [d] }
  | _ => none }
def Utf8sCheckWrongFalsely : Prop := utf8sCheckRow.holds Tryd.pinned (OpenSpec.ofChange utf8sCheckWrong)

/-- 'inarchlaw01.Utf8sPlace': WHATEVER THE INPUT: true; the input reads as it did. -/
def utf8sPlaceSpec : ChangeSpec := { name := "utf8sPlace", fn := fun _ => fun
  | [d1, d2] => { results := [.lit (.bool true)], args := [d1, d2] }
  | _ => none }
def utf8sPlaceRow : OpenClaim := { program := "ytllnnogdpagioaadoor", sum := "0893e59a90afa744399e59b98a81d6bd59b523f3f9c2e10b04485bd43f84e5c4", func := "inarch/inarchlaw01.Utf8sPlace", spec := "utf8sPlace", inPlace := ["internal/bytealg.Count", "internal/bytealg.IndexByte", "internal/bytealg.Index"], named := ["internal/bytealg.MaxLen", "inarch/utf8s.heads", "inarch/utf8s.masks"], apart := false, laid := [("inarch/utf8s.heads", laid_inarch_utf8s_heads), ("inarch/utf8s.masks", laid_inarch_utf8s_masks)] }
def Utf8sPlaceSaid : Prop := utf8sPlaceRow.holds Tryd.pinned (OpenSpec.ofChange utf8sPlaceSpec)

/-- ITS FALSE NEIGHBOUR: 'it returns false'. Refute it at one input. -/
def utf8sPlaceWrong : ChangeSpec := { name := "utf8sPlace", fn := fun _ => fun
  | [d1, d2] => { results := [.lit (.bool false)], args := [d1, d2] }
  | _ => none }
def Utf8sPlaceWrongFalsely : Prop := utf8sPlaceRow.holds Tryd.pinned (OpenSpec.ofChange utf8sPlaceWrong)

/-- 'inarchlaw01.Utf8sPut': WHATEVER THE INPUT: true; the input reads as it did. -/
def utf8sPutSpec : ChangeSpec := { name := "utf8sPut", fn := fun _ => fun
  | [d] => { results := [.lit (.bool true)], args := [d] }
  | _ => none }
def utf8sPutRow : OpenClaim := { program := "ytllnnogdpagioaadoor", sum := "0893e59a90afa744399e59b98a81d6bd59b523f3f9c2e10b04485bd43f84e5c4", func := "inarch/inarchlaw01.Utf8sPut", spec := "utf8sPut", inPlace := ["internal/bytealg.Count", "internal/bytealg.IndexByte", "internal/bytealg.Index"], named := ["internal/bytealg.MaxLen", "inarch/utf8s.heads", "inarch/utf8s.masks"], apart := false, laid := [("inarch/utf8s.heads", laid_inarch_utf8s_heads), ("inarch/utf8s.masks", laid_inarch_utf8s_masks)] }
def Utf8sPutSaid : Prop := utf8sPutRow.holds Tryd.pinned (OpenSpec.ofChange utf8sPutSpec)

/-- ITS FALSE NEIGHBOUR: 'it returns false'. Refute it at one input. -/
def utf8sPutWrong : ChangeSpec := { name := "utf8sPut", fn := fun _ => fun
  | [d] => { results := [.lit (.bool false)], args := [d] }
  | _ => none }
def Utf8sPutWrongFalsely : Prop := utf8sPutRow.holds Tryd.pinned (OpenSpec.ofChange utf8sPutWrong)

/-- 'inarchlaw01.Utf8sBack': WHATEVER THE INPUT: true; the input reads as it did. -/
def utf8sBackSpec : ChangeSpec := { name := "utf8sBack", fn := fun _ => fun
  | [d] => { results := [.lit (.bool true)], args := [d] }
  | _ => none }
def utf8sBackRow : OpenClaim := { program := "ytllnnogdpagioaadoor", sum := "0893e59a90afa744399e59b98a81d6bd59b523f3f9c2e10b04485bd43f84e5c4", func := "inarch/inarchlaw01.Utf8sBack", spec := "utf8sBack", inPlace := ["internal/bytealg.Count", "internal/bytealg.IndexByte", "internal/bytealg.Index"], named := ["internal/bytealg.MaxLen", "inarch/utf8s.heads", "inarch/utf8s.masks"], apart := false, laid := [("inarch/utf8s.heads", laid_inarch_utf8s_heads), ("inarch/utf8s.masks", laid_inarch_utf8s_masks)] }
def Utf8sBackSaid : Prop := utf8sBackRow.holds Tryd.pinned (OpenSpec.ofChange utf8sBackSpec)

/-- ITS FALSE NEIGHBOUR: 'it returns false'. Refute it at one input. -/
def utf8sBackWrong : ChangeSpec := { name := "utf8sBack", fn := fun _ => fun
  | [d] => { results := [.lit (.bool false)], args := [d] }
  | _ => none }
def Utf8sBackWrongFalsely : Prop := utf8sBackRow.holds Tryd.pinned (OpenSpec.ofChange utf8sBackWrong)

/-- 'inarchlaw01.Utf8sJoin': WHATEVER THE INPUT: true; the input reads as it did. -/
def utf8sJoinSpec : ChangeSpec := { name := "utf8sJoin", fn := fun _ => fun
  | [d1, d2] => { results := [.lit (.bool true)], args := [d1, d2] }
  | _ => none }
def utf8sJoinRow : OpenClaim := { program := "ytllnnogdpagioaadoor", sum := "0893e59a90afa744399e59b98a81d6bd59b523f3f9c2e10b04485bd43f84e5c4", func := "inarch/inarchlaw01.Utf8sJoin", spec := "utf8sJoin", inPlace := ["internal/bytealg.Count", "internal/bytealg.IndexByte", "internal/bytealg.Index"], named := ["internal/bytealg.MaxLen", "inarch/utf8s.heads", "inarch/utf8s.masks"], apart := false, laid := [("inarch/utf8s.heads", laid_inarch_utf8s_heads), ("inarch/utf8s.masks", laid_inarch_utf8s_masks)] }
def Utf8sJoinSaid : Prop := utf8sJoinRow.holds Tryd.pinned (OpenSpec.ofChange utf8sJoinSpec)

/-- ITS FALSE NEIGHBOUR: 'it returns false'. Refute it at one input. -/
def utf8sJoinWrong : ChangeSpec := { name := "utf8sJoin", fn := fun _ => fun
  | [d1, d2] => { results := [.lit (.bool false)], args := [d1, d2] }
  | _ => none }
def Utf8sJoinWrongFalsely : Prop := utf8sJoinRow.holds Tryd.pinned (OpenSpec.ofChange utf8sJoinWrong)

/-- 'inarchlaw01.Utf8sLines': WHATEVER THE INPUT: true; the input reads as it did. -/
def utf8sLinesSpec : ChangeSpec := { name := "utf8sLines", fn := fun _ => fun
  | [d] => { results := [.lit (.bool true)], args := [d] }
  | _ => none }
def utf8sLinesRow : OpenClaim := { program := "ytllnnogdpagioaadoor", sum := "0893e59a90afa744399e59b98a81d6bd59b523f3f9c2e10b04485bd43f84e5c4", func := "inarch/inarchlaw01.Utf8sLines", spec := "utf8sLines", inPlace := ["internal/bytealg.Count", "internal/bytealg.IndexByte", "internal/bytealg.Index"], named := ["internal/bytealg.MaxLen", "inarch/utf8s.heads", "inarch/utf8s.masks"], apart := false, laid := [("inarch/utf8s.heads", laid_inarch_utf8s_heads), ("inarch/utf8s.masks", laid_inarch_utf8s_masks)] }
def Utf8sLinesSaid : Prop := utf8sLinesRow.holds Tryd.pinned (OpenSpec.ofChange utf8sLinesSpec)

/-- ITS FALSE NEIGHBOUR: 'it returns false'. Refute it at one input. -/
def utf8sLinesWrong : ChangeSpec := { name := "utf8sLines", fn := fun _ => fun
  | [d] => { results := [.lit (.bool false)], args := [d] }
  | _ => none }
def Utf8sLinesWrongFalsely : Prop := utf8sLinesRow.holds Tryd.pinned (OpenSpec.ofChange utf8sLinesWrong)

/- THE SECOND FORM. 'bulk': how many values and letters a reading holds, each counted each time it is reached (what is shared counts as often as it is met; a slice's spare places count too). A statement '..UptoSaid' is the law's where the arguments, and the package variables that the reading takes, are together of bulk at most 1048576: NARROWER than '..Said'. Prove '..Said' where nothing that the law and all that it calls make is longer than what came in: it says more and counts as full. Else prove '..UptoSaid'. A law counts once. -/
mutual
def uptoBulk {H : Type} : DataW H → Nat
  | .lit (.string bytes) => bytes.length + 1
  | .lit _ => 1
  | .nil => 1
  | .ptr d => uptoBulk d + 1
  | .slice elems spare => uptoBulkAll elems + uptoBulkAll spare + 1
  | .agg parts => uptoBulkAll parts + 1
  | .iface _ d => uptoBulk d + 1
  | .map entries => uptoBulkEntries entries + 1
  | .held _ => 1
def uptoBulkAll {H : Type} : List (DataW H) → Nat
  | [] => 0
  | d :: r => uptoBulk d + uptoBulkAll r
def uptoBulkEntries {H : Type} : List (Lit × DataW H) → Nat
  | [] => 0
  | x :: r => uptoBulkEntry x + uptoBulkEntries r
def uptoBulkEntry {H : Type} : Lit × DataW H → Nat
  | (.string bytes, d) => bytes.length + uptoBulk d + 1
  | (_, d) => uptoBulk d + 1
 end
def uptoSmall : (H : Type) → List (DataW H) → Bool := fun _ ds => decide (uptoBulkAll ds ≤ 1048576)
def OpenSpec.upto (s : _root_.Go.ChangeSpec) : _root_.Go.OpenSpec := { _root_.Go.OpenSpec.ofChange s with cond := some uptoSmall }

/-- 'inarchlaw01.Utf8sCheck', WHERE WHAT IT READS IS OF BULK AT MOST 1048576: true; the input reads as it did. -/
def utf8sCheckUptoRow : OpenClaim := { program := "ytllnnogdpagioaadoor", sum := "0893e59a90afa744399e59b98a81d6bd59b523f3f9c2e10b04485bd43f84e5c4", func := "inarch/inarchlaw01.Utf8sCheck", spec := "utf8sCheck", inPlace := ["internal/bytealg.Count", "internal/bytealg.IndexByte", "internal/bytealg.Index"], named := ["internal/bytealg.MaxLen", "inarch/utf8s.heads", "inarch/utf8s.masks"], apart := false, laid := [("inarch/utf8s.heads", laid_inarch_utf8s_heads), ("inarch/utf8s.masks", laid_inarch_utf8s_masks)], narrowed := true }
def Utf8sCheckUptoSaid : Prop := utf8sCheckUptoRow.holds Tryd.pinned (OpenSpec.upto utf8sCheckSpec)

/-- 'inarchlaw01.Utf8sPlace', WHERE WHAT IT READS IS OF BULK AT MOST 1048576: true; the input reads as it did. -/
def utf8sPlaceUptoRow : OpenClaim := { program := "ytllnnogdpagioaadoor", sum := "0893e59a90afa744399e59b98a81d6bd59b523f3f9c2e10b04485bd43f84e5c4", func := "inarch/inarchlaw01.Utf8sPlace", spec := "utf8sPlace", inPlace := ["internal/bytealg.Count", "internal/bytealg.IndexByte", "internal/bytealg.Index"], named := ["internal/bytealg.MaxLen", "inarch/utf8s.heads", "inarch/utf8s.masks"], apart := false, laid := [("inarch/utf8s.heads", laid_inarch_utf8s_heads), ("inarch/utf8s.masks", laid_inarch_utf8s_masks)], narrowed := true }
def Utf8sPlaceUptoSaid : Prop := utf8sPlaceUptoRow.holds Tryd.pinned (OpenSpec.upto utf8sPlaceSpec)

/-- 'inarchlaw01.Utf8sPut', WHERE WHAT IT READS IS OF BULK AT MOST 1048576: true; the input reads as it did. -/
def utf8sPutUptoRow : OpenClaim := { program := "ytllnnogdpagioaadoor", sum := "0893e59a90afa744399e59b98a81d6bd59b523f3f9c2e10b04485bd43f84e5c4", func := "inarch/inarchlaw01.Utf8sPut", spec := "utf8sPut", inPlace := ["internal/bytealg.Count", "internal/bytealg.IndexByte", "internal/bytealg.Index"], named := ["internal/bytealg.MaxLen", "inarch/utf8s.heads", "inarch/utf8s.masks"], apart := false, laid := [("inarch/utf8s.heads", laid_inarch_utf8s_heads), ("inarch/utf8s.masks", laid_inarch_utf8s_masks)], narrowed := true }
def Utf8sPutUptoSaid : Prop := utf8sPutUptoRow.holds Tryd.pinned (OpenSpec.upto utf8sPutSpec)

/-- 'inarchlaw01.Utf8sBack', WHERE WHAT IT READS IS OF BULK AT MOST 1048576: true; the input reads as it did. -/
def utf8sBackUptoRow : OpenClaim := { program := "ytllnnogdpagioaadoor", sum := "0893e59a90afa744399e59b98a81d6bd59b523f3f9c2e10b04485bd43f84e5c4", func := "inarch/inarchlaw01.Utf8sBack", spec := "utf8sBack", inPlace := ["internal/bytealg.Count", "internal/bytealg.IndexByte", "internal/bytealg.Index"], named := ["internal/bytealg.MaxLen", "inarch/utf8s.heads", "inarch/utf8s.masks"], apart := false, laid := [("inarch/utf8s.heads", laid_inarch_utf8s_heads), ("inarch/utf8s.masks", laid_inarch_utf8s_masks)], narrowed := true }
def Utf8sBackUptoSaid : Prop := utf8sBackUptoRow.holds Tryd.pinned (OpenSpec.upto utf8sBackSpec)

/-- 'inarchlaw01.Utf8sJoin', WHERE WHAT IT READS IS OF BULK AT MOST 1048576: true; the input reads as it did. -/
def utf8sJoinUptoRow : OpenClaim := { program := "ytllnnogdpagioaadoor", sum := "0893e59a90afa744399e59b98a81d6bd59b523f3f9c2e10b04485bd43f84e5c4", func := "inarch/inarchlaw01.Utf8sJoin", spec := "utf8sJoin", inPlace := ["internal/bytealg.Count", "internal/bytealg.IndexByte", "internal/bytealg.Index"], named := ["internal/bytealg.MaxLen", "inarch/utf8s.heads", "inarch/utf8s.masks"], apart := false, laid := [("inarch/utf8s.heads", laid_inarch_utf8s_heads), ("inarch/utf8s.masks", laid_inarch_utf8s_masks)], narrowed := true }
def Utf8sJoinUptoSaid : Prop := utf8sJoinUptoRow.holds Tryd.pinned (OpenSpec.upto utf8sJoinSpec)

/-- 'inarchlaw01.Utf8sLines', WHERE WHAT IT READS IS OF BULK AT MOST 1048576: true; the input reads as it did. -/
def utf8sLinesUptoRow : OpenClaim := { program := "ytllnnogdpagioaadoor", sum := "0893e59a90afa744399e59b98a81d6bd59b523f3f9c2e10b04485bd43f84e5c4", func := "inarch/inarchlaw01.Utf8sLines", spec := "utf8sLines", inPlace := ["internal/bytealg.Count", "internal/bytealg.IndexByte", "internal/bytealg.Index"], named := ["internal/bytealg.MaxLen", "inarch/utf8s.heads", "inarch/utf8s.masks"], apart := false, laid := [("inarch/utf8s.heads", laid_inarch_utf8s_heads), ("inarch/utf8s.masks", laid_inarch_utf8s_masks)], narrowed := true }
def Utf8sLinesUptoSaid : Prop := utf8sLinesUptoRow.holds Tryd.pinned (OpenSpec.upto utf8sLinesSpec)

end Rows
end Go.Proofs.YtllnnogdpagioaaDoor
