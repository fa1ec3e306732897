/-
  No cell of these rows narrows 'for every input' (looked for: loops, veiled, ifaces, maps, wideKeys, modest, calm, conditions, laid).
  DERIVED. THE GIVEN ROWS OF THIS SEAT. 3 by the template 'for every input the law returns true; each argument reads behind the call as it read before'; 0 by the template 'total and deterministic' (their statements: YtfnahondlcbjnaaTotals.lean).
  GIVEN WITH THE SEED: the statements are not yours to turn. If you find one false, say at which input.
  Laid BY PROGRAM, IN A SANDBOX (cutbox-rows.mjs): the forced cells as the released guide's own fill.sh prints them over the translation 23b60804597e8d5a… (all of the seat's roots in one cut). By AI agents, Wed Nov 11 2026. No macro, syntax, notation, axiom, sorry.
-/
import Derived.Test.YtfnahondlcbjnaaChecked
import GoSem.Claim
import GoSem.ClaimJoined
import GoSem.ClaimMapViews
import Derived.JoinedTies
import Derived.KernelRfl
namespace Go.Proofs.Ytfnahondlcbjnaa
/- THE CELL 'sum', in the pinned program and in every row, IS THE sha256 OF THE DUMP (.gsa) THAT YtfnahondlcbjnaaProg.lean LOADS. Nothing in Lean hashes anything: it is a label: what it is worth is what the hold of that sum in a sandbox is worth. -/
noncomputable def Try.pinned : Pinned := { name := "ytfnahondlcbjnaa", sum := "23b60804597e8d5a33b5141d549cc9f0057ad1e77be57b24a0c62181640c0cc3", checked := Try.checked }
namespace Rows
def none {H : Type} : Left H := { results := [], args := [] }

/-- 'inarchlaw08.JtokensRead': WHATEVER THE INPUT: true; the input reads as it did. -/
def jtokensReadSpec : ChangeSpec := { name := "jtokensRead", fn := fun _ => fun
  | [d1, d2] => { results := [.lit (.bool true)], args := [d1, d2] }
  | _ => none }
def jtokensReadRow : OpenClaim := { program := "ytfnahondlcbjnaa", sum := "23b60804597e8d5a33b5141d549cc9f0057ad1e77be57b24a0c62181640c0cc3", func := "inarch/inarchlaw08.JtokensRead", spec := "jtokensRead", inPlace := ["internal/bytealg.IndexByteString"], unfollowed := true, recurses := true, apart := false }
def JtokensReadSaid : Prop := jtokensReadRow.holds Try.pinned (OpenSpec.ofChange jtokensReadSpec)

/-- ITS FALSE NEIGHBOUR: 'it returns false'. Refute it at one input. -/
def jtokensReadWrong : ChangeSpec := { name := "jtokensRead", fn := fun _ => fun
  | [d1, d2] => { results := [.lit (.bool false)], args := [d1, d2] }
  | _ => none }
def JtokensReadWrongFalsely : Prop := jtokensReadRow.holds Try.pinned (OpenSpec.ofChange jtokensReadWrong)

/-- 'inarchlaw08.JtokensCover': WHATEVER THE INPUT: true; the input reads as it did. -/
def jtokensCoverSpec : ChangeSpec := { name := "jtokensCover", fn := fun _ => fun
  | [d] => { results := [.lit (.bool true)], args := [d] }
  | _ => none }
def jtokensCoverRow : OpenClaim := { program := "ytfnahondlcbjnaa", sum := "23b60804597e8d5a33b5141d549cc9f0057ad1e77be57b24a0c62181640c0cc3", func := "inarch/inarchlaw08.JtokensCover", spec := "jtokensCover", inPlace := ["internal/bytealg.IndexByteString"], unfollowed := true, recurses := true, apart := false }
def JtokensCoverSaid : Prop := jtokensCoverRow.holds Try.pinned (OpenSpec.ofChange jtokensCoverSpec)

/-- ITS FALSE NEIGHBOUR: 'it returns false'. Refute it at one input. -/
def jtokensCoverWrong : ChangeSpec := { name := "jtokensCover", fn := fun _ => fun
  | [d] => { results := [.lit (.bool false)], args := [d] }
  | _ => none }
def JtokensCoverWrongFalsely : Prop := jtokensCoverRow.holds Try.pinned (OpenSpec.ofChange jtokensCoverWrong)

/-- 'inarchlaw08.JtokensJoin': WHATEVER THE INPUT: true; the input reads as it did. -/
def jtokensJoinSpec : ChangeSpec := { name := "jtokensJoin", fn := fun _ => fun
  | [d1, d2, d3] => { results := [.lit (.bool true)], args := [d1, d2, d3] }
  | _ => none }
def jtokensJoinRow : OpenClaim := { program := "ytfnahondlcbjnaa", sum := "23b60804597e8d5a33b5141d549cc9f0057ad1e77be57b24a0c62181640c0cc3", func := "inarch/inarchlaw08.JtokensJoin", spec := "jtokensJoin", inPlace := ["internal/bytealg.IndexByteString"], unfollowed := true, recurses := true, apart := false }
def JtokensJoinSaid : Prop := jtokensJoinRow.holds Try.pinned (OpenSpec.ofChange jtokensJoinSpec)

/-- ITS FALSE NEIGHBOUR: 'it returns false'. Refute it at one input. -/
def jtokensJoinWrong : ChangeSpec := { name := "jtokensJoin", fn := fun _ => fun
  | [d1, d2, d3] => { results := [.lit (.bool false)], args := [d1, d2, d3] }
  | _ => none }
def JtokensJoinWrongFalsely : Prop := jtokensJoinRow.holds Try.pinned (OpenSpec.ofChange jtokensJoinWrong)

/- THE SECOND FORM. 'bulk': how many values and letters a reading holds, each counted each time it is reached (what is shared counts as often as it is met; a slice's spare places count too). A statement '..UptoSaid' is the law's where the arguments, and the package variables that the reading takes, are together of bulk at most 1048576: NARROWER than '..Said'. Prove '..Said' where nothing that the law and all that it calls make is longer than what came in: it says more and counts as full. Else prove '..UptoSaid'. A law counts once. -/
mutual
def uptoBulk {H : Type} : DataW H → Nat
  | .lit (.string bytes) => bytes.length + 1
  | .lit _ => 1
  | .nil => 1
  | .ptr d => uptoBulk d + 1
  | .slice elems spare => uptoBulkAll elems + uptoBulkAll spare + 1
  | .agg parts => uptoBulkAll parts + 1
  | .iface _ d => uptoBulk d + 1
  | .map entries => uptoBulkEntries entries + 1
  | .held _ => 1
def uptoBulkAll {H : Type} : List (DataW H) → Nat
  | [] => 0
  | d :: r => uptoBulk d + uptoBulkAll r
def uptoBulkEntries {H : Type} : List (Lit × DataW H) → Nat
  | [] => 0
  | x :: r => uptoBulkEntry x + uptoBulkEntries r
def uptoBulkEntry {H : Type} : Lit × DataW H → Nat
  | (.string bytes, d) => bytes.length + uptoBulk d + 1
  | (_, d) => uptoBulk d + 1
 end
def uptoSmall : (H : Type) → List (DataW H) → Bool := fun _ ds => decide (uptoBulkAll ds ≤ 1048576)
def OpenSpec.upto (s : _root_.Go.ChangeSpec) : _root_.Go.OpenSpec := { _root_.Go.OpenSpec.ofChange s with cond := some uptoSmall }

/-- 'inarchlaw08.JtokensRead', WHERE WHAT IT READS IS OF BULK AT MOST 1048576: true; the input reads as it did. -/
def jtokensReadUptoRow : OpenClaim := { program := "ytfnahondlcbjnaa", sum := "23b60804597e8d5a33b5141d549cc9f0057ad1e77be57b24a0c62181640c0cc3", func := "inarch/inarchlaw08.JtokensRead", spec := "jtokensRead", inPlace := ["internal/bytealg.IndexByteString"], unfollowed := true, recurses := true, apart := false, narrowed := true }
def JtokensReadUptoSaid : Prop := jtokensReadUptoRow.holds Try.pinned (OpenSpec.upto jtokensReadSpec)

/-- 'inarchlaw08.JtokensCover', WHERE WHAT IT READS IS OF BULK AT MOST 1048576: true; the input reads as it did. -/
def jtokensCoverUptoRow : OpenClaim := { program := "ytfnahondlcbjnaa", sum := "23b60804597e8d5a33b5141d549cc9f0057ad1e77be57b24a0c62181640c0cc3", func := "inarch/inarchlaw08.JtokensCover", spec := "jtokensCover", inPlace := ["internal/bytealg.IndexByteString"], unfollowed := true, recurses := true, apart := false, narrowed := true }
def JtokensCoverUptoSaid : Prop := jtokensCoverUptoRow.holds Try.pinned (OpenSpec.upto jtokensCoverSpec)

/-- 'inarchlaw08.JtokensJoin', WHERE WHAT IT READS IS OF BULK AT MOST 1048576: true; the input reads as it did. -/
def jtokensJoinUptoRow : OpenClaim := { program := "ytfnahondlcbjnaa", sum := "23b60804597e8d5a33b5141d549cc9f0057ad1e77be57b24a0c62181640c0cc3", func := "inarch/inarchlaw08.JtokensJoin", spec := "jtokensJoin", inPlace := ["internal/bytealg.IndexByteString"], unfollowed := true, recurses := true, apart := false, narrowed := true }
def JtokensJoinUptoSaid : Prop := jtokensJoinUptoRow.holds Try.pinned (OpenSpec.upto jtokensJoinSpec)

end Rows
end Go.Proofs.Ytfnahondlcbjnaa
