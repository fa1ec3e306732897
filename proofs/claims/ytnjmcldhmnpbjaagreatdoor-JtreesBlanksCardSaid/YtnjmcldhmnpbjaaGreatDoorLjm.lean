/- The law of blanks, as the row asks it. -/
import Derived.Test.YtnjmcldhmnpbjaaGreatDoorLim
import Derived.Test.YtnjmcldhmnpbjaaGreatDoorKvm
import Derived.Test.YtnjmcldhmnpbjaaGreatDoorKzm
namespace Go.Proofs.YtnjmcldhmnpbjaaGreatDoor
open Go.ChangeShapes Go.WideShapes Go.ChangeAt Go.RowKit
namespace Jt

/-- A slice of bytes that came in. -/
theorem argb_of {H : Type} {enc : TypeId × Value → H} {W : World} {a : Option Addr} {n c : Nat} {d : DataW H} {p : List MemPlace} (h : DataW.Trod enc Tryz.prog W 0 (fun _ => true) true 22 (.slice a n c) d p) : ∃ l, Jk.ArgB W a n c l := Jk.argb_of h
theorem blanksL_any {l bl : List UInt8} {A A2 : Option Addr} {n c n2 c2 : Nat} {w : World} (ha : Jk.ArgB w A n c l) (hb : Jk.ArgB w A2 n2 c2 bl) (_W : World) (hT : Tabs0 w) : Calls Tryz.prog 5 #[.slice A n c, .slice A2 n2 c2] w fun e w' => e = .returned (.bool true) ∧ Below w.heap.size w w' := blanks_any ha hb hT
end Jt
end Go.Proofs.YtnjmcldhmnpbjaaGreatDoor
