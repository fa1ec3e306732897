/- What landed of values, as the laws ask it. -/
import Derived.Test.YtnnlgodgaolkkaaGreatDoorHg
import Derived.Test.YtnnlgodgaolkkaaGreatDoorHo
import Derived.Test.YtnnlgodgaolkkaaGreatDoorUmm
namespace Go.Proofs.YtnnlgodgaolkkaaGreatDoor
open Go.RowKit
namespace Va
set_option maxRecDepth 100000

/-- The size, or how deep, of a value that may be; else nought. -/
def iM (a : Bool) (n : Nat) : Int := bif a then (n : Int) else 0
structure Ld (Lo : Nat) (Tb : World → Prop) (κ : V → Bs) : Prop where
  on : ∀ {w w' : World}, Tb w → Below Lo w w' → Tb w'
  lo : ∀ {w : World}, Tb w → Lo ≤ w.heap.size
  may : ∀ {x : V} {v : Value} (w : World), Tb w → Vm w v x → wt x ≤ 1000000 → Calls Tryz.prog 8 #[v] w fun e w' => e = .returned (.bool (may x)) ∧ Below w.heap.size w w'
  same : ∀ {x y : V} {v u : Value} (w : World), Tb w → Vm w v x → Vm w u y → wt x ≤ 1000000 → wt y ≤ 1000000 → Calls Tryz.prog 10 #[v, u] w fun e w' => e = .returned (.bool (Va.may x && Va.may y && sm x y)) ∧ Below w.heap.size w w'
  cmp : ∀ {x y : V} {v u : Value} (w : World), Tb w → Vm w v x → Vm w u y → wt x ≤ 1000000 → wt y ≤ 1000000 → Calls Tryz.prog 12 #[v, u] w fun e w' => e = .returned (.int .i64 (cI (Va.may x) (Va.may y) (oI (cmpV (can x) (can y))))) ∧ Below w.heap.size w w'
  size : ∀ {x : V} {v : Value} (w : World), Tb w → Vm w v x → wt x ≤ 1000000 → Calls Tryz.prog 14 #[v] w fun e w' => e = .returned (.int .i64 (iM (Va.may x) (sz x))) ∧ Below w.heap.size w w'
  deep : ∀ {x : V} {v : Value} (w : World), Tb w → Vm w v x → wt x ≤ 1000000 → Calls Tryz.prog 16 #[v] w fun e w' => e = .returned (.int .i64 (iM (Va.may x) (dp x))) ∧ Below w.heap.size w w'
  text : ∀ {x : V} {v : Value} (w : World), Tb w → Vm w v x → wt x ≤ 1000000 → Calls Tryz.prog 18 #[v] w fun e w' => e = .returned (.string (txt (teM x))) ∧ Below w.heap.size w w'
  key : ∀ {x : V} {v : Value} (w : World), Tb w → Vm w v x → wt x ≤ 1000000 → Calls Tryz.prog 20 #[v] w fun e w' => e = .returned (.string (txt (κ x))) ∧ Below w.heap.size w w'
  get : ∀ {x : V} {v : Value} {s : Bs} {S : ByteArray} (w : World), Tb w → Vm w v x → wt x ≤ 1000000 → S = txt s → Calls Tryz.prog 21 #[v, .string S] w fun e w' => (∃ u, e = .returned (.tuple #[u, .bool (gt x s).isSome]) ∧ Vm w' u ((gt x s).getD (.mk 0 [] [] [])) ∧ ∃ (N : Nat) (ok : Nat → Prop), Vp N w' ok u ∧ ∀ g, ok g → w.heap.size ≤ g) ∧ Below w.heap.size w w'
  kno : ∀ {x : V}, Va.may x = false → κ x = []
  kyes : ∀ {x : V}, Va.may x = true → κ x ≠ []
  kone : ∀ {x y : V}, Va.may x = true → Va.may y = true → (κ x = κ y ↔ sm x y = true)
theorem Ld.up {Lo : Nat} {Tb : World → Prop} {κ : V → Bs} (L : Ld Lo Tb κ) {w w' : World} (h : Tb w) (hb : Below w.heap.size w w') : Tb w' := L.on h (hb.mono (L.lo h))
end Va
end Go.Proofs.YtnnlgodgaolkkaaGreatDoor
