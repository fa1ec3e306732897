/- A slice of texts that came in, and the law TkeysWrite at it. -/
import Derived.Test.YtpdaelcoiilkkaaDoorFound
import Derived.Test.YtpdaelcoiilkkaaDoorTym
import Derived.Deep.Strs
namespace Go.Proofs.YtpdaelcoiilkkaaDoor
open Go.ChangeShapes Go.WideShapes Go.ChangeAt Go.RowKit
open Ty (Txs)

/-- A slice of texts that came in. -/
def ArgT (w : World) (A : Option Addr) (n c : Nat) (L : List (List UInt8)) : Prop := Txs w A n L ∧ n ≤ c ∧ c ≤ maxLen ∧ (A = none → c = 0)
theorem argt_of {H : Type} {enc : TypeId × Value → H} {W : World} {a : Option Addr} {n c : Nat} {d : DataW H} {p : List MemPlace} (h : DataW.Trod enc Tryd.prog W 0 (fun _ => true) true 23 (.slice a n c) d p) : ∃ L, ArgT W a n c L := by
  obtain ⟨fuel, hf⟩ := h
  rcases Go.Deep.open_strs Tryd.underlying23 Tryd.underlying9 (by kernel_rfl) hf with ⟨hcs, _⟩ | ⟨x, l, c', m, Sx, hcs, _, hl, hm, hmm, _, hcell⟩
  · simp [Value.cells] at hcs
    obtain ⟨rfl, rfl, rfl⟩ := hcs
    exact ⟨[], ⟨rfl, fun h => absurd h (by simp)⟩, Nat.le_refl _, Nat.zero_le _, fun _ => rfl⟩
  · simp [Value.cells] at hcs
    obtain ⟨rfl, rfl, rfl⟩ := hcs
    simp at hmm
    refine ⟨(List.range n).map fun i => (Sx i).data.toList, ⟨by simp, fun h0 => ?_⟩, hl, hm, fun h => by cases h⟩
    obtain ⟨b, off, spot⟩ := x
    have hspot : spot = none := by simpa [Addr.add] using World.cell?_spot (hcell 0 (by omega)).1
    subst hspot
    refine ⟨b, off, rfl, World.block_lt_of_cell? W _ (hcell 0 (by omega)).1, fun k hk => ?_⟩
    have hk2 := (hcell k (by omega)).1
    rw [addAt] at hk2
    rw [hk2]
    have e : ((List.range n).map fun i => (Sx i).data.toList).getD k [] = (Sx k).data.toList := by
      rw [List.getD_eq_getElem?_getD, List.getElem?_map, List.getElem?_range hk]; rfl
    exact congrArg (fun s => some (Value.string s)) (show Sx k = txt (((List.range n).map fun i => (Sx i).data.toList).getD k []) by rw [e]; exact as_txt _)
theorem lawkT_any {L : List (List UInt8)} {A : Option Addr} {n c : Nat} {w : World} (ha : ArgT w A n c L) (_W : World) (hT : Tab w) :
    Calls Tryd.prog 4 #[.slice A n c] w fun e w' => e = .returned (.bool true) ∧ Below w.heap.size w w' := Ty.lawk_any ha.1 ha.2.1 ha.2.2.1 ha.2.2.2 hT
end Go.Proofs.YtpdaelcoiilkkaaDoor
