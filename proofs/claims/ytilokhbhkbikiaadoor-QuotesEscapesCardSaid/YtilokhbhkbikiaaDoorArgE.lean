/- A slice of numbers that came in, and the law QuotesEscapes at it. -/
import Derived.Test.YtilokhbhkbikiaaDoorFound
import Derived.Test.YtilokhbhkbikiaaDoorLawEsc
namespace Go.Proofs.YtilokhbhkbikiaaDoor
open Go.ChangeShapes Go.WideShapes Go.ChangeAt Go.RowKit

theorem argn_of {H : Type} {enc : TypeId × Value → H} {W : World} {a : Option Addr} {n c : Nat} {d : DataW H} {p : List MemPlace} (h : DataW.Trod enc Tryd.prog W 0 (fun _ => true) true 32 (.slice a n c) d p) : ∃ l, ArgN W a n c l := by
  obtain ⟨fuel, hf⟩ := h
  rcases open_ints Tryd.underlying32 Tryd.underlying3 (by kernel_rfl) hf with ⟨hcs, _⟩ | ⟨x, l, c, zs, hcs, _, hl, hm, hz, _, hcell, hwz⟩
  · simp [Value.cells] at hcs
    obtain ⟨rfl, rfl, rfl⟩ := hcs
    exact ⟨[], rfl, Nat.le_refl _, Nat.zero_le _, fun h => absurd h (by simp), fun _ => rfl⟩
  · simp [Value.cells] at hcs
    obtain ⟨rfl, rfl, rfl⟩ := hcs
    simp at hz
    refine ⟨zs.take n, by simp; omega, hl, hm, fun h0 => ?_, fun h => by cases h⟩
    simp at h0
    obtain ⟨b, off, spot⟩ := x
    have hspot : spot = none := by simpa [Addr.add] using World.cell?_spot (hcell 0 (by omega))
    subst hspot
    refine ⟨b, off, rfl, World.block_lt_of_cell? W _ (hcell 0 (by omega)), fun k hk => ?_⟩
    rw [List.length_take] at hk
    have := hcell k (by omega)
    rw [addAt] at this
    rw [this]
    simp [it, show k < n by omega]
theorem lawescn_any {l : List Int} {A : Option Addr} {n c : Nat} {w : World} (ha : ArgN w A n c l) (u : Bool) (_w : World) (hT : Tab w) : Calls Tryd.prog 6 #[.slice A n c, .bool u] w fun e w' => e = .returned (.bool true) ∧ Below w.heap.size w w' := lawesc_any u w ha hT
end Go.Proofs.YtilokhbhkbikiaaDoor
