/- What a law finds when it is called: its slices of bytes. -/
import Derived.Test.YtfnahondlcbjnaaRows
import Derived.Test.YtfnahondlcbjnaaWb
import Derived.ProofKit
import Derived.OpenShut
import Derived.ChangeOld
namespace Go.Proofs.Ytfnahondlcbjnaa
open Go.ChangeShapes Go.WideShapes Go.ChangeAt Go.RowKit
namespace Jk

theorem own : ownKnob Try.prog.godebug = none := by kernel_rfl
theorem laidOut : laidOutB Try.prog = true := by kernel_rfl
/-- A slice of bytes that came in. -/
theorem argb_of {H : Type} {enc : TypeId × Value → H} {W : World} {a : Option Addr} {n c : Nat} {d : DataW H} {p : List MemPlace} (h : DataW.Trod enc Try.prog W 0 (fun _ => true) true 22 (.slice a n c) d p) : ∃ l, ArgB W a n c l := by
  obtain ⟨fuel, hf⟩ := h
  rcases open_ints Try.underlying22 Try.underlying5 (by kernel_rfl) hf with ⟨hcs, _⟩ | ⟨x, l, c, zs, hcs, _, hl, hm, hz, _, hcell, hwz⟩
  · simp [Value.cells] at hcs
    obtain ⟨rfl, rfl, rfl⟩ := hcs
    exact ⟨[], rfl, Nat.le_refl _, Nat.zero_le _, fun h => absurd h (by simp), fun _ => rfl⟩
  · simp [Value.cells] at hcs
    obtain ⟨rfl, rfl, rfl⟩ := hcs
    simp at hz
    refine ⟨(zs.take n).map (fun x => UInt8.ofNat x.toNat), by simp; omega, hl, hm, fun h0 => ?_, fun h => by cases h⟩
    simp at h0
    obtain ⟨b, off, spot⟩ := x
    have hspot : spot = none := by simpa [Addr.add] using World.cell?_spot (hcell 0 (by omega))
    subst hspot
    refine ⟨b, off, rfl, World.block_lt_of_cell? W _ (hcell 0 (by omega)), fun k hk => ?_⟩
    simp at hk
    have hb := range_u8 hwz k
    have := hcell k (by omega)
    rw [addAt] at this
    rw [this]
    have e : bt ((zs.take n).map (fun x => UInt8.ofNat x.toNat)) k = zs.getD k 0 := by
      have hk2 : k < zs.length := by omega
      simp only [List.getElem?_eq_getElem hk2, Option.getD_some] at hb
      simp only [bt, List.getD_eq_getElem?_getD, List.getElem?_map, List.getElem?_take, show k < n by omega, if_true, List.getElem?_eq_getElem hk2, Option.map_some, Option.getD_some]
      rw [UInt8.toNat_ofNat_of_lt' (by simp [UInt8.size]; omega)]
      omega
    exact congrArg (fun x => some (Value.int .u8 x)) e.symm
end Jk
end Go.Proofs.Ytfnahondlcbjnaa
