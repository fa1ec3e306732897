/- What a law finds when it is called: the tables as the program lays them, and its slices. -/
import Derived.Test.YtllnnogdpagioaaDoorRows
import Derived.Test.YtllnnogdpagioaaDoorJoin
import Derived.ProofKit
import Derived.LaidMore
import Derived.OpenShut
import Derived.Stop.Joined
import Derived.Lib.LaidTab
import Derived.ChangeOld
namespace Go.Proofs.YtllnnogdpagioaaDoor
open Go.ChangeShapes Go.WideShapes Go.ChangeAt Go.RowKit

theorem own : ownKnob Tryd.prog.godebug = none := by kernel_rfl
theorem laidOut : laidOutB Tryd.prog = true := by kernel_rfl
theorem gHeads : Tryd.prog.globalNamed "inarch/utf8s.heads" = some 1 := by kernel_rfl
theorem gMasks : Tryd.prog.globalNamed "inarch/utf8s.masks" = some 0 := by kernel_rfl
theorem tHeads : (Tryd.prog.globals[1]?).map (·.type) = some 52 := by kernel_rfl
theorem tMasks : (Tryd.prog.globals[0]?).map (·.type) = some 52 := by kernel_rfl
/-- What the rows list. -/
def laid2 {H : Type} : List (String × DataW H) := [("inarch/utf8s.heads", Rows.laid_inarch_utf8s_heads), ("inarch/utf8s.masks", Rows.laid_inarch_utf8s_masks)]

/-- The door's own heap meets the condition. -/
theorem door_met (os : Os) (args : Array Value) : laidMetH Tryd.prog laid2 ((World.doorLaid Tryd.prog 400 os).forCall (fun _ _ => 0) ⟨#[], args, []⟩).memory :=
  laidMetH_of_parts3 (fuel := 8) (laidMet_of_run' 8 (by kernel_rfl) (by kernel_rfl)) (by kernel_rfl) (by kernel_rfl)

theorem tab_of_laid {W : World} (h : laidMetH Tryd.prog laid2 W) : Tab W := by
  rw [MakeChecks.laidMetH_plain _ _ _ (by kernel_rfl)] at h
  obtain ⟨ps, ⟨g0, t0, cs0, f0, p0, q0, hg0, ht0, hv0, hd0, ⟨g1, t1, cs1, f1, p1, q1, hg1, ht1, hv1, hd1, _, _⟩, _⟩, _, _⟩ := h
  obtain rfl := Option.some.inj (gHeads.symm.trans hg0)
  obtain rfl := Option.some.inj (gMasks.symm.trans hg1)
  obtain rfl := Option.some.inj (tHeads.symm.trans ht0)
  obtain rfl := Option.some.inj (tMasks.symm.trans ht1)
  have c5 : Tryd.prog.cellsOf 5 = 1 := by kernel_rfl
  have c52 : Tryd.prog.cellsOf 52 = 4 := by kernel_rfl
  have e0 := Lib.cells_of_tab (k := .u8) (zs := [0, 192, 224, 240]) Tryd.underlying52 Tryd.underlying5 c5 c52 hd0
  have e1 := Lib.cells_of_tab (k := .u8) (zs := [127, 31, 15, 7]) Tryd.underlying52 Tryd.underlying5 c5 c52 hd1
  have k0 : ∀ i, W.cell? ⟨1, i, none⟩ = cs0[i]? := fun i => World.var?_cell hg0 hv0 i
  have k1 : ∀ i, W.cell? ⟨0, i, none⟩ = cs1[i]? := fun i => World.var?_cell hg1 hv1 i
  have a0 : ∀ i : Nat, cs0[i]? = (([0, 192, 224, 240] : List Int).map (Value.int .u8))[i]? := fun i => by rw [← Array.getElem?_toList, e0]
  have a1 : ∀ i : Nat, cs1[i]? = (([127, 31, 15, 7] : List Int).map (Value.int .u8))[i]? := fun i => by rw [← Array.getElem?_toList, e1]
  have m0 : W.cell? ⟨1, 0, none⟩ = some (.int .u8 0) := by rw [k0, a0]; rfl
  refine ⟨⟨?_, ?_, ?_, ?_⟩, ⟨m0, ?_, ?_, ?_⟩, World.block_lt_of_cell? W _ m0⟩
  all_goals first | (rw [k1, a1]; rfl) | (rw [k0, a0]; rfl)

/-- A slice of bytes that came in. -/
theorem argb_of {H : Type} {enc : TypeId × Value → H} {W : World} {a : Option Addr} {n c : Nat} {d : DataW H} {p : List MemPlace} (h : DataW.Trod enc Tryd.prog W 0 (fun _ => true) true 22 (.slice a n c) d p) : ∃ l, ArgB W a n c l := by
  obtain ⟨fuel, hf⟩ := h
  rcases open_ints Tryd.underlying22 Tryd.underlying5 (by kernel_rfl) hf with ⟨hcs, _⟩ | ⟨x, l, c, zs, hcs, _, hl, hm, hz, _, hcell, hwz⟩
  · simp [Value.cells] at hcs
    obtain ⟨rfl, rfl, rfl⟩ := hcs
    exact ⟨[], rfl, Nat.le_refl _, Nat.zero_le _, fun h => absurd h (by simp), fun _ => rfl⟩
  · simp [Value.cells] at hcs
    obtain ⟨rfl, rfl, rfl⟩ := hcs
    simp at hz
    refine ⟨(zs.take n).map (fun x => UInt8.ofNat x.toNat), by simp; omega, hl, hm, fun h0 => ?_, fun h => by cases h⟩
    simp at h0
    obtain ⟨b, off, spot⟩ := x
    have hspot : spot = none := by simpa [Addr.add] using World.cell?_spot (hcell 0 (by omega))
    subst hspot
    refine ⟨b, off, rfl, World.block_lt_of_cell? W _ (hcell 0 (by omega)), fun k hk => ?_⟩
    simp at hk
    have hb := range_u8 hwz k
    have := hcell k (by omega)
    rw [addAt] at this
    rw [this]
    have e : bt ((zs.take n).map (fun x => UInt8.ofNat x.toNat)) k = zs.getD k 0 := by
      have hk2 : k < zs.length := by omega
      simp only [List.getElem?_eq_getElem hk2, Option.getD_some] at hb
      simp only [bt, List.getD_eq_getElem?_getD, List.getElem?_map, List.getElem?_take, show k < n by omega, if_true, List.getElem?_eq_getElem hk2, Option.map_some, Option.getD_some]
      rw [UInt8.toNat_ofNat_of_lt' (by simp [UInt8.size]; omega)]
      omega
    exact congrArg (fun x => some (Value.int .u8 x)) e.symm
theorem argn_of {H : Type} {enc : TypeId × Value → H} {W : World} {a : Option Addr} {n c : Nat} {d : DataW H} {p : List MemPlace} (h : DataW.Trod enc Tryd.prog W 0 (fun _ => true) true 27 (.slice a n c) d p) : ∃ l, ArgN W a n c l := by
  obtain ⟨fuel, hf⟩ := h
  rcases open_ints Tryd.underlying27 Tryd.underlying3 (by kernel_rfl) hf with ⟨hcs, _⟩ | ⟨x, l, c, zs, hcs, _, hl, hm, hz, _, hcell, hwz⟩
  · simp [Value.cells] at hcs
    obtain ⟨rfl, rfl, rfl⟩ := hcs
    exact ⟨[], rfl, Nat.le_refl _, Nat.zero_le _, fun h => absurd h (by simp), fun _ => rfl⟩
  · simp [Value.cells] at hcs
    obtain ⟨rfl, rfl, rfl⟩ := hcs
    simp at hz
    refine ⟨zs.take n, by simp; omega, hl, hm, fun h0 => ?_, fun h => by cases h⟩
    simp at h0
    obtain ⟨b, off, spot⟩ := x
    have hspot : spot = none := by simpa [Addr.add] using World.cell?_spot (hcell 0 (by omega))
    subst hspot
    refine ⟨b, off, rfl, World.block_lt_of_cell? W _ (hcell 0 (by omega)), fun k hk => ?_⟩
    rw [List.length_take] at hk
    have := hcell k (by omega)
    rw [addAt] at this
    rw [this]
    simp [it, show k < n by omega]
end Go.Proofs.YtllnnogdpagioaaDoor
