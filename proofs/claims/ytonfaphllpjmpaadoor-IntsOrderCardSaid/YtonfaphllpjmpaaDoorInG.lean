/- FormatInt and FormatUint at bases 16, 8, 2, walked: the text of the digits. -/
import Derived.Test.YtonfaphllpjmpaaDoorInF
namespace Go.Proofs.YtonfaphllpjmpaaDoor
open Go.RowKit

theorem Deb.below {w w' : World} (D : Deb w) (h : Below w.heap.size w w') : Deb w' := by
  have lt : 7 < w.heap.size := by
    have := D.c1
    rcases Nat.lt_or_ge 7 w.heap.size with h | h
    · exact h
    · rw [World.cell?, Array.getElem?_eq_none h] at this; cases this
  exact ⟨(h.cell (p := ⟨_, 1, none⟩) lt).trans D.c1, (h.cell (p := ⟨_, 7, none⟩) lt).trans D.c7, (h.cell (p := ⟨_, 15, none⟩) lt).trans D.c15⟩
/-- The row of 65 bytes in the block behind w's: from m on it holds L. -/
structure FR (w wr : World) (m : Nat) (L : List UInt8) : Prop where
  below : Below w.heap.size w wr
  lt : w.heap.size < wr.heap.size
  row : ∀ q, q < 65 → ∃ v, wr.cell? ⟨w.heap.size, q, none⟩ = some (.int .u8 v)
  free : ∀ q, wr.frozen? ⟨w.heap.size, q, none⟩ = false
  len : m + L.length = 65
  at_ : ∀ k, k < L.length → wr.cell? ⟨w.heap.size, m + k, none⟩ = some (.int .u8 (bt L k))
section
variable {w wr : World} {m : Nat} {L : List UInt8}
theorem FR.drew (h : FR w wr m L) : FR w wr.drew m L := ⟨h.below.drew, h.lt, h.row, h.free, h.len, h.at_⟩
theorem FR.new (cs : Array Value) (T : TypeId) (hc : cs = Array.replicate 65 (.int .u8 0)) : FR w (w.alloc (.cells cs T)) 65 [] := by
  refine ⟨(Below.refl _ w).alloc (Nat.le_refl _) _, by simp, fun q hq => ⟨0, ?_⟩, fun q => World.frozen?_alloc_new _ _ _ _, rfl, fun k hk => absurd hk (by simp)⟩
  rw [World.cell?_alloc_new, hc, Array.getElem?_replicate, if_pos hq]
theorem FR.set (h : FR w wr (m + 1) L) (c : UInt8) {v : Int} (hv : v = (c.toNat : Int)) : FR w (wr.setCell ⟨w.heap.size, m, none⟩ (.int .u8 v)) m (c :: L) := by
  have hl := h.len
  obtain ⟨v0, h0⟩ := h.row m (by omega)
  have hs := h.lt
  refine ⟨h.below.setCell (Nat.le_refl _) _, by simpa using hs, fun q hq => ?_, fun q => ?_, by simp; omega, fun k hk => ?_⟩
  · by_cases e : q = m
    · subst e; exact ⟨v, World.cell?_setCell_same _ _ _ h0⟩
    · rw [World.cell?_setCell_other _ _ _ _ (by simp)]; exact h.row q hq
  · rw [World.frozen?_setCell]; exact h.free q
  · cases k with
    | zero => rw [Nat.add_zero, World.cell?_setCell_same _ _ _ h0, hv]; simp [bt]
    | succ k =>
      rw [World.cell?_setCell_other _ _ _ _ (by simp), show m + (k + 1) = m + 1 + k by omega, h.at_ k (by simpa using hk)]
      simp [bt]
theorem FR.byt (h : FR w wr m L) : Byt wr wr.heap.size (some ⟨w.heap.size, m, none⟩) L := fun _ => ⟨_, m, rfl, h.lt, h.at_⟩
end
/-- The signs of all digits, in their order. -/
def D36 : ByteArray := ⟨#[48, 49, 50, 51, 52, 53, 54, 55, 56, 57, 97, 98, 99, 100, 101, 102, 103, 104, 105, 106, 107, 108, 109, 110, 111, 112, 113, 114, 115, 116, 117, 118, 119, 120, 121, 122]⟩
theorem D36_at : ∀ i : Fin 16, D36.data.toList.getD i.val 0 = In.ch i.val := by decide +kernel
theorem D36_size : D36.size = 36 := by decide +kernel
theorem idx36 (k : IntKind) (y : Int) (i : Nat) (hy : y = (i : Int)) (hi : i < 16) (W : World) : (Instr.index 9 (.string D36) (.int k y)).run Tryd.prog W = .ok (.int .u8 ((In.ch i).toNat : Int)) W := by
  subst hy
  rw [run_index_string W 9 D36 k _ Tryd.underlying9, dif_pos ⟨by omega, by rw [D36_size]; omega⟩]
  have e : ((i : Int)).toNat = i := by omega
  simp only [e]
  have h1 : D36[i]'(by rw [D36_size]; omega) = D36.data.toList.getD i 0 := by
    have h' : i < D36.data.toList.length := by rw [Array.length_toList]; show i < D36.size; rw [D36_size]; omega
    rw [List.getD, List.getElem?_eq_getElem h']
    simp
    rfl
  rw [h1, D36_at ⟨i, hi⟩]
theorem and64 (x i : Nat) (hx : x < 18446744073709551616) (hi : i ≤ 4) : bits .and .u64 (x : Int) ((2 ^ i - 1 : Nat) : Int) = ((x % 2 ^ i : Nat) : Int) := by
  have h2 : 2 ^ i ≤ 2 ^ 4 := Nat.pow_le_pow_right (by omega) hi
  rw [bits_and_u64_nat x _ hx (by omega), Nat.and_two_pow_sub_one_eq_mod]
theorem sl65 (B p : Nat) (hp : p ≤ 64) (W : World) : (Instr.sliceAt 94 (.pointer (some ⟨B, 0, none⟩)) (some (.int .i64 p)) none none).run Tryd.prog W = .ok (.slice (some ⟨B, p, none⟩) (65 - p) (65 - p)) W := by
  have hal : Tryd.prog.arrayLen 94 = 65 := by kernel_rfl
  rw [run_sliceAt_array_l W 94 ⟨B, 0, none⟩ (by kernel_rfl) .i64 p (by omega) (by rw [hal]; omega)]
  rw [hal]
  go_simp
  omega
end Go.Proofs.YtonfaphllpjmpaaDoor
