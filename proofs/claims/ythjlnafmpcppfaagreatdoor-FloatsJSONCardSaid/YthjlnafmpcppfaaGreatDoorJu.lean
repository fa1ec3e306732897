/- FormatInt at base 10 over lists: the library's table of powers, a normal form. -/
import Derived.Test.YthjlnafmpcppfaaGreatDoorShelf
import Derived.Test.YthjlnafmpcppfaaGreatDoorJJ
import Derived.Sort.Grow
namespace Go.Proofs.YthjlnafmpcppfaaGreatDoor.II
open Go.RowKit

/-- The library's table of powers lies as its text lays it. -/
def Tab10 (w : World) : Prop := Lib.TabIs Tryz.prog w "internal/strconv.uint64pow10" .u64 Lib.pow10Tab
theorem gPow : Tryz.prog.globalNamed "internal/strconv.uint64pow10" = some 2 := by kernel_rfl
theorem Tab10.below {w w' : World} (h : Tab10 w) (hb : Below w.heap.size w w') : Tab10 w' := by
  unfold Tab10 Lib.TabIs World.var? at h ⊢
  rw [gPow] at h ⊢
  simp only [Option.bind_some] at h ⊢
  have hlt : 2 < w.heap.size := by
    rcases Nat.lt_or_ge 2 w.heap.size with h' | h'
    · exact h'
    · rw [Array.getElem?_eq_none h'] at h; cases h
  rw [hb.block _ hlt]
  exact h
theorem dN_dec (n : Nat) : In.dN 10 n = Lib.decDigits n := by
  induction n using Nat.strongRecOn with
  | ind n ih =>
    rw [Lib.decDigits]
    by_cases h : n < 10
    · rw [dif_pos h, In.dN_lt h, In.ch_ten h]
    · rw [dif_neg h, In.dN_ge (by omega) (by omega), ih (n / 10) (by omega), In.ch_ten (Nat.mod_lt _ (by omega))]
theorem nfI_itoa (n : Int) : In.nfI n = Lib.itoa n := by
  unfold In.nfI Lib.itoa
  rw [dN_dec, dN_dec]
  by_cases h : n < 0
  · rw [if_pos h, if_pos h, show (-n).toNat = n.natAbs by omega]
  · rw [if_neg h, if_neg h]
theorem fint10_any {n : Int} (h : In.fits n) (w : World) (ht : Tab10 w) :
    Calls Tryz.prog 60 #[.int .i64 n, .int .i64 10] w fun e w' => e = .returned (.string (txt (In.nfI n))) ∧ Below w.heap.size w w' := by
  refine (Tryz.strconv_FormatInt_10 n h.1 h.2 w ht).mono ?_
  rintro e w' ⟨rfl, k, os, rfl⟩
  exact ⟨by rw [nfI_itoa]; rfl, ⟨rfl, rfl, rfl, by simp [Sort.grow], fun j hj => Sort.heap_grow_old _ _ hj⟩⟩
end Go.Proofs.YthjlnafmpcppfaaGreatDoor.II
