/- What landed: the texts of first bytes, as tests. -/
import Derived.Test.YtfnahondlcbjnaaUa
import Derived.Test.YtfnahondlcbjnaaShelf
namespace Go.Proofs.Ytfnahondlcbjnaa
open Go.RowKit
namespace Jk

theorem fp_of {L : List UInt8} {F : ByteArray} {p : Int → Bool} (hF : F.data.toList = L) (h : (p 0 == false && (List.range 256).all (fun n => decide ((decide (0 ≤ Lib.indexByte L (UInt8.ofNat n)) = p (n : Int)) ∧ -1 ≤ Lib.indexByte L (UInt8.ofNat n) ∧ Lib.indexByte L (UInt8.ofNat n) ≤ 1000))) = true) : FP F p := by
  rw [Bool.and_eq_true, beq_iff_eq] at h
  refine ⟨h.1, fun c h0 h1 => ?_⟩
  obtain ⟨n, rfl⟩ : ∃ n : Nat, c = n := ⟨c.toNat, by omega⟩
  obtain ⟨e1, e2, e3⟩ := of_decide_eq_true ((List.all_eq_true.1 h.2) n (List.mem_range.2 (by omega)))
  refine ⟨_, e1, e2, e3, fun w => ?_⟩
  refine (Try.strings_IndexByte F n w).mono ?_
  rintro e w' ⟨rfl, rfl⟩
  rw [hF]
  exact ⟨rfl, rfl⟩
theorem forms_ok : Forms where
  blanks := fp_of rfl (by decide +kernel)
  marks := fp_of rfl (by decide +kernel)
  letters := fp_of rfl (by decide +kernel)
  nums := fp_of rfl (by decide +kernel)
  digits := fp_of rfl (by decide +kernel)
  quote := fp_of rfl (by decide +kernel)
  minus := fp_of rfl (by decide +kernel)
  nought := fp_of rfl (by decide +kernel)
  point := fp_of rfl (by decide +kernel)
  exps := fp_of rfl (by decide +kernel)
  signs := fp_of rfl (by decide +kernel)
  escs := fp_of rfl (by decide +kernel)
  u := fp_of rfl (by decide +kernel)
  figs := fp_of rfl (by decide +kernel)
end Jk
end Go.Proofs.Ytfnahondlcbjnaa
