/- A list's bytes behind a place. -/
import Derived.Test.YtpdaelcoiilkkaaDoorTqB
import Derived.Test.YtpdaelcoiilkkaaDoorBase
namespace Go.Proofs.YtpdaelcoiilkkaaDoor
open Go.RowKit

theorem drop_bt {l : List UInt8} {i : Nat} (h : i < l.length) : ∃ c, l.drop i = c :: l.drop (i + 1) ∧ bt l i = (c.toNat : Int) :=
  ⟨l[i], List.drop_eq_getElem_cons h, by simp [bt, h]⟩
theorem toNat_ne {c d : UInt8} (h : c ≠ d) : ¬ ((c.toNat : Int) = (d.toNat : Int)) := fun e => h (UInt8.toNat_inj.mp (by omega))
end Go.Proofs.YtpdaelcoiilkkaaDoor
