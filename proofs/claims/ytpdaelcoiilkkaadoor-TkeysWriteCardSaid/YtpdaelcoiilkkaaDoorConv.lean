/- Bytes as a text. -/
import Derived.Test.YtpdaelcoiilkkaaDoorProg
import Derived.Test.YtpdaelcoiilkkaaDoorBase
import Derived.Laws.BytesArg
namespace Go.Proofs.YtpdaelcoiilkkaaDoor
open Go.RowKit

theorem bytesOf_bt (l : List UInt8) : ((List.range l.length).map (bt l)).map (fun n => UInt8.ofNat n.toNat) = l := by
  apply List.ext_getElem
  · simp
  · intro i h1 h2
    simp [bt, h2]
theorem strOf_bt (l : List UInt8) : strOfNums ((List.range l.length).map (bt l)) = txt l := by
  unfold strOfNums txt
  rw [bytesOf_bt]
theorem conv_bytes {l : List UInt8} {B : Nat} {A : Option Addr} (n c : Nat) {w : World} (hn : n = l.length) (hA : Byt w B A l) : (convert 49 9 (.slice A n c)).run Tryd.prog w = .ok (.string (txt l)) w := by
  subst hn
  by_cases h : 0 < l.length
  · obtain ⟨b, off, rfl, _, hc⟩ := hA.at_ h
    have := run_convert_bytes_arg (P := Tryd.prog) w 49 5 Tryd.underlying49 Tryd.underlying5 b off l.length c ((List.range l.length).map (bt l)) (by simp) (fun i hi => by rw [hc i hi]; simp [hi]) 9 Tryd.underlying9
    rw [strOf_bt] at this
    exact this
  · obtain rfl : l = [] := List.eq_nil_of_length_eq_zero (by omega)
    show (convert 49 9 (.slice A 0 c)).run Tryd.prog w = _
    rw [run_convert_bytes_string w 49 9 5 _ 0 c Tryd.underlying49 Tryd.underlying5 Tryd.underlying9]
    cases A <;> simp [Conv.bytesToString, loadCells]
    all_goals rfl
end Go.Proofs.YtpdaelcoiilkkaaDoor
