/- The chapter's examples, reckoned and walked. -/
import Derived.Test.YtbbcjnbpghjklaaDoorOrder
import Derived.Test.YtbbcjnbpghjklaaDoorDLess2
namespace Go.Proofs.YtbbcjnbpghjklaaDoor
open Go.RowKit

theorem ex1 : rd [45, 48, 46, 53, 48, 101, 49] = ([45, 53, 101, 48], 0) := by decide +kernel
theorem ex2 : rd [49, 50, 48, 48] = ([49, 50, 101, 50], 0) := by decide +kernel
theorem ex3 : rd [48, 46, 48] = ([48], 0) := by decide +kernel
theorem ex4 : rd [48, 49] = ([], 3) := by decide +kernel
theorem ex5 : rd [49, 46] = ([], 3) := by decide +kernel
theorem ex6 : rd [43, 49] = ([], 3) := by decide +kernel
theorem ex7 : rd [48, 101, 49, 48, 48, 48, 48, 48, 48, 48, 48, 49] = ([], 7) := by decide +kernel
theorem ex8 : (ptM [45, 49, 50, 101, 45, 49], ptD [45, 49, 50, 101, 45, 49], ptX [45, 49, 50, 101, 45, 49], norm [45, 49, 50, 101, 45, 49]) = (true, [49, 50], -1, true) := by decide +kernel
theorem ex9 : less [45, 49, 50, 101, 45, 49] [53, 101, 48] = true := by decide +kernel
theorem ex10 : less [53, 101, 48] [45, 49, 50, 101, 45, 49] = false := by decide +kernel

set_option maxHeartbeats 1000000 in
/-- The law's own 'read', by the right code. -/
theorem lread_any {l t : List UInt8} {c : Int} {s : ByteArray} (w : World) (htab : Tab w) (hs : s = txt l) (hm : l.length ≤ 1000000) (hr : rd l = (t, c)) :
    Calls Tryd.prog 17 #[.string s, .int .i64 c] w fun e w' => e = .returned (.string (txt t)) ∧ Below w.heap.size w w' := by
  have R := dread_any (l := l) w htab hs hm
  rw [hr] at R
  replace R := Lib.hid R
  clear hs hm hr
  go_enter Tryd.func17, Tryd.ntmps17
  go_wp2_with fail
  refine R.out.mono ?_
  rintro e w1 ⟨rfl, hb⟩
  have HB := Lib.hid hb
  clear hb
  go_wp2_with fail
  go_ret
  exact ⟨rfl, HB.out⟩
end Go.Proofs.YtbbcjnbpghjklaaDoor
