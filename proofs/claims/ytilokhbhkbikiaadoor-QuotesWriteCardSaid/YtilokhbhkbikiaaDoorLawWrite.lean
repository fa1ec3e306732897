/- The law QuotesWrite, walked. -/
import Derived.Test.YtilokhbhkbikiaaDoorLawLives
import Derived.Test.YtilokhbhkbikiaaDoorRWr
namespace Go.Proofs.YtilokhbhkbikiaaDoor
open Go.RowKit

theorem rwrite_is {l : List UInt8} {s x : ByteArray} (w : World) (hs : s = txt l) (hl : l.length ≤ 1000000) (hx : x = txt (Qu.wrq l)) :
    Calls Tryd.prog 12 #[.string s] w fun e w' => e = .returned (.string x) ∧ Below w.heap.size w w' := hx ▸ rwrite_any w hs hl
set_option maxHeartbeats 2000000 in
theorem lawwrite_any (s : ByteArray) (w : World) (hT : Tab w) : Calls Tryd.prog 4 #[.string s] w fun e w' => e = .returned (.bool true) ∧ Below w.heap.size w w' := by
  have HL := Lib.hid lives_any
  have HT := Lib.hid hT
  clear hT
  by_cases h : s.size ≤ 2000
  · obtain ⟨x, hx⟩ : ∃ x, x = txt (Qu.wrq s.data.toList) := ⟨_, rfl⟩
    have HX := Lib.hid hx
    have HS := Lib.hid (as_len s)
    clear hx
    go_enter Tryd.func4, Tryd.ntmps4
    go_wp2_with fail
    refine (qwrite_is _ (as_txt s) (by have := HS.out; omega) HX.out HT.out).mono ?_
    rintro e w1 ⟨rfl, hb⟩
    have HB1 := Lib.hid hb
    clear hb
    go_wp2_with fail
    refine (rwrite_is _ (as_txt s) (by have := HS.out; omega) HX.out).mono ?_
    rintro e w2 ⟨rfl, hb⟩
    have HB2 := Lib.hid (HB1.out.trans (hb.mono HB1.out.size))
    clear hb
    go_wp2_with fail
    refine (HL.out _ (HT.out.below HB2.out)).mono ?_
    rintro e w3 ⟨rfl, hb⟩
    have HB3 := Lib.hid (HB2.out.trans (hb.mono HB2.out.size))
    clear hb
    go_wp2_with fail
    go_ret
    exact ⟨rfl, HB3.out⟩
  · have h2 : (2000 : Int) < s.size := by omega
    go_enter Tryd.func4, Tryd.ntmps4
    go_wp2_with fail
    refine (HL.out _ HT.out).mono ?_
    rintro e w1 ⟨rfl, hb⟩
    have HB1 := Lib.hid hb
    clear hb
    go_wp2_with fail
    go_ret
    exact ⟨rfl, HB1.out⟩
end Go.Proofs.YtilokhbhkbikiaaDoor
