/- The law TquotesWrite, walked. -/
import Derived.Test.YtleddmcofciglaaDoorTqLv
import Derived.Test.YtleddmcofciglaaDoorTqRw
namespace Go.Proofs.YtleddmcofciglaaDoor
open Go.RowKit

theorem as_txt (s : ByteArray) : s = txt s.data.toList := by apply ByteArray.ext; simp [txt]
theorem as_len (s : ByteArray) : s.data.toList.length = s.size := by rw [Array.length_toList]; rfl
theorem twrite_is {l : List UInt8} {s x : ByteArray} (w : World) (hs : s = txt l) (hl : l.length ≤ 1000000) (hx : x = txt (Tq.wr l)) (hT : Tab w) :
    Calls Tryd.prog 7 #[.string s] w fun e w' => e = .returned (.string x) ∧ Below w.heap.size w w' := hx ▸ twrite_any w hs hl hT.1 hT.2
theorem trwrite_is {l : List UInt8} {s x : ByteArray} (w : World) (hs : s = txt l) (hl : l.length ≤ 1000000) (hx : x = txt (Tq.wr l)) :
    Calls Tryd.prog 8 #[.string s] w fun e w' => e = .returned (.string x) ∧ Below w.heap.size w w' := hx ▸ trwrite_any w hs hl
set_option maxHeartbeats 2000000 in
theorem lawwrite_any (s : ByteArray) (w : World) (hT : Tab w) : Calls Tryd.prog 3 #[.string s] w fun e w' => e = .returned (.bool true) ∧ Below w.heap.size w w' := by
  have HL := Lib.hid lives_any
  have HT := Lib.hid hT
  clear hT
  by_cases h : s.size ≤ 2000
  · obtain ⟨x, hx⟩ : ∃ x, x = txt (Tq.wr s.data.toList) := ⟨_, rfl⟩
    have HX := Lib.hid hx
    have HS := Lib.hid (as_len s)
    clear hx
    go_enter Tryd.func3, Tryd.ntmps3
    go_wp2_with fail
    refine (twrite_is _ (as_txt s) (by have := HS.out; omega) HX.out HT.out).mono ?_
    rintro e w1 ⟨rfl, hb⟩
    have HB1 := Lib.hid hb
    clear hb
    go_wp2_with fail
    refine (trwrite_is _ (as_txt s) (by have := HS.out; omega) HX.out).mono ?_
    rintro e w2 ⟨rfl, hb⟩
    have HB2 := Lib.hid (below_tr HB1.out hb)
    clear hb
    go_wp2_with fail
    refine (HL.out _ (HT.out.below HB2.out)).mono ?_
    rintro e w3 ⟨rfl, hb⟩
    have HB3 := Lib.hid (below_tr HB2.out hb)
    clear hb
    go_wp2_with fail
    go_ret
    exact ⟨rfl, HB3.out⟩
  · have h2 : (2000 : Int) < s.size := by omega
    go_enter Tryd.func3, Tryd.ntmps3
    go_wp2_with fail
    refine (HL.out _ HT.out).mono ?_
    rintro e w1 ⟨rfl, hb⟩
    have HB1 := Lib.hid hb
    clear hb
    go_wp2_with fail
    go_ret
    exact ⟨rfl, HB1.out⟩
end Go.Proofs.YtleddmcofciglaaDoor
