/- The reader's opening, and line's ends (TOML). -/
import Derived.Test.YtpdaelcoiilkkaaDoorTqT
namespace Go.Proofs.YtpdaelcoiilkkaaDoor
open Go.RowKit

section
variable {W w : World} {b : Nat} {K : Kd} {s : ByteArray} {p : Nat} {t l : List UInt8}
theorem topen_any (h : TR W b K s w p t) (hs : s = txt l) (hl : l.length ≤ 1000000) (hB : tkC l p K.m = true) :
    Calls Tryd.prog 86 #[.pointer (some ⟨b, 0, none⟩)] w fun e w' => e = .returned (.tuple #[]) ∧ TR W b K s w' ((p + 1 : Nat) : Int) t := by
  have HR := Lib.hid h
  have HS := Lib.hid hs
  have HL := Lib.hid hl
  have HB := Lib.hid hB
  obtain ⟨_, _, v, h3, _⟩ := h
  obtain ⟨c0, c1, c2, c3, cf⟩ := td_cells h3
  clear hs hl hB h3 cf c0 c1 c3
  go_enter Tryd.func86, Tryd.ntmps86
  go_wp2_with fail
  refine (ttake_y K.m HR.out HS.out HL.out HB.out).mono ?_
  rintro e w1 ⟨rfl, R1⟩
  have HR1 := Lib.hid R1
  clear R1
  go_wp2_with fail
  refine bodyPost_end (results_none Tryd.results86 _ _ _) rfl ?_
  exact ⟨rfl, HR1.out⟩
theorem tlineEnd_any (h : TR W b K s w p t) (hs : s = txt l) (hl : l.length ≤ 1000000) (hp : p ≤ l.length) {B : Bool} (hB : B = leB l p) :
    Calls Tryd.prog 87 #[.pointer (some ⟨b, 0, none⟩)] w fun e w' => e = .returned (.bool B) ∧ TR W b K s w' ((leP l p : Nat) : Int) t := by
  have HR := Lib.hid h
  have HS := Lib.hid hs
  have HL := Lib.hid hl
  have HP := Lib.hid hp
  obtain ⟨e1, e2⟩ := le_tk l p
  rw [← hB] at e1 e2
  have HB := Lib.hid e1
  have HE := Lib.hid e2
  clear h hs hl hp hB e1 e2
  cases h13 : tkC l p 13
  · have H := Lib.hid h13
    have HB1 : Hid (tkC l p 10 = B) := by have := HB.out; rw [h13] at this; exact this.symm
    have HE1 : Hid (leP l p = if B = true then p + 1 else p) := by have := HE.out; rw [h13] at this; exact this
    clear h13 HB HE
    go_enter Tryd.func87, Tryd.ntmps87
    go_wp2_with fail
    refine (ttake_n 13 HR.out HS.out HL.out HP.out H.out).mono ?_
    rintro e w1 ⟨rfl, R1⟩
    have HR1 := Lib.hid R1
    clear R1
    go_wp2_with fail
    refine (ttake_any HR1.out HS.out HL.out HP.out 10 HB1.out.symm).mono ?_
    rintro e w2 ⟨rfl, R2⟩
    have HR2 := Lib.hid R2
    clear R2
    go_wp2_with fail
    go_ret
    exact ⟨rfl, by rw [HE1.out]; exact HR2.out⟩
  · have H := Lib.hid h13
    have HQ := Lib.hid (tkC_lt h13)
    have HB1 : Hid (tkC l (p + 1) 10 = B) := by have := HB.out; rw [h13] at this; exact this.symm
    have HE1 : Hid (leP l p = if B = true then p + 1 + 1 else p + 1) := by have := HE.out; rw [h13] at this; exact this
    clear h13 HB HE
    go_enter Tryd.func87, Tryd.ntmps87
    go_wp2_with fail
    refine (ttake_y 13 HR.out HS.out HL.out H.out).mono ?_
    rintro e w1 ⟨rfl, R1⟩
    have HR1 := Lib.hid R1
    clear R1
    go_wp2_with fail
    refine (ttake_any HR1.out HS.out HL.out HQ.out 10 HB1.out.symm).mono ?_
    rintro e w2 ⟨rfl, R2⟩
    have HR2 := Lib.hid R2
    clear R2
    go_wp2_with fail
    go_ret
    exact ⟨rfl, by rw [HE1.out]; exact HR2.out⟩
end
end Go.Proofs.YtpdaelcoiilkkaaDoor
