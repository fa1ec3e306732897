/- The reader's take: a byte, if it stands here. -/
import Derived.Test.YtilokhbhkbikiaaDoorRdr
namespace Go.Proofs.YtilokhbhkbikiaaDoor
open Go.RowKit

section
variable {W w : World} {b : Nat} {s : ByteArray} {p : Nat} {t l : List UInt8} {c : Int}
theorem take_yes (h : RS W b s w p t) (hs : s = txt l) (hl : l.length ≤ 1000000) (hp : p < l.length) (hc : bt l p = c) :
    Calls Tryd.prog 26 #[.pointer (some ⟨b, 0, none⟩), .int .u8 c] w fun e w' => e = .returned (.bool true) ∧ RS W b s w' ((p + 1 : Nat) : Int) t := by
  have HR := Lib.hid h
  obtain ⟨_, _, v, h3, _⟩ := h
  obtain ⟨c0, c1, c2, cf⟩ := rd_cells h3
  have f1 := cf 1
  have hsz : s.size = l.length := by rw [hs, txt_size]
  have hx := txt_at hs (k := p)
  have hz : p < s.size := by omega
  have hs1 : s.size ≤ 1000000 := by omega
  have g1 : ((p : Int) == (s.size : Int)) = false := by simp; omega
  have g2 : (bt l p != c) = false := by simp [hc]
  clear hs hl hp hc h3 cf hsz
  go_enter Tryd.func26, Tryd.ntmps26
  go_wp2_with fail
  go_quiet (fail)
  go_wp2_with fail
  go_ret
  exact ⟨rfl, by have := (HR.out.drewN nq).pos ((p + 1 : Nat) : Int); simpa using this⟩
theorem take_end (h : RS W b s w p t) (hs : s = txt l) (hp : p = l.length) :
    Calls Tryd.prog 26 #[.pointer (some ⟨b, 0, none⟩), .int .u8 c] w fun e w' => e = .returned (.bool false) ∧ RS W b s w' p t := by
  have HR := Lib.hid h
  obtain ⟨_, _, v, h3, _⟩ := h
  obtain ⟨c0, c1, c2, cf⟩ := rd_cells h3
  have hsz : s.size = l.length := by rw [hs, txt_size]
  have g1 : ((p : Int) == (s.size : Int)) = true := by simp; omega
  clear hs hp h3 cf hsz
  go_enter Tryd.func26, Tryd.ntmps26
  go_wp2_with fail
  go_quiet (fail)
  go_wp2_with fail
  go_ret
  exact ⟨rfl, HR.out.drewN nq⟩
theorem take_no (h : RS W b s w p t) (hs : s = txt l) (hl : l.length ≤ 1000000) (hp : p < l.length) (hc : bt l p ≠ c) :
    Calls Tryd.prog 26 #[.pointer (some ⟨b, 0, none⟩), .int .u8 c] w fun e w' => e = .returned (.bool false) ∧ RS W b s w' p t := by
  have HR := Lib.hid h
  obtain ⟨_, _, v, h3, _⟩ := h
  obtain ⟨c0, c1, c2, cf⟩ := rd_cells h3
  have hsz : s.size = l.length := by rw [hs, txt_size]
  have hx := txt_at hs (k := p)
  have hz : p < s.size := by omega
  have hs1 : s.size ≤ 1000000 := by omega
  have g1 : ((p : Int) == (s.size : Int)) = false := by simp; omega
  have g2 : (bt l p != c) = true := by simp [hc]
  clear hs hl hp hc h3 cf hsz
  go_enter Tryd.func26, Tryd.ntmps26
  go_wp2_with fail
  go_quiet (fail)
  go_wp2_with fail
  go_ret
  exact ⟨rfl, HR.out.drewN nq⟩
/-- Whether the byte is taken, and where it then stands. -/
def tkB (l : List UInt8) (p : Nat) (c : Int) : Bool := decide (p < l.length ∧ bt l p = c)
theorem take_any (h : RS W b s w p t) (hs : s = txt l) (hl : l.length ≤ 1000000) (hp : p ≤ l.length) (c : Int) {B : Bool} (hB : B = tkB l p c) :
    Calls Tryd.prog 26 #[.pointer (some ⟨b, 0, none⟩), .int .u8 c] w fun e w' => e = .returned (.bool B) ∧ RS W b s w' ((if B = true then p + 1 else p : Nat) : Int) t := by
  by_cases h1 : p < l.length
  · by_cases h2 : bt l p = c
    · have e : B = true := by rw [hB, tkB]; simp [h1, h2]
      subst e
      exact take_yes h hs hl h1 h2
    · have e : B = false := by rw [hB, tkB]; simp [h2]
      subst e
      exact take_no h hs hl h1 h2
  · have e : B = false := by rw [hB, tkB]; simp [h1]
    subst e
    have hp2 : p = l.length := by omega
    exact take_end h hs hp2
end
end Go.Proofs.YtilokhbhkbikiaaDoor
