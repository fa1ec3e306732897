/- The reader's take (TOML): a byte, if it stands here. -/
import Derived.Test.YtpdaelcoiilkkaaDoorTqA
import Derived.Test.YtpdaelcoiilkkaaDoorTqR
namespace Go.Proofs.YtpdaelcoiilkkaaDoor
open Go.RowKit

section
variable {W w : World} {b : Nat} {K : Kd} {s : ByteArray} {p : Nat} {t l : List UInt8} {c : Int}
theorem ttake_yes (h : TR W b K s w p t) (hs : s = txt l) (hl : l.length ≤ 1000000) (hp : p < l.length) (hc : bt l p = c) :
    Calls Tryd.prog 88 #[.pointer (some ⟨b, 0, none⟩), .int .u8 c] w fun e w' => e = .returned (.bool true) ∧ TR W b K s w' ((p + 1 : Nat) : Int) t := by
  have HR := Lib.hid h
  obtain ⟨_, _, v, h3, _⟩ := h
  obtain ⟨c0, c1, c2, c3, cf⟩ := td_cells h3
  have f1 := cf 1
  have hsz : s.size = l.length := by rw [hs, txt_size]
  have hx := txt_at hs (k := p)
  have hz : p < s.size := by omega
  have hs1 : s.size ≤ 1000000 := by omega
  have g1 : ((p : Int) == (s.size : Int)) = false := by simp; omega
  have g2 : (bt l p != c) = false := by simp [hc]
  clear hs hl hp hc h3 cf hsz
  go_enter Tryd.func88, Tryd.ntmps88
  go_wp2_with fail
  go_quiet (fail)
  go_wp2_with fail
  go_ret
  exact ⟨rfl, by have := (HR.out.drewN nq).pos ((p + 1 : Nat) : Int); simpa using this⟩
theorem ttake_end (h : TR W b K s w p t) (hs : s = txt l) (hp : p = l.length) :
    Calls Tryd.prog 88 #[.pointer (some ⟨b, 0, none⟩), .int .u8 c] w fun e w' => e = .returned (.bool false) ∧ TR W b K s w' p t := by
  have HR := Lib.hid h
  obtain ⟨_, _, v, h3, _⟩ := h
  obtain ⟨c0, c1, c2, c3, cf⟩ := td_cells h3
  have hsz : s.size = l.length := by rw [hs, txt_size]
  have g1 : ((p : Int) == (s.size : Int)) = true := by simp; omega
  clear hs hp h3 cf hsz
  go_enter Tryd.func88, Tryd.ntmps88
  go_wp2_with fail
  go_quiet (fail)
  go_wp2_with fail
  go_ret
  exact ⟨rfl, HR.out.drewN nq⟩
theorem ttake_no (h : TR W b K s w p t) (hs : s = txt l) (hl : l.length ≤ 1000000) (hp : p < l.length) (hc : bt l p ≠ c) :
    Calls Tryd.prog 88 #[.pointer (some ⟨b, 0, none⟩), .int .u8 c] w fun e w' => e = .returned (.bool false) ∧ TR W b K s w' p t := by
  have HR := Lib.hid h
  obtain ⟨_, _, v, h3, _⟩ := h
  obtain ⟨c0, c1, c2, c3, cf⟩ := td_cells h3
  have hsz : s.size = l.length := by rw [hs, txt_size]
  have hx := txt_at hs (k := p)
  have hz : p < s.size := by omega
  have hs1 : s.size ≤ 1000000 := by omega
  have g1 : ((p : Int) == (s.size : Int)) = false := by simp; omega
  have g2 : (bt l p != c) = true := by simp [hc]
  clear hs hl hp hc h3 cf hsz
  go_enter Tryd.func88, Tryd.ntmps88
  go_wp2_with fail
  go_quiet (fail)
  go_wp2_with fail
  go_ret
  exact ⟨rfl, HR.out.drewN nq⟩
theorem ttake_any (h : TR W b K s w p t) (hs : s = txt l) (hl : l.length ≤ 1000000) (hp : p ≤ l.length) (c : Int) {B : Bool} (hB : B = tkC l p c) :
    Calls Tryd.prog 88 #[.pointer (some ⟨b, 0, none⟩), .int .u8 c] w fun e w' => e = .returned (.bool B) ∧ TR W b K s w' ((if B = true then p + 1 else p : Nat) : Int) t := by
  by_cases h1 : p < l.length
  · by_cases h2 : bt l p = c
    · have e : B = true := by rw [hB, tkC]; simp [h1, h2]
      subst e
      exact ttake_yes h hs hl h1 h2
    · have e : B = false := by rw [hB, tkC]; simp [h2]
      subst e
      exact ttake_no h hs hl h1 h2
  · have e : B = false := by rw [hB, tkC]; simp [h1]
    subst e
    have hp2 : p = l.length := by omega
    exact ttake_end h hs hp2
theorem ttake_y (c : Int) (h : TR W b K s w p t) (hs : s = txt l) (hl : l.length ≤ 1000000) (hB : tkC l p c = true) :
    Calls Tryd.prog 88 #[.pointer (some ⟨b, 0, none⟩), .int .u8 c] w fun e w' => e = .returned (.bool true) ∧ TR W b K s w' ((p + 1 : Nat) : Int) t := ttake_any h hs hl (Nat.le_of_lt (tkC_lt hB)) c hB.symm
theorem ttake_n (c : Int) (h : TR W b K s w p t) (hs : s = txt l) (hl : l.length ≤ 1000000) (hp : p ≤ l.length) (hB : tkC l p c = false) :
    Calls Tryd.prog 88 #[.pointer (some ⟨b, 0, none⟩), .int .u8 c] w fun e w' => e = .returned (.bool false) ∧ TR W b K s w' (p : Int) t := ttake_any h hs hl hp c hB.symm
end
end Go.Proofs.YtpdaelcoiilkkaaDoor
