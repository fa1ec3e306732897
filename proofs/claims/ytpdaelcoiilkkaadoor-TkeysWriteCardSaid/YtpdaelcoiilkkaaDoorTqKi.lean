/- Which string begins at a place; what the reader answers (TOML). -/
import Derived.Test.YtpdaelcoiilkkaaDoorTqZ
import Derived.Test.YtpdaelcoiilkkaaDoorConv
namespace Go.Proofs.YtpdaelcoiilkkaaDoor
open Go.RowKit

def KLB : Kd := ⟨92, 34, 34, by decide, by decide⟩
def KLL : Kd := ⟨94, 39, 39, by decide, by decide⟩
def KBA : Kd := ⟨96, 34, 34, by decide, by decide⟩
def KLI : Kd := ⟨98, 39, 39, by decide, by decide⟩
theorem TR.new (w : World) (K : Kd) (s : ByteArray) (p : Int) : TR w w.heap.size K s (w.alloc (tdo K s p (.slice none 0 0))) p [] :=
  ⟨(Below.refl _ _).alloc (Nat.le_refl _) _, Nat.le_refl _, _, heap_alloc_new _ _, rfl, .inl ⟨rfl, rfl⟩⟩
section
variable {l : List UInt8} {s : ByteArray} {p : Nat}
set_option maxHeartbeats 1000000 in
set_option maxRecDepth 100000 in
theorem tqa_KLB (w : World) (hs : s = txt l) (hl : l.length ≤ 1000000) (hp : p ≤ l.length) (h0 : hasP (l.drop p) [34, 34, 34] = true) :
    Calls Tryd.prog 39 #[.string s, .int .i64 p] w fun e w' => e = .returned (.iface 86 (.pointer (some ⟨w.heap.size, 0, none⟩))) ∧ TR w w.heap.size KLB s w' (p : Int) [] := by
  have hps : (p : Int) ≤ s.size := by rw [hs, txt_size]; omega
  have hs1 : s.size ≤ 1000000 := by rw [hs, txt_size]; exact hl
  have HU := Lib.hid (show s.extract p s.size = txt (l.drop p) by rw [hs, txt_cut, txt_size, List.take_length])
  have HD := Lib.hid (show (l.drop p).length ≤ 1000000 by simp; omega)
  have H0 := Lib.hid h0.symm
  clear hs hl hp h0
  go_enter Tryd.func39, Tryd.ntmps39
  go_wp2_with fail
  refine (hasP_any _ HU.out (show (⟨#[34, 34, 34]⟩ : ByteArray) = txt [34, 34, 34] from rfl) HD.out (by simp) H0.out).mono ?_
  rintro e w1 ⟨rfl, rfl⟩
  go_wp2_with fail
  go_ret
  exact ⟨rfl, TR.new w KLB s p⟩
set_option maxHeartbeats 1000000 in
set_option maxRecDepth 100000 in
theorem tqa_KLL (w : World) (hs : s = txt l) (hl : l.length ≤ 1000000) (hp : p ≤ l.length) (h0 : hasP (l.drop p) [34, 34, 34] = false) (h1 : hasP (l.drop p) [39, 39, 39] = true) :
    Calls Tryd.prog 39 #[.string s, .int .i64 p] w fun e w' => e = .returned (.iface 93 (.pointer (some ⟨w.heap.size, 0, none⟩))) ∧ TR w w.heap.size KLL s w' (p : Int) [] := by
  have hps : (p : Int) ≤ s.size := by rw [hs, txt_size]; omega
  have hs1 : s.size ≤ 1000000 := by rw [hs, txt_size]; exact hl
  have HU := Lib.hid (show s.extract p s.size = txt (l.drop p) by rw [hs, txt_cut, txt_size, List.take_length])
  have HD := Lib.hid (show (l.drop p).length ≤ 1000000 by simp; omega)
  have H0 := Lib.hid h0.symm
  have H1 := Lib.hid h1.symm
  clear hs hl hp h0 h1
  go_enter Tryd.func39, Tryd.ntmps39
  go_wp2_with fail
  refine (hasP_any _ HU.out (show (⟨#[34, 34, 34]⟩ : ByteArray) = txt [34, 34, 34] from rfl) HD.out (by simp) H0.out).mono ?_
  rintro e w1 ⟨rfl, rfl⟩
  go_wp2_with fail
  refine (hasP_any _ HU.out (show (⟨#[39, 39, 39]⟩ : ByteArray) = txt [39, 39, 39] from rfl) HD.out (by simp) H1.out).mono ?_
  rintro e w1 ⟨rfl, rfl⟩
  go_wp2_with fail
  go_ret
  exact ⟨rfl, TR.new w KLL s p⟩
set_option maxHeartbeats 1000000 in
set_option maxRecDepth 100000 in
theorem tqa_KBA (w : World) (hs : s = txt l) (hl : l.length ≤ 1000000) (hp : p ≤ l.length) (h0 : hasP (l.drop p) [34, 34, 34] = false) (h1 : hasP (l.drop p) [39, 39, 39] = false) (h2 : hasP (l.drop p) [34] = true) :
    Calls Tryd.prog 39 #[.string s, .int .i64 p] w fun e w' => e = .returned (.iface 95 (.pointer (some ⟨w.heap.size, 0, none⟩))) ∧ TR w w.heap.size KBA s w' (p : Int) [] := by
  have hps : (p : Int) ≤ s.size := by rw [hs, txt_size]; omega
  have hs1 : s.size ≤ 1000000 := by rw [hs, txt_size]; exact hl
  have HU := Lib.hid (show s.extract p s.size = txt (l.drop p) by rw [hs, txt_cut, txt_size, List.take_length])
  have HD := Lib.hid (show (l.drop p).length ≤ 1000000 by simp; omega)
  have H0 := Lib.hid h0.symm
  have H1 := Lib.hid h1.symm
  have H2 := Lib.hid h2.symm
  clear hs hl hp h0 h1 h2
  go_enter Tryd.func39, Tryd.ntmps39
  go_wp2_with fail
  refine (hasP_any _ HU.out (show (⟨#[34, 34, 34]⟩ : ByteArray) = txt [34, 34, 34] from rfl) HD.out (by simp) H0.out).mono ?_
  rintro e w1 ⟨rfl, rfl⟩
  go_wp2_with fail
  refine (hasP_any _ HU.out (show (⟨#[39, 39, 39]⟩ : ByteArray) = txt [39, 39, 39] from rfl) HD.out (by simp) H1.out).mono ?_
  rintro e w1 ⟨rfl, rfl⟩
  go_wp2_with fail
  refine (hasP_any _ HU.out (show (⟨#[34]⟩ : ByteArray) = txt [34] from rfl) HD.out (by simp) H2.out).mono ?_
  rintro e w1 ⟨rfl, rfl⟩
  go_wp2_with fail
  go_ret
  exact ⟨rfl, TR.new w KBA s p⟩
set_option maxHeartbeats 1000000 in
set_option maxRecDepth 100000 in
theorem tqa_KLI (w : World) (hs : s = txt l) (hl : l.length ≤ 1000000) (hp : p ≤ l.length) (h0 : hasP (l.drop p) [34, 34, 34] = false) (h1 : hasP (l.drop p) [39, 39, 39] = false) (h2 : hasP (l.drop p) [34] = false) (h3 : hasP (l.drop p) [39] = true) :
    Calls Tryd.prog 39 #[.string s, .int .i64 p] w fun e w' => e = .returned (.iface 97 (.pointer (some ⟨w.heap.size, 0, none⟩))) ∧ TR w w.heap.size KLI s w' (p : Int) [] := by
  have hps : (p : Int) ≤ s.size := by rw [hs, txt_size]; omega
  have hs1 : s.size ≤ 1000000 := by rw [hs, txt_size]; exact hl
  have HU := Lib.hid (show s.extract p s.size = txt (l.drop p) by rw [hs, txt_cut, txt_size, List.take_length])
  have HD := Lib.hid (show (l.drop p).length ≤ 1000000 by simp; omega)
  have H0 := Lib.hid h0.symm
  have H1 := Lib.hid h1.symm
  have H2 := Lib.hid h2.symm
  have H3 := Lib.hid h3.symm
  clear hs hl hp h0 h1 h2 h3
  go_enter Tryd.func39, Tryd.ntmps39
  go_wp2_with fail
  refine (hasP_any _ HU.out (show (⟨#[34, 34, 34]⟩ : ByteArray) = txt [34, 34, 34] from rfl) HD.out (by simp) H0.out).mono ?_
  rintro e w1 ⟨rfl, rfl⟩
  go_wp2_with fail
  refine (hasP_any _ HU.out (show (⟨#[39, 39, 39]⟩ : ByteArray) = txt [39, 39, 39] from rfl) HD.out (by simp) H1.out).mono ?_
  rintro e w1 ⟨rfl, rfl⟩
  go_wp2_with fail
  refine (hasP_any _ HU.out (show (⟨#[34]⟩ : ByteArray) = txt [34] from rfl) HD.out (by simp) H2.out).mono ?_
  rintro e w1 ⟨rfl, rfl⟩
  go_wp2_with fail
  refine (hasP_any _ HU.out (show (⟨#[39]⟩ : ByteArray) = txt [39] from rfl) HD.out (by simp) H3.out).mono ?_
  rintro e w1 ⟨rfl, rfl⟩
  go_wp2_with fail
  go_ret
  exact ⟨rfl, TR.new w KLI s p⟩
set_option maxHeartbeats 1000000 in
set_option maxRecDepth 100000 in
theorem tqa_none (w : World) (hs : s = txt l) (hl : l.length ≤ 1000000) (hp : p ≤ l.length) (h0 : hasP (l.drop p) [34, 34, 34] = false) (h1 : hasP (l.drop p) [39, 39, 39] = false) (h2 : hasP (l.drop p) [34] = false) (h3 : hasP (l.drop p) [39] = false) :
    Calls Tryd.prog 39 #[.string s, .int .i64 p] w fun e w' => e = .returned .nilIface ∧ w = w' := by
  have hps : (p : Int) ≤ s.size := by rw [hs, txt_size]; omega
  have hs1 : s.size ≤ 1000000 := by rw [hs, txt_size]; exact hl
  have HU := Lib.hid (show s.extract p s.size = txt (l.drop p) by rw [hs, txt_cut, txt_size, List.take_length])
  have HD := Lib.hid (show (l.drop p).length ≤ 1000000 by simp; omega)
  have H0 := Lib.hid h0.symm
  have H1 := Lib.hid h1.symm
  have H2 := Lib.hid h2.symm
  have H3 := Lib.hid h3.symm
  clear hs hl hp h0 h1 h2 h3
  go_enter Tryd.func39, Tryd.ntmps39
  go_wp2_with fail
  refine (hasP_any _ HU.out (show (⟨#[34, 34, 34]⟩ : ByteArray) = txt [34, 34, 34] from rfl) HD.out (by simp) H0.out).mono ?_
  rintro e w1 ⟨rfl, rfl⟩
  go_wp2_with fail
  refine (hasP_any _ HU.out (show (⟨#[39, 39, 39]⟩ : ByteArray) = txt [39, 39, 39] from rfl) HD.out (by simp) H1.out).mono ?_
  rintro e w1 ⟨rfl, rfl⟩
  go_wp2_with fail
  refine (hasP_any _ HU.out (show (⟨#[34]⟩ : ByteArray) = txt [34] from rfl) HD.out (by simp) H2.out).mono ?_
  rintro e w1 ⟨rfl, rfl⟩
  go_wp2_with fail
  refine (hasP_any _ HU.out (show (⟨#[39]⟩ : ByteArray) = txt [39] from rfl) HD.out (by simp) H3.out).mono ?_
  rintro e w1 ⟨rfl, rfl⟩
  go_wp2_with fail
  go_ret
  exact ⟨rfl, rfl⟩
end
section
variable {W w : World} {b : Nat} {K : Kd} {s : ByteArray} {p : Nat} {t : List UInt8}
theorem tplace_any (h : TR W b K s w p t) : Calls Tryd.prog 81 #[.pointer (some ⟨b, 0, none⟩)] w fun e w' => e = .returned (.int .i64 p) ∧ w = w' := by
  obtain ⟨_, _, v, h3, _⟩ := h
  obtain ⟨c0, c1, c2, c3, cf⟩ := td_cells h3
  clear h3 cf c0 c2 c3
  go_enter Tryd.func81, Tryd.ntmps81
  go_wp2_with fail
  go_ret
  exact ⟨rfl, rfl⟩
theorem ttold_any (h : TR W b K s w p t) {S : ByteArray} (hS : S = txt t) : Calls Tryd.prog 82 #[.pointer (some ⟨b, 0, none⟩)] w fun e w' => e = .returned (.string S) ∧ w = w' := by
  obtain ⟨r1, _, v, h3, h4⟩ := h
  obtain ⟨A, c, rfl, o1, o2, o3, o4, o5⟩ := own_form h4
  obtain ⟨c0, c1, c2, c3, cf⟩ := td_cells h3
  have hcv := conv_bytes (w := w) t.length c rfl o4
  rw [← hS] at hcv
  clear h3 h4 cf c0 c1 c2 r1 o1 o2 o3 o4 o5 hS
  go_enter Tryd.func82, Tryd.ntmps82
  go_wp2_with fail
  go_ret
  exact ⟨rfl, rfl⟩
end
end Go.Proofs.YtpdaelcoiilkkaaDoor
