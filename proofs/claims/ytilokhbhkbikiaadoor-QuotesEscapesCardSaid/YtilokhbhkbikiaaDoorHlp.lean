/- The law's own questions: is a text what is read, is a fault what is told. -/
import Derived.Test.YtilokhbhkbikiaaDoorQRd
import Derived.Test.YtilokhbhkbikiaaDoorQWr
import Derived.Lib.Strings
namespace Go.Proofs.YtilokhbhkbikiaaDoor
open Go.RowKit

def isB (r : Qu.Res) (m : List UInt8) : Bool := match r with | .ok t => decide (t = m) | .bad _ _ => false
def flB (r : Qu.Res) (c a : Int) : Bool := match r with | .ok _ => false | .bad hf k => decide (c = (if hf = true then 6 else 3) ∧ a = (k : Int))
theorem txt_inj {a b : List UInt8} (h : txt a = txt b) : a = b := by
  have : (txt a).data.toList = (txt b).data.toList := by rw [h]
  simpa [txt] using this
theorem toList_txt (l : List UInt8) : (txt l).toList = l := by
  rw [Lib.toList_data]; rfl
theorem eq_txt {s t : ByteArray} {l m : List UInt8} (hs : s = txt l) (ht : t = txt m) : (s.toList == t.toList) = decide (l = m) := by
  rw [hs, ht, toList_txt, toList_txt]
  by_cases h : l = m
  · simp [h]
  · simp [h]
theorem empty_txt {s : ByteArray} {l : List UInt8} (hs : s = txt l) : s.toList.isEmpty = decide (l = []) := by
  rw [hs, toList_txt]; cases l <;> rfl
/-- What the laws find when they are called. -/
def Tab (w : World) : Prop := Heads w ∧ Shorts w ∧ 1 < w.heap.size
theorem Tab.below {W w : World} (h : Tab W) (hb : Below W.heap.size W w) : Tab w := ⟨h.1.below hb h.2.2, h.2.1.old (by have := h.2.2; omega) hb, Nat.lt_of_lt_of_le h.2.2 hb.size⟩
theorem qread_is {l : List UInt8} {s : ByteArray} {r : Qu.Res} (w : World) (hs : s = txt l) (hl : l.length ≤ 1000000) (hr : r = Qu.rdq l) (hT : Tab w) :
    Calls Tryd.prog 9 #[.string s] w fun e w' => e = .returned (rval r) ∧ Below w.heap.size w w' := hr ▸ qread_any w hs hl hT.1 hT.2.1 hT.2.2
theorem qwrite_is {l : List UInt8} {s x : ByteArray} (w : World) (hs : s = txt l) (hl : l.length ≤ 1000000) (hx : x = txt (Qu.wrq l)) (hT : Tab w) :
    Calls Tryd.prog 11 #[.string s] w fun e w' => e = .returned (.string x) ∧ Below w.heap.size w w' := hx ▸ qwrite_any w hs hl hT.2.1 hT.2.2
set_option maxHeartbeats 1000000 in
theorem is_any {l m : List UInt8} {s t : ByteArray} {x : Bool} (w : World) (hs : s = txt l) (ht : t = txt m) (hl : l.length ≤ 1000000) (hx : x = isB (Qu.rdq l) m) (hT : Tab w) :
    Calls Tryd.prog 13 #[.string s, .string t] w fun e w' => e = .returned (.bool x) ∧ Below w.heap.size w w' := by
  obtain ⟨r, hr⟩ : ∃ r, r = Qu.rdq l := ⟨_, rfl⟩
  rw [← hr] at hx
  have HR := Lib.hid hr
  have HS := Lib.hid hs
  have HTt := Lib.hid ht
  have HL := Lib.hid hl
  have HX := Lib.hid hx
  have HT := Lib.hid hT
  clear hr hs ht hl hx hT
  go_enter Tryd.func13, Tryd.ntmps13
  go_wp2_with fail
  refine (qread_is w HS.out HL.out HR.out HT.out).mono ?_
  rintro e w1 ⟨rfl, hb⟩
  have HB := Lib.hid hb
  clear hb
  cases r with
  | ok u =>
    obtain ⟨S, hS⟩ : ∃ S, S = txt u := ⟨_, rfl⟩
    rw [rval, ← hS]
    have HSS := Lib.hid hS
    have hq := eq_txt HSS.out HTt.out
    have E : Hid (x = decide (u = m)) := HX.out
    cases hd : decide (u = m)
    all_goals rw [hd] at hq E
    all_goals clear hS hd
    all_goals go_wp2_with fail
    all_goals go_ret
    all_goals exact ⟨by rw [E.out]; rfl, HB.out.alloc HB.out.size _⟩
  | bad hf a =>
    have E := Lib.hid (show x = false by rw [HX.out, isB])
    rw [rval]
    cases hf
    all_goals go_wp2_with fail
    all_goals go_ret
    all_goals exact ⟨by rw [E.out]; rfl, HB.out.alloc HB.out.size _⟩
set_option maxHeartbeats 1000000 in
theorem fault_any {l : List UInt8} {s : ByteArray} {x : Bool} (c a : Int) (w : World) (hs : s = txt l) (hl : l.length ≤ 1000000) (hc : 0 < c) (hx : x = flB (Qu.rdq l) c a) (hT : Tab w) :
    Calls Tryd.prog 16 #[.string s, .int .i64 c, .int .i64 a] w fun e w' => e = .returned (.bool x) ∧ Below w.heap.size w w' := by
  obtain ⟨r, hr⟩ : ∃ r, r = Qu.rdq l := ⟨_, rfl⟩
  rw [← hr] at hx
  have HR := Lib.hid hr
  have HS := Lib.hid hs
  have HL := Lib.hid hl
  have HX := Lib.hid hx
  have HT := Lib.hid hT
  clear hr hs hl hx hT
  go_enter Tryd.func16, Tryd.ntmps16
  go_wp2_with fail
  refine (qread_is w HS.out HL.out HR.out HT.out).mono ?_
  rintro e w1 ⟨rfl, hb⟩
  have HB := Lib.hid hb
  clear hb
  cases r with
  | ok u =>
    have E := Lib.hid (show x = false by rw [HX.out, flB])
    obtain ⟨S, hS⟩ : ∃ S, S = txt u := ⟨_, rfl⟩
    rw [rval, ← hS]
    have hq := empty_txt hS
    have hc0 : ((0 : Int) == c) = false := by simp; omega
    have hc1 : (0 : Int) ≠ c := by omega
    cases hd : decide (u = [])
    all_goals rw [hd] at hq
    all_goals clear hS hd
    all_goals go_wp2_with fail
    all_goals go_ret
    all_goals exact ⟨by rw [E.out]; rfl, HB.out.alloc HB.out.size _⟩
  | bad hf k =>
    rw [rval]
    cases hf
    · by_cases h1 : c = 3
      · subst h1
        by_cases h2 : a = (k : Int)
        · have E := Lib.hid (show x = true by rw [HX.out, flB]; simp [h2])
          subst h2
          go_wp2_with fail
          go_ret
          exact ⟨by rw [E.out]; rfl, HB.out.alloc HB.out.size _⟩
        · have E := Lib.hid (show x = false by rw [HX.out, flB]; simp [h2])
          have hk : ((k : Int) == a) = false := by simp; omega
          go_wp2_with fail
          go_ret
          exact ⟨by rw [E.out]; rfl, HB.out.alloc HB.out.size _⟩
      · have E := Lib.hid (show x = false by rw [HX.out, flB]; simp [h1])
        have hk : ((3 : Int) == c) = false := by simp; omega
        go_wp2_with fail
        go_ret
        exact ⟨by rw [E.out]; rfl, HB.out.alloc HB.out.size _⟩
    · by_cases h1 : c = 6
      · subst h1
        by_cases h2 : a = (k : Int)
        · have E := Lib.hid (show x = true by rw [HX.out, flB]; simp [h2])
          subst h2
          go_wp2_with fail
          go_ret
          exact ⟨by rw [E.out]; rfl, HB.out.alloc HB.out.size _⟩
        · have E := Lib.hid (show x = false by rw [HX.out, flB]; simp [h2])
          have hk : ((k : Int) == a) = false := by simp; omega
          go_wp2_with fail
          go_ret
          exact ⟨by rw [E.out]; rfl, HB.out.alloc HB.out.size _⟩
      · have E := Lib.hid (show x = false by rw [HX.out, flB]; simp [h1])
        have hk : ((6 : Int) == c) = false := by simp; omega
        go_wp2_with fail
        go_ret
        exact ⟨by rw [E.out]; rfl, HB.out.alloc HB.out.size _⟩
end Go.Proofs.YtilokhbhkbikiaaDoor
