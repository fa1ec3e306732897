/- strings.IndexRune at ASCII bytes for a rune above them; strings.IndexAny of a few ASCII bytes at any text. -/
import Derived.Test.YtoebhnhiljlljaaDoorPh
import Derived.Laws.RangeAny
import Derived.Laws.Runes
import Derived.Deep.LoopGhost
import Derived.Deep.QuietTactic
import Derived.BigQuiet
import Derived.WalkMore
import Derived.Lib.OthersKept
import Derived.Lib.IndexAny
namespace Go.Proofs.YtoebhnhiljlljaaDoor
open Go.RowKit
namespace Fl

theorem belowDrewN {B : Nat} {a w : World} (h : Below B a w) (n : Nat) : Below B a (w.drewN n) := ⟨h.os, h.tape, h.output, h.size, h.block⟩
/-- All bytes below 128. -/
def Asc (s : ByteArray) : Prop := ∀ k (h : k < s.size), (s[k]'h).toNat < 128
theorem idx_none : ∀ (l : List UInt8) (c : UInt8), c ∉ l → Lib.indexByte l c = -1
  | [], _, _ => rfl
  | b :: l, c, h => by
    have h1 : b ≠ c := fun e => h (by simp [e])
    have h2 : c ∉ l := fun e => h (by simp [e])
    rw [Lib.indexByte, if_neg (by simpa using h1), idx_none l c h2]; rfl
theorem asc_mem {s : ByteArray} (h : Asc s) : ∀ b ∈ s.data.toList, b.toNat < 128 := by
  intro b hb
  obtain ⟨k, hk, rfl⟩ := List.mem_iff_getElem.1 hb
  have hk' : k < s.size := by rw [Array.length_toList] at hk; exact hk
  rw [Array.getElem_toList]
  exact h k hk'
theorem idxb_is {s : ByteArray} {c : Int} (w : World) (h : ∀ b ∈ s.data.toList, b.toNat < 128) (h1 : 128 ≤ c) (h2 : c ≤ 255) :
    Calls Tryd.prog 56 #[.string s, .int .u8 c] w fun e w' => e = .returned (.int .i64 (-1)) ∧ w = w' := by
  refine (Tryd.strings_IndexByte s c w).mono ?_
  rintro e w' ⟨rfl, rfl⟩
  rw [idx_none]
  · exact ⟨rfl, rfl⟩
  · intro hm
    have := h _ hm
    have e : (c.toNat.toUInt8).toNat = c.toNat := by
      show (UInt8.ofNat c.toNat).toNat = c.toNat
      rw [UInt8.toNat_ofNat_of_lt' (by simp [UInt8.size]; omega)]
    omega
theorem vrune_is {r : Int} {b : Bool} (w : World) (h : b = Lib.validRune r) : Calls Tryd.prog 65 #[.int .i32 r] w fun e w' => e = .returned (.bool b) ∧ w = w' := by
  refine (Tryd.utf8_ValidRune r w).mono ?_
  rintro e w' ⟨rfl, rfl⟩
  exact ⟨by rw [h], rfl⟩
set_option maxHeartbeats 8000000 in
set_option maxRecDepth 100000 in
theorem rune_hi {s : ByteArray} {r : Int} (w : World) (ha : Asc s) (h0 : 128 ≤ r) (h1 : r ≤ 2147483647) :
    Calls Tryd.prog 52 #[.string s, .int .i32 r] w fun e w' => e = .returned (.int .i64 (-1)) ∧ Below w.heap.size w w' := by
  have HA := Lib.hid ha
  clear ha
  by_cases h3 : r = 65533
  · subst h3
    go_enter Tryd.func52, Tryd.ntmps52
    go_wp2_with fail
    go_loopg [5, 6] s.size (fun g _ _ wx => ∃ i : Nat, i + g = s.size ∧ wx = w.iter s i)
    case atStart => exact ⟨0, by omega, rfl⟩
    case round =>
      obtain ⟨i, hig, rfl⟩ := hrel
      cases gk with
      | zero =>
        obtain rfl : i = s.size := by omega
        have hnx := run_next_end (P := Tryd.prog) w s s.size
        go_wp2_with fail
        go_ret
        exact ⟨rfl, (Below.refl _ _).alloc (Nat.le_refl _) _⟩
      | succ g =>
        have hi : i < s.size := by omega
        obtain ⟨x, hx⟩ : ∃ x : Nat, (s[i]'hi).toNat = x := ⟨_, rfl⟩
        have hx128 : x < 128 := by rw [← hx]; exact HA.out i hi
        have hnx := fun ty => run_next_ascii (P := Tryd.prog) w s i ty hi (by rw [hx]; exact hx128)
        rw [hx] at hnx
        have hne : ((x : Int) == 65533) = false := by simp; omega
        clear hx
        go_wp2_with fail
        go_roundg g
        case measure => omega
        case rel => exact ⟨i + 1, by omega, rfl⟩
  · have h3' : (r == 65533) = false := by simpa using h3
    clear h3
    obtain ⟨v, hv⟩ : ∃ v, v = Lib.validRune r := ⟨_, rfl⟩
    have V := Lib.hid (fun w => vrune_is w hv)
    cases v
    · clear hv
      go_enter Tryd.func52, Tryd.ntmps52
      go_wp2_with (go_at_call 65; refine (V.out _).mono ?_; rintro e w' ⟨rfl, rfl⟩)
      go_ret
      exact ⟨rfl, Below.refl _ _⟩
    · have hval : Utf8.valid r = true := by
        rw [validRune_eq]
        unfold Lib.validRune at hv
        unfold validRune
        simpa using hv.symm
      obtain ⟨z2, z4, zl⟩ := encode_facts r hval h0
      obtain ⟨R, hR⟩ : ∃ R, R = Utf8.encode r := ⟨_, rfl⟩
      rw [← hR] at z2 z4 zl
      clear hval hv
      obtain ⟨n, hn⟩ : ∃ n, R.size = n + 1 := ⟨R.size - 1, by omega⟩
      have hlast : ∀ h : n < R.size, 128 ≤ ((R[n]'h).toNat : Int) := fun h => by
        have := zl (by omega)
        have e : R.size - 1 = n := by omega
        simp only [e] at this
        omega
      have hn1 : 1 ≤ n := by omega
      have hn3 : n ≤ 3 := by omega
      obtain ⟨c, hc⟩ : ∃ c : Int, c = ((R[n]'(by omega)).toNat : Int) := ⟨_, rfl⟩
      have hx : ∀ h : n < R.size, ((R[n]'h).toNat : Int) = c := fun h => hc.symm
      have c0 : 128 ≤ c := by rw [hc]; exact hlast (by omega)
      have c1 : c ≤ 255 := by rw [hc]; have := (R[n]'(by omega)).toNat_lt; omega
      clear zl hlast hc z2 z4
      have ib := Lib.hid (fun (a b : Nat) w => idxb_is (s := s.extract a b) (c := c) w (fun b hb => asc_mem HA.out b (mem_extract hb)) c0 c1)
      go_enter Tryd.func52, Tryd.ntmps52
      have hR' := hR.symm
      clear hR
      go_wp2_with (go_at_call 65; refine (V.out _).mono ?_; rintro e w' ⟨rfl, rfl⟩)
      go_step3
      go_wp2_with fail
      clear hR'
      go_loopw [9, 10] (fun a b wx => a = .int .i64 n ∧ b = .int .i64 0 ∧ wx = w) (fun _ _ _ => 0)
      case atStart => exact ⟨rfl, rfl, rfl⟩
      case round =>
        obtain ⟨rfl, rfl, rfl⟩ := hrel
        by_cases hlt : n < s.size
        · obtain ⟨x, hxx⟩ : ∃ x : Int, x = ((s[n]'hlt).toNat : Int) := ⟨_, rfl⟩
          have hxs : ∀ h : n < s.size, ((s[n]'h).toNat : Int) = x := fun h => hxx.symm
          have x1 : x < 128 := by rw [hxx]; have := HA.out n hlt; omega
          have hne : (x == c) = false := by simp; omega
          clear hxx
          go_wp2_with fail
          go_step3
          go_upto_region 6 with fail
          go_quiet (fail)
          go_upto_region 7 with fail
          go_quiet (first | (go_at_call 56; refine (ib.out _ _ _).mono ?_; rintro _ _ ⟨rfl, rfl⟩; exact ⟨rfl, _, rfl⟩))
          go_wp2_with fail
          rw [Exit.noGoto_ret]
          simp (config := { zetaDelta := true }) only [Exit.inBlock, Exit.then, Exit.noGoto]
          go_ret
          exact ⟨rfl, belowDrewN (Below.refl _ _) _⟩
        · go_wp2_with fail
          rw [Exit.noGoto_ret]
          go_ret
          exact ⟨rfl, Below.refl _ _⟩
/-- None of the bytes from i on to j is among these. -/
theorem noAny_step {s : ByteArray} {m : List UInt8} {i n : Nat} (hm : ∀ c ∈ m, c.toNat < 128) (h : Lib.NoAny s.data.toList m i) (hh : ∀ k, i ≤ k → k < i + n → ∀ b, s.data.toList[k]? = some b → 128 ≤ b.toNat) : Lib.NoAny s.data.toList m (i + n) := fun j b hj hb => by
  by_cases hji : j < i
  · exact h j b hji hb
  · have h1 := hh j (by omega) hj b hb
    cases hc : m.contains b
    · rfl
    · rw [List.contains_iff_mem] at hc
      have := hm b hc
      omega
/-- What a rune above ASCII is read of. -/
theorem decode_bytes (s : ByteArray) (i : Nat) (h : i < s.size) (ha : 128 ≤ (s[i]'h).toNat) : i + (Utf8.decode s i).2 ≤ s.size ∧ ∀ k, i ≤ k → k < i + (Utf8.decode s i).2 → ∀ b, s.data.toList[k]? = some b → 128 ≤ b.toNat := by
  have hn : ¬ (s[i]'h).toNat < 128 := by omega
  have hk : ∀ (k : Nat) b, s.data.toList[i + k]? = some b → (s.get! (i + k)).toNat = b.toNat := fun k b hb => by
    obtain ⟨hlt, e⟩ := List.getElem?_eq_some_iff.1 hb
    rw [Array.length_toList] at hlt
    have hlt' : i + k < s.size := hlt
    have e2 : s.get! (i + k) = s[i + k]'hlt' := by
      have := get_at s (i + k) hlt'
      rwa [Nat.add_zero] at this
    rw [e2, ← e, Array.getElem_toList]; rfl
  have h0 : ∀ b, s.data.toList[i]? = some b → 128 ≤ b.toNat := fun b hb => by
    have := hk 0 b hb
    rw [get_at s i h] at this
    omega
  have core : ∀ n, (∀ k, 1 ≤ k → k < n → i + k < s.size ∧ (s.get! (i + k)).toNat / 64 = 2) → 1 ≤ n → i + n ≤ s.size ∧ ∀ k, i ≤ k → k < i + n → ∀ b, s.data.toList[k]? = some b → 128 ≤ b.toNat := by
    intro n hc h1
    refine ⟨?_, fun k h2 h3 b hb => ?_⟩
    · by_cases hn1 : n = 1
      · omega
      · have := (hc (n - 1) (by omega) (by omega)).1; omega
    · obtain ⟨d, rfl⟩ : ∃ d, k = i + d := ⟨k - i, by omega⟩
      by_cases hd : d = 0
      · subst hd; exact h0 b hb
      · have h4 := hc d (by omega) (by omega)
        rw [hk d b hb] at h4
        omega
  simp only [Utf8.decode, get_at s i h, hn, if_false]
  have one := core 1 (fun k a b => by omega) (Nat.le_refl _)
  split
  · rename_i g
    simp only [Bool.and_eq_true, decide_eq_true_eq, beq_iff_eq] at g
    split
    · exact core 2 (fun k a b => by obtain rfl : k = 1 := by omega
                                    exact g.2) (by omega)
    · exact one
  · split
    · rename_i g
      simp only [Bool.and_eq_true, decide_eq_true_eq, beq_iff_eq] at g
      split
      · exact core 3 (fun k a b => by
          rcases (show k = 1 ∨ k = 2 by omega) with rfl | rfl
          · exact g.1.2
          · exact g.2) (by omega)
      · exact one
    · split
      · rename_i g
        simp only [Bool.and_eq_true, decide_eq_true_eq, beq_iff_eq] at g
        split
        · exact core 4 (fun k a b => by
            rcases (show k = 1 ∨ k = 2 ∨ k = 3 by omega) with rfl | rfl | rfl
            · exact g.1.1.2
            · exact g.1.2
            · exact g.2) (by omega)
        · exact one
      · exact one
theorem shld_is {n : Int} {b : Bool} (w : World) (h : b = decide (8 < n)) : Calls Tryd.prog 53 #[.int .i64 n] w fun e w' => e = .returned (.bool b) ∧ w = w' := by
  refine (Tryd.strings_shouldUseASCIISet n w).mono ?_
  rintro e w' ⟨rfl, rfl⟩
  exact ⟨by rw [h], rfl⟩
theorem rune_lo {s : ByteArray} {r x : Int} (w : World) (h0 : 0 ≤ r) (h1 : r < 128) (hx : x = Lib.indexByte s.data.toList r.toNat.toUInt8) : Calls Tryd.prog 52 #[.string s, .int .i32 r] w fun e w' => e = .returned (.int .i64 x) ∧ w = w' := by
  refine (Tryd.strings_IndexRune_ascii s r w h0 h1).mono ?_
  rintro e w' ⟨rfl, rfl⟩
  exact ⟨by rw [hx], rfl⟩
/-- The model's row over a text: where it stands, with whatever came behind it. -/
def ItR (w : World) (s : ByteArray) (i : Nat) (wx : World) : Prop := Below w.heap.size w wx ∧ wx.heap[w.heap.size]? = some (.stringIter s i)
theorem ItR.on {w W w' : World} {s : ByteArray} {i : Nat} (h : ItR w s i W) (hb : Below W.heap.size W w') : ItR w s i w' := by
  have hlt : w.heap.size < W.heap.size := (Array.getElem?_eq_some_iff.1 h.2).1
  exact ⟨h.1.trans (hb.mono (by omega)), by rw [hb.block _ hlt]; exact h.2⟩
set_option maxHeartbeats 8000000 in
set_option maxRecDepth 100000 in
theorem any_short {s m : ByteArray} {x : Int} (w : World) (hz : s.size ≤ 8) (h2 : 2 ≤ m.size) (hm8 : m.size ≤ 8) (hm : Asc m) (hx : x = Lib.indexAny s.data.toList m.data.toList) :
    Calls Tryd.prog 37 #[.string s, .string m] w fun e w' => e = .returned (.int .i64 x) ∧ Below w.heap.size w w' := by
  have HM := Lib.hid (asc_mem hm)
  have HMA := Lib.hid hm
  have HX := Lib.hid hx
  have hemp : m.toList.isEmpty = false := by
    rw [Lib.toList_data]
    cases h : m.data.toList with
    | nil => have := Lib.size_eq m; rw [h, List.length_nil] at this; omega
    | cons _ _ => rfl
  have hn1 : ((m.size : Int) == 1) = false := by simp; omega
  have SH := Lib.hid (fun w => shld_is (n := (s.size : Int)) (b := false) w (by rw [decide_eq_false (by omega)]))
  clear hm hx
  go_enter Tryd.func37, Tryd.ntmps37
  go_wp2_with (go_at_call 53; refine (SH.out _).mono ?_; rintro e w' ⟨rfl, rfl⟩)
  go_loopg [9, 10] s.size (fun g _ _ wx => ∃ i : Nat, i ≤ s.size ∧ s.size ≤ i + g ∧ Hid (ItR w s i wx) ∧ Hid (Lib.NoAny s.data.toList m.data.toList i))
  case atStart => exact ⟨0, by omega, by omega, Lib.hid ⟨(Below.refl _ _).alloc (Nat.le_refl _) _, World.iter_heap _ _ _⟩, Lib.hid (Lib.NoAny.zero _ _)⟩
  case round =>
    obtain ⟨i, hi, hig, HI, HN⟩ := hrel
    by_cases hlt : i < s.size
    · obtain ⟨g, rfl⟩ : ∃ g, gk = g + 1 := ⟨gk - 1, by omega⟩
      obtain ⟨y, hy⟩ : ∃ y : UInt8, s[i]'hlt = y := ⟨_, rfl⟩
      have hyl : s.data.toList[i]? = some y := by rw [← hy]; exact Lib.data_getElem? s i hlt
      by_cases hlo : y.toNat < 128
      · have hnx := fun ty => Lib.run_next_ascii_at (P := Tryd.prog) wr w.heap.size s i ty HI.out.2 hlt (by rw [hy]; exact hlo)
        rw [hy] at hnx
        have HI2 := Lib.hid (show ItR w s (i + 1) (wr.iterAt w.heap.size s (i + 1)) from ⟨Lib.below_iterAt HI.out.1 (Nat.le_refl _) _ _, Lib.iterAt_heap _ _ _ _ _ HI.out.2⟩)
        generalize wr.iterAt w.heap.size s (i + 1) = W at *
        have hcon := Lib.contains_iff_indexByte m.data.toList y
        have hyn : ((y.toNat : Int)).toNat.toUInt8 = y := by simp
        obtain ⟨z, hz'⟩ : ∃ z, z = Lib.indexByte m.data.toList y := ⟨_, rfl⟩
        have RL := Lib.hid (fun w => rune_lo (s := m) (r := (y.toNat : Int)) (x := z) w (by omega) (by omega) (by rw [hyn]; exact hz'))
        rw [← hz'] at hcon
        have HY := Lib.hid hyl
        clear hy hyl hyn hz'
        cases hin : m.data.toList.contains y
        · rw [hin] at hcon
          have hlt' : ¬ ((0 : Int) ≤ z) := of_decide_eq_false hcon.symm
          have HN2 := Lib.hid (HN.out.succ HY.out hin)
          clear hcon hin
          go_wp2_with (go_at_call 52; refine (RL.out _).mono ?_; rintro e w' ⟨rfl, rfl⟩)
          go_roundg g
          case measure => omega
          case rel => exact ⟨i + 1, by omega, by omega, HI2, HN2⟩
        · rw [hin] at hcon
          have hge : (0 : Int) ≤ z := of_decide_eq_true hcon.symm
          have E := Lib.hid (show x = i by rw [HX.out]; exact Lib.indexAny_hit HN.out HY.out hin)
          clear hcon hin
          go_wp2_with (go_at_call 52; refine (RL.out _).mono ?_; rintro e w' ⟨rfl, rfl⟩)
          go_ret
          exact ⟨by rw [E.out]; rfl, HI2.out.1⟩
      · have hdec := decode_bytes s i hlt (by rw [hy]; omega)
        have hhi := decode_high s i hlt (by rw [hy]; omega)
        have hle := decode_le s i
        obtain ⟨d, hd⟩ : ∃ d, d = Utf8.decode s i := ⟨_, rfl⟩
        have hnx := fun ty => Lib.run_next_any_at (P := Tryd.prog) wr w.heap.size s i ty HI.out.2 hlt
        rw [← hd] at hnx hdec hhi hle
        have HI2 := Lib.hid (show ItR w s (i + d.2) (wr.iterAt w.heap.size s (i + d.2)) from ⟨Lib.below_iterAt HI.out.1 (Nat.le_refl _) _ _, Lib.iterAt_heap _ _ _ _ _ HI.out.2⟩)
        generalize wr.iterAt w.heap.size s (i + d.2) = W at *
        have HN2 := Lib.hid (noAny_step HM.out HN.out hdec.2)
        obtain ⟨r, n⟩ := d
        have RH := Lib.hid (fun w => rune_hi (s := m) (r := (r : Int)) w HMA.out (by have := hhi.1; simp only at this; omega) (by simp only at hle; omega))
        have hn := hhi.2
        have hsz := hdec.1
        simp only at hn hsz hnx HI2 HN2
        clear hy hyl hd hdec hhi hle
        go_wp2_with (go_at_call 52; refine (RH.out _).mono ?_; rintro e w' ⟨rfl, hb⟩)
        have HI3 := Lib.hid (ItR.on HI2.out hb)
        clear hb
        go_roundg g
        case measure => omega
        case rel => exact ⟨i + n, by omega, by omega, HI3, HN2⟩
    · have hnx := fun ty => Lib.run_next_end_at (P := Tryd.prog) wr w.heap.size s i ty HI.out.2 hlt
      have E := Lib.hid (show x = -1 by rw [HX.out]; exact Lib.indexAny_none (show Lib.NoAny s.data.toList m.data.toList s.data.toList.length from by rw [← Lib.size_eq, ← show i = s.size by omega]; exact HN.out))
      go_wp2_with fail
      go_ret
      exact ⟨by rw [E.out]; rfl, HI.out.1⟩
end Fl
end Go.Proofs.YtoebhnhiljlljaaDoor
