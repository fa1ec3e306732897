/- What landed: a sign cut off, special values, their ranks, digits with marks, an integer's text. -/
import Derived.Test.YtbeefjhcbphiaaaGreatDoorGf
import Derived.Test.YtbeefjhcbphiaaaGreatDoorGj
import Derived.Laws.RangeAny
import Derived.Laws.Runes
import Derived.Deep.LoopGhost
import Derived.Deep.QuietTactic
import Derived.BigQuiet
import Derived.WalkMore
import Derived.Lib.OthersKept
import Derived.Lib.IndexAny
namespace Go.Proofs.YtbeefjhcbphiaaaGreatDoor
open Go.RowKit
namespace Fl
open De

theorem txt_empty {s : ByteArray} {O : List UInt8} (h : s = txt O) : s.toList.isEmpty = decide (O = []) := by
  rw [h, II.toList_txt]
  cases O <;> simp
theorem data_txt {l : List UInt8} {s : ByteArray} (h : s = txt l) : s.data.toList = l := by rw [h]; rfl
theorem pre_one {l : List UInt8} {c : UInt8} (hc : c ≠ 0) : Lib.hasPrefix l [c] = decide (bt l 0 = (c.toNat : Int)) := by
  unfold Lib.hasPrefix
  cases l with
  | nil =>
    rw [show bt [] 0 = 0 from rfl, decide_eq_false]
    · rfl
    · intro e; exact hc (UInt8.toNat_inj.1 (show c.toNat = 0 by omega))
  | cons d r =>
    rw [bt_cons]
    have e : ((d.toNat : Int) = c.toNat) ↔ c = d := ⟨fun e => UInt8.toNat_inj.1 (by omega), fun e => by rw [e]⟩
    simp only [e, List.isPrefixOf, Bool.and_true]
    by_cases h : c = d <;> simp [h]
theorem trim_one {l : List UInt8} {c : UInt8} (hc : c ≠ 0) : Lib.trimPrefix l [c] = if bt l 0 = (c.toNat : Int) then l.drop 1 else l := by
  unfold Lib.trimPrefix
  rw [pre_one hc]
  by_cases h : bt l 0 = (c.toNat : Int) <;> simp [h]
theorem cutp_is {l : List UInt8} {s T : ByteArray} {b : Bool} (w : World) (hs : s = txt l) (hT : T = txt (if bt l 0 = 45 then l.drop 1 else l)) (hb : b = decide (bt l 0 = 45)) :
    Calls Tryz.prog 203 #[.string s, .string ⟨#[45]⟩] w fun e w' => e = .returned (.tuple #[.string T, .bool b]) ∧ w = w' := by
  refine (Tryz.strings_CutPrefix s ⟨#[45]⟩ w).mono ?_
  rintro e w' ⟨rfl, rfl⟩
  rw [data_txt hs, show (⟨#[45]⟩ : ByteArray).data.toList = [45] from rfl, pre_one (by decide), trim_one (by decide), hT, hb]
  exact ⟨rfl, rfl⟩
theorem trimp_is {l : List UInt8} {s T : ByteArray} (w : World) (hs : s = txt l) (hT : T = txt (if bt l 0 = 43 then l.drop 1 else l)) :
    Calls Tryz.prog 204 #[.string s, .string ⟨#[43]⟩] w fun e w' => e = .returned (.string T) ∧ w = w' := by
  refine (Tryz.strings_TrimPrefix s ⟨#[43]⟩ w).mono ?_
  rintro e w' ⟨rfl, rfl⟩
  rw [data_txt hs, show (⟨#[43]⟩ : ByteArray).data.toList = [43] from rfl, trim_one (by decide), hT]
  exact ⟨rfl, rfl⟩
theorem signed_is {l : List UInt8} {s G T : ByteArray} (w : World) (hs : s = txt l) (hG : G = txt (mn l)) (hT : T = txt (l.drop (sg0 l))) :
    Calls Tryz.prog 181 #[.string s] w fun e w' => e = .returned (.tuple #[.string G, .string T]) ∧ w = w' := by
  by_cases h : bt l 0 = 45
  · have C := Lib.hid (fun w => cutp_is (T := T) (b := true) w hs (by rw [hT]; unfold sg0; rw [if_pos h, if_pos (.inr h)]) (by rw [h]; rfl))
    have E := Lib.hid (show G = ⟨#[45]⟩ by rw [hG]; unfold mn; rw [if_pos h]; rfl)
    clear hs hG hT h
    go_enter Tryz.func181, Tryz.ntmps181
    go_wp2_with (go_at_call 203; refine (C.out _).mono ?_; rintro e w' ⟨rfl, rfl⟩)
    go_ret2
    exact ⟨by rw [E.out]; rfl, rfl⟩
  · obtain ⟨T0, hT0⟩ : ∃ T0, T0 = txt l := ⟨_, rfl⟩
    have C := Lib.hid (fun w => cutp_is (T := T0) (b := false) w hs (by rw [hT0, if_neg h]) (by rw [decide_eq_false h]))
    have C2 := Lib.hid (fun w => trimp_is (T := T) w hs (by
      rw [hT]; unfold sg0
      by_cases h2 : bt l 0 = 43
      · rw [if_pos h2, if_pos (.inl h2)]
      · rw [if_neg h2, if_neg (by omega)]; rfl))
    have E := Lib.hid (show G = ⟨#[]⟩ by rw [hG]; unfold mn; rw [if_neg h]; rfl)
    clear hs hG hT h hT0
    go_enter Tryz.func181, Tryz.ntmps181
    go_wp2_with (first
      | (go_at_call 203; refine (C.out _).mono ?_; rintro e w' ⟨rfl, rfl⟩)
      | (go_at_call 204; refine (C2.out _).mono ?_; rintro e w' ⟨rfl, rfl⟩))
    go_ret2
    exact ⟨by rw [E.out]; rfl, rfl⟩
/-- The special values that a text tells. -/
def spt (l : List UInt8) : List UInt8 := if l.drop (sg0 l) = INF then mn l ++ INF else if l.drop (sg0 l) = NAN then NAN else []
def spb (l : List UInt8) : Bool := decide (l.drop (sg0 l) = INF ∨ l.drop (sg0 l) = NAN)
theorem special_is {l : List UInt8} {s X : ByteArray} {b : Bool} (w : World) (hs : s = txt l) (hX : X = txt (spt l)) (hb : b = spb l) :
    Calls Tryz.prog 160 #[.string s] w fun e w' => e = .returned (.tuple #[.string X, .bool b]) ∧ w = w' := by
  obtain ⟨G, hG⟩ : ∃ G, G = txt (mn l) := ⟨_, rfl⟩
  obtain ⟨T, hT⟩ : ∃ T, T = txt (l.drop (sg0 l)) := ⟨_, rfl⟩
  have C := Lib.hid (fun w => signed_is w hs hG hT)
  have hq : T.toList = l.drop (sg0 l) := by rw [hT, II.toList_txt]
  have hg := txt_empty hG
  unfold spt at hX
  unfold spb at hb
  by_cases hn : l.drop (sg0 l) = NAN
  · rw [hn] at hq
    have hi : l.drop (sg0 l) ≠ INF := by rw [hn]; simp
    rw [if_neg hi, if_pos hn] at hX
    rw [decide_eq_true (.inr hn)] at hb
    have E := Lib.hid (And.intro hX hb)
    clear hs hX hb hn hi hT hG hg
    go_enter Tryz.func160, Tryz.ntmps160
    go_wp2_with (go_at_call 181; refine (C.out _).mono ?_; rintro e w' ⟨rfl, rfl⟩)
    go_ret2
    exact ⟨by rw [E.out.1, E.out.2]; rfl, rfl⟩
  by_cases hi : l.drop (sg0 l) = INF
  · rw [hi] at hq
    rw [if_pos hi] at hX
    rw [decide_eq_true (.inl hi)] at hb
    unfold mn at hX hg
    by_cases hm : bt l 0 = 45
    · rw [if_pos hm] at hX hg
      have E := Lib.hid (And.intro hX hb)
      clear hs hX hb hn hi hT hG hm
      go_enter Tryz.func160, Tryz.ntmps160
      go_wp2_with (go_at_call 181; refine (C.out _).mono ?_; rintro e w' ⟨rfl, rfl⟩)
      go_ret2
      exact ⟨by rw [E.out.1, E.out.2]; rfl, rfl⟩
    · rw [if_neg hm] at hX hg
      have E := Lib.hid (And.intro hX hb)
      clear hs hX hb hn hi hT hG hm
      go_enter Tryz.func160, Tryz.ntmps160
      go_wp2_with (go_at_call 181; refine (C.out _).mono ?_; rintro e w' ⟨rfl, rfl⟩)
      go_ret2
      exact ⟨by rw [E.out.1, E.out.2]; rfl, rfl⟩
  · rw [if_neg hi, if_neg hn] at hX
    rw [decide_eq_false (by rintro (h | h); exact hi h; exact hn h)] at hb
    have E := Lib.hid (And.intro hX hb)
    have q1 : (T.toList == [110, 97, 110]) = false := by rw [hq]; simpa using hn
    have q2 : (T.toList == [105, 110, 102]) = false := by rw [hq]; simpa using hi
    clear hs hX hb hn hi hT hG hq hg
    go_enter Tryz.func160, Tryz.ntmps160
    go_wp2_with (go_at_call 181; refine (C.out _).mono ?_; rintro e w' ⟨rfl, rfl⟩)
    go_ret2
    exact ⟨by rw [E.out.1, E.out.2]; rfl, rfl⟩
end Fl
end Go.Proofs.YtbeefjhcbphiaaaGreatDoor
/- strings.IndexRune at ASCII bytes for a rune above them; strings.IndexAny of a few ASCII bytes at any text. -/
namespace Go.Proofs.YtbeefjhcbphiaaaGreatDoor
open Go.RowKit
namespace Fl
open De

/-- All bytes below 128. -/
def Asc (s : ByteArray) : Prop := ∀ k (h : k < s.size), (s[k]'h).toNat < 128
theorem idx_none : ∀ (l : List UInt8) (c : UInt8), c ∉ l → Lib.indexByte l c = -1
  | [], _, _ => rfl
  | b :: l, c, h => by
    have h1 : b ≠ c := fun e => h (by simp [e])
    have h2 : c ∉ l := fun e => h (by simp [e])
    rw [Lib.indexByte, if_neg (by simpa using h1), idx_none l c h2]; rfl
theorem asc_mem {s : ByteArray} (h : Asc s) : ∀ b ∈ s.data.toList, b.toNat < 128 := by
  intro b hb
  obtain ⟨k, hk, rfl⟩ := List.mem_iff_getElem.1 hb
  have hk' : k < s.size := by rw [Array.length_toList] at hk; exact hk
  rw [Array.getElem_toList]
  exact h k hk'
theorem idxb_is {s : ByteArray} {c : Int} (w : World) (h : ∀ b ∈ s.data.toList, b.toNat < 128) (h1 : 128 ≤ c) (h2 : c ≤ 255) :
    Calls Tryz.prog 143 #[.string s, .int .u8 c] w fun e w' => e = .returned (.int .i64 (-1)) ∧ w = w' := by
  refine (Tryz.strings_IndexByte s c w).mono ?_
  rintro e w' ⟨rfl, rfl⟩
  rw [idx_none]
  · exact ⟨rfl, rfl⟩
  · intro hm
    have := h _ hm
    have e : (c.toNat.toUInt8).toNat = c.toNat := by
      show (UInt8.ofNat c.toNat).toNat = c.toNat
      rw [UInt8.toNat_ofNat_of_lt' (by simp [UInt8.size]; omega)]
    omega
theorem vrune_is {r : Int} {b : Bool} (w : World) (h : b = Lib.validRune r) : Calls Tryz.prog 230 #[.int .i32 r] w fun e w' => e = .returned (.bool b) ∧ w = w' := by
  refine (Tryz.utf8_ValidRune r w).mono ?_
  rintro e w' ⟨rfl, rfl⟩
  exact ⟨by rw [h], rfl⟩
set_option maxHeartbeats 8000000 in
set_option maxRecDepth 100000 in
theorem rune_hi {s : ByteArray} {r : Int} (w : World) (ha : Asc s) (h0 : 128 ≤ r) (h1 : r ≤ 2147483647) :
    Calls Tryz.prog 217 #[.string s, .int .i32 r] w fun e w' => e = .returned (.int .i64 (-1)) ∧ Below w.heap.size w w' := by
  have HA := Lib.hid ha
  clear ha
  by_cases h3 : r = 65533
  · subst h3
    go_enter Tryz.func217, Tryz.ntmps217
    go_wp2_with fail
    go_loopg [5, 6] s.size (fun g _ _ wx => ∃ i : Nat, i + g = s.size ∧ wx = w.iter s i)
    case atStart => exact ⟨0, by omega, rfl⟩
    case round =>
      obtain ⟨i, hig, rfl⟩ := hrel
      cases gk with
      | zero =>
        obtain rfl : i = s.size := by omega
        have hnx := run_next_end (P := Tryz.prog) w s s.size
        go_wp2_with fail
        go_ret
        exact ⟨rfl, (Below.refl _ _).alloc (Nat.le_refl _) _⟩
      | succ g =>
        have hi : i < s.size := by omega
        obtain ⟨x, hx⟩ : ∃ x : Nat, (s[i]'hi).toNat = x := ⟨_, rfl⟩
        have hx128 : x < 128 := by rw [← hx]; exact HA.out i hi
        have hnx := fun ty => run_next_ascii (P := Tryz.prog) w s i ty hi (by rw [hx]; exact hx128)
        rw [hx] at hnx
        have hne : ((x : Int) == 65533) = false := by simp; omega
        clear hx
        go_wp2_with fail
        go_roundg g
        case measure => omega
        case rel => exact ⟨i + 1, by omega, rfl⟩
  · have h3' : (r == 65533) = false := by simpa using h3
    clear h3
    obtain ⟨v, hv⟩ : ∃ v, v = Lib.validRune r := ⟨_, rfl⟩
    have V := Lib.hid (fun w => vrune_is w hv)
    cases v
    · clear hv
      go_enter Tryz.func217, Tryz.ntmps217
      go_wp2_with (go_at_call 230; refine (V.out _).mono ?_; rintro e w' ⟨rfl, rfl⟩)
      go_ret
      exact ⟨rfl, Below.refl _ _⟩
    · have hval : Utf8.valid r = true := by
        rw [validRune_eq]
        unfold Lib.validRune at hv
        unfold validRune
        simpa using hv.symm
      obtain ⟨z2, z4, zl⟩ := encode_facts r hval h0
      obtain ⟨R, hR⟩ : ∃ R, R = Utf8.encode r := ⟨_, rfl⟩
      rw [← hR] at z2 z4 zl
      clear hval hv
      obtain ⟨n, hn⟩ : ∃ n, R.size = n + 1 := ⟨R.size - 1, by omega⟩
      have hlast : ∀ h : n < R.size, 128 ≤ ((R[n]'h).toNat : Int) := fun h => by
        have := zl (by omega)
        have e : R.size - 1 = n := by omega
        simp only [e] at this
        omega
      have hn1 : 1 ≤ n := by omega
      have hn3 : n ≤ 3 := by omega
      obtain ⟨c, hc⟩ : ∃ c : Int, c = ((R[n]'(by omega)).toNat : Int) := ⟨_, rfl⟩
      have hx : ∀ h : n < R.size, ((R[n]'h).toNat : Int) = c := fun h => hc.symm
      have c0 : 128 ≤ c := by rw [hc]; exact hlast (by omega)
      have c1 : c ≤ 255 := by rw [hc]; have := (R[n]'(by omega)).toNat_lt; omega
      clear zl hlast hc z2 z4
      have ib := Lib.hid (fun (a b : Nat) w => idxb_is (s := s.extract a b) (c := c) w (fun b hb => asc_mem HA.out b (mem_extract hb)) c0 c1)
      go_enter Tryz.func217, Tryz.ntmps217
      have hR' := hR.symm
      clear hR
      go_wp2_with (go_at_call 230; refine (V.out _).mono ?_; rintro e w' ⟨rfl, rfl⟩)
      go_step3
      go_wp2_with fail
      clear hR'
      go_loopw [9, 10] (fun a b wx => a = .int .i64 n ∧ b = .int .i64 0 ∧ wx = w) (fun _ _ _ => 0)
      case atStart => exact ⟨rfl, rfl, rfl⟩
      case round =>
        obtain ⟨rfl, rfl, rfl⟩ := hrel
        by_cases hlt : n < s.size
        · obtain ⟨x, hxx⟩ : ∃ x : Int, x = ((s[n]'hlt).toNat : Int) := ⟨_, rfl⟩
          have hxs : ∀ h : n < s.size, ((s[n]'h).toNat : Int) = x := fun h => hxx.symm
          have x1 : x < 128 := by rw [hxx]; have := HA.out n hlt; omega
          have hne : (x == c) = false := by simp; omega
          clear hxx
          go_wp2_with fail
          go_step3
          go_upto_region 6 with fail
          go_quiet (fail)
          go_upto_region 7 with fail
          go_quiet (first | (go_at_call 143; refine (ib.out _ _ _).mono ?_; rintro _ _ ⟨rfl, rfl⟩; exact ⟨rfl, _, rfl⟩))
          go_wp2_with fail
          rw [Exit.noGoto_ret]
          simp (config := { zetaDelta := true }) only [Exit.inBlock, Exit.then, Exit.noGoto]
          go_ret
          exact ⟨rfl, belowDrewN (Below.refl _ _) _⟩
        · go_wp2_with fail
          rw [Exit.noGoto_ret]
          go_ret
          exact ⟨rfl, Below.refl _ _⟩
/-- None of the bytes from i on to j is among these. -/
theorem noAny_step {s : ByteArray} {m : List UInt8} {i n : Nat} (hm : ∀ c ∈ m, c.toNat < 128) (h : Lib.NoAny s.data.toList m i) (hh : ∀ k, i ≤ k → k < i + n → ∀ b, s.data.toList[k]? = some b → 128 ≤ b.toNat) : Lib.NoAny s.data.toList m (i + n) := fun j b hj hb => by
  by_cases hji : j < i
  · exact h j b hji hb
  · have h1 := hh j (by omega) hj b hb
    cases hc : m.contains b
    · rfl
    · rw [List.contains_iff_mem] at hc
      have := hm b hc
      omega
/-- What a rune above ASCII is read of. -/
theorem decode_bytes (s : ByteArray) (i : Nat) (h : i < s.size) (ha : 128 ≤ (s[i]'h).toNat) : i + (Utf8.decode s i).2 ≤ s.size ∧ ∀ k, i ≤ k → k < i + (Utf8.decode s i).2 → ∀ b, s.data.toList[k]? = some b → 128 ≤ b.toNat := by
  have hn : ¬ (s[i]'h).toNat < 128 := by omega
  have hk : ∀ (k : Nat) b, s.data.toList[i + k]? = some b → (s.get! (i + k)).toNat = b.toNat := fun k b hb => by
    obtain ⟨hlt, e⟩ := List.getElem?_eq_some_iff.1 hb
    rw [Array.length_toList] at hlt
    have hlt' : i + k < s.size := hlt
    have e2 : s.get! (i + k) = s[i + k]'hlt' := by
      have := get_at s (i + k) hlt'
      rwa [Nat.add_zero] at this
    rw [e2, ← e, Array.getElem_toList]; rfl
  have h0 : ∀ b, s.data.toList[i]? = some b → 128 ≤ b.toNat := fun b hb => by
    have := hk 0 b hb
    rw [get_at s i h] at this
    omega
  have core : ∀ n, (∀ k, 1 ≤ k → k < n → i + k < s.size ∧ (s.get! (i + k)).toNat / 64 = 2) → 1 ≤ n → i + n ≤ s.size ∧ ∀ k, i ≤ k → k < i + n → ∀ b, s.data.toList[k]? = some b → 128 ≤ b.toNat := by
    intro n hc h1
    refine ⟨?_, fun k h2 h3 b hb => ?_⟩
    · by_cases hn1 : n = 1
      · omega
      · have := (hc (n - 1) (by omega) (by omega)).1; omega
    · obtain ⟨d, rfl⟩ : ∃ d, k = i + d := ⟨k - i, by omega⟩
      by_cases hd : d = 0
      · subst hd; exact h0 b hb
      · have h4 := hc d (by omega) (by omega)
        rw [hk d b hb] at h4
        omega
  simp only [Utf8.decode, get_at s i h, hn, if_false]
  have one := core 1 (fun k a b => by omega) (Nat.le_refl _)
  split
  · rename_i g
    simp only [Bool.and_eq_true, decide_eq_true_eq, beq_iff_eq] at g
    split
    · exact core 2 (fun k a b => by obtain rfl : k = 1 := by omega
                                    exact g.2) (by omega)
    · exact one
  · split
    · rename_i g
      simp only [Bool.and_eq_true, decide_eq_true_eq, beq_iff_eq] at g
      split
      · exact core 3 (fun k a b => by
          rcases (show k = 1 ∨ k = 2 by omega) with rfl | rfl
          · exact g.1.2
          · exact g.2) (by omega)
      · exact one
    · split
      · rename_i g
        simp only [Bool.and_eq_true, decide_eq_true_eq, beq_iff_eq] at g
        split
        · exact core 4 (fun k a b => by
            rcases (show k = 1 ∨ k = 2 ∨ k = 3 by omega) with rfl | rfl | rfl
            · exact g.1.1.2
            · exact g.1.2
            · exact g.2) (by omega)
        · exact one
      · exact one
theorem shld_is {n : Int} {b : Bool} (w : World) (h : b = decide (8 < n)) : Calls Tryz.prog 225 #[.int .i64 n] w fun e w' => e = .returned (.bool b) ∧ w = w' := by
  refine (Tryz.strings_shouldUseASCIISet n w).mono ?_
  rintro e w' ⟨rfl, rfl⟩
  exact ⟨by rw [h], rfl⟩
theorem rune_lo {s : ByteArray} {r x : Int} (w : World) (h0 : 0 ≤ r) (h1 : r < 128) (hx : x = Lib.indexByte s.data.toList r.toNat.toUInt8) : Calls Tryz.prog 217 #[.string s, .int .i32 r] w fun e w' => e = .returned (.int .i64 x) ∧ w = w' := by
  refine (Tryz.strings_IndexRune_ascii s r w h0 h1).mono ?_
  rintro e w' ⟨rfl, rfl⟩
  exact ⟨by rw [hx], rfl⟩
/-- The model's row over a text: where it stands, with whatever came behind it. -/
def ItR (w : World) (s : ByteArray) (i : Nat) (wx : World) : Prop := Below w.heap.size w wx ∧ wx.heap[w.heap.size]? = some (.stringIter s i)
theorem ItR.on {w W w' : World} {s : ByteArray} {i : Nat} (h : ItR w s i W) (hb : Below W.heap.size W w') : ItR w s i w' := by
  have hlt : w.heap.size < W.heap.size := (Array.getElem?_eq_some_iff.1 h.2).1
  exact ⟨h.1.trans (hb.mono (by omega)), by rw [hb.block _ hlt]; exact h.2⟩
set_option maxHeartbeats 8000000 in
set_option maxRecDepth 100000 in
theorem any_short {s m : ByteArray} {x : Int} (w : World) (hz : s.size ≤ 8) (h2 : 2 ≤ m.size) (hm8 : m.size ≤ 8) (hm : Asc m) (hx : x = Lib.indexAny s.data.toList m.data.toList) :
    Calls Tryz.prog 205 #[.string s, .string m] w fun e w' => e = .returned (.int .i64 x) ∧ Below w.heap.size w w' := by
  have HM := Lib.hid (asc_mem hm)
  have HMA := Lib.hid hm
  have HX := Lib.hid hx
  have hemp : m.toList.isEmpty = false := by
    rw [Lib.toList_data]
    cases h : m.data.toList with
    | nil => have := Lib.size_eq m; rw [h, List.length_nil] at this; omega
    | cons _ _ => rfl
  have hn1 : ((m.size : Int) == 1) = false := by simp; omega
  have SH := Lib.hid (fun w => shld_is (n := (s.size : Int)) (b := false) w (by rw [decide_eq_false (by omega)]))
  clear hm hx
  go_enter Tryz.func205, Tryz.ntmps205
  go_wp2_with (go_at_call 225; refine (SH.out _).mono ?_; rintro e w' ⟨rfl, rfl⟩)
  go_loopg [9, 10] s.size (fun g _ _ wx => ∃ i : Nat, i ≤ s.size ∧ s.size ≤ i + g ∧ Hid (ItR w s i wx) ∧ Hid (Lib.NoAny s.data.toList m.data.toList i))
  case atStart => exact ⟨0, by omega, by omega, Lib.hid ⟨(Below.refl _ _).alloc (Nat.le_refl _) _, World.iter_heap _ _ _⟩, Lib.hid (Lib.NoAny.zero _ _)⟩
  case round =>
    obtain ⟨i, hi, hig, HI, HN⟩ := hrel
    by_cases hlt : i < s.size
    · obtain ⟨g, rfl⟩ : ∃ g, gk = g + 1 := ⟨gk - 1, by omega⟩
      obtain ⟨y, hy⟩ : ∃ y : UInt8, s[i]'hlt = y := ⟨_, rfl⟩
      have hyl : s.data.toList[i]? = some y := by rw [← hy]; exact Lib.data_getElem? s i hlt
      by_cases hlo : y.toNat < 128
      · have hnx := fun ty => Lib.run_next_ascii_at (P := Tryz.prog) wr w.heap.size s i ty HI.out.2 hlt (by rw [hy]; exact hlo)
        rw [hy] at hnx
        have HI2 := Lib.hid (show ItR w s (i + 1) (wr.iterAt w.heap.size s (i + 1)) from ⟨Lib.below_iterAt HI.out.1 (Nat.le_refl _) _ _, Lib.iterAt_heap _ _ _ _ _ HI.out.2⟩)
        generalize wr.iterAt w.heap.size s (i + 1) = W at *
        have hcon := Lib.contains_iff_indexByte m.data.toList y
        have hyn : ((y.toNat : Int)).toNat.toUInt8 = y := by simp
        obtain ⟨z, hz'⟩ : ∃ z, z = Lib.indexByte m.data.toList y := ⟨_, rfl⟩
        have RL := Lib.hid (fun w => rune_lo (s := m) (r := (y.toNat : Int)) (x := z) w (by omega) (by omega) (by rw [hyn]; exact hz'))
        rw [← hz'] at hcon
        have HY := Lib.hid hyl
        clear hy hyl hyn hz'
        cases hin : m.data.toList.contains y
        · rw [hin] at hcon
          have hlt' : ¬ ((0 : Int) ≤ z) := of_decide_eq_false hcon.symm
          have HN2 := Lib.hid (HN.out.succ HY.out hin)
          clear hcon hin
          go_wp2_with (go_at_call 217; refine (RL.out _).mono ?_; rintro e w' ⟨rfl, rfl⟩)
          go_roundg g
          case measure => omega
          case rel => exact ⟨i + 1, by omega, by omega, HI2, HN2⟩
        · rw [hin] at hcon
          have hge : (0 : Int) ≤ z := of_decide_eq_true hcon.symm
          have E := Lib.hid (show x = i by rw [HX.out]; exact Lib.indexAny_hit HN.out HY.out hin)
          clear hcon hin
          go_wp2_with (go_at_call 217; refine (RL.out _).mono ?_; rintro e w' ⟨rfl, rfl⟩)
          go_ret
          exact ⟨by rw [E.out]; rfl, HI2.out.1⟩
      · have hdec := decode_bytes s i hlt (by rw [hy]; omega)
        have hhi := decode_high s i hlt (by rw [hy]; omega)
        have hle := decode_le s i
        obtain ⟨d, hd⟩ : ∃ d, d = Utf8.decode s i := ⟨_, rfl⟩
        have hnx := fun ty => Lib.run_next_any_at (P := Tryz.prog) wr w.heap.size s i ty HI.out.2 hlt
        rw [← hd] at hnx hdec hhi hle
        have HI2 := Lib.hid (show ItR w s (i + d.2) (wr.iterAt w.heap.size s (i + d.2)) from ⟨Lib.below_iterAt HI.out.1 (Nat.le_refl _) _ _, Lib.iterAt_heap _ _ _ _ _ HI.out.2⟩)
        generalize wr.iterAt w.heap.size s (i + d.2) = W at *
        have HN2 := Lib.hid (noAny_step HM.out HN.out hdec.2)
        obtain ⟨r, n⟩ := d
        have RH := Lib.hid (fun w => rune_hi (s := m) (r := (r : Int)) w HMA.out (by have := hhi.1; simp only at this; omega) (by simp only at hle; omega))
        have hn := hhi.2
        have hsz := hdec.1
        simp only at hn hsz hnx HI2 HN2
        clear hy hyl hd hdec hhi hle
        go_wp2_with (go_at_call 217; refine (RH.out _).mono ?_; rintro e w' ⟨rfl, hb⟩)
        have HI3 := Lib.hid (ItR.on HI2.out hb)
        clear hb
        go_roundg g
        case measure => omega
        case rel => exact ⟨i + n, by omega, by omega, HI3, HN2⟩
    · have hnx := fun ty => Lib.run_next_end_at (P := Tryz.prog) wr w.heap.size s i ty HI.out.2 hlt
      have E := Lib.hid (show x = -1 by rw [HX.out]; exact Lib.indexAny_none (show Lib.NoAny s.data.toList m.data.toList s.data.toList.length from by rw [← Lib.size_eq, ← show i = s.size by omega]; exact HN.out))
      go_wp2_with fail
      go_ret
      exact ⟨by rw [E.out]; rfl, HI.out.1⟩
end Fl
end Go.Proofs.YtbeefjhcbphiaaaGreatDoor
/- What landed: digits with marks, an integer's text. -/
namespace Go.Proofs.YtbeefjhcbphiaaaGreatDoor
open Go.RowKit
namespace Fl
open De

theorem sp_at {l : List UInt8} {k : Nat} (h : k < l.length) (p : Bool) : sp p (l.drop k) = if bt l k = 95 then p && sp false (l.drop (k + 1)) else nmr (bt l k) && sp true (l.drop (k + 1)) := by
  have hb : bt l k = ((l[k]).toNat : Int) := by simp [bt, h]
  rw [List.drop_eq_getElem_cons h, sp]
  have e : (l[k] = 95) ↔ bt l k = 95 := by
    rw [hb]
    exact ⟨fun e => by rw [e]; rfl, fun e => UInt8.toNat_inj.1 (show (l[k]).toNat = 95 by omega)⟩
  by_cases h95 : bt l k = 95
  · rw [if_pos (e.2 h95), if_pos h95]
  · rw [if_neg (fun g => h95 (e.1 g)), if_neg h95, hb]; rfl
def SpL (l : List UInt8) (k : Nat) (y : Int) : Prop := k ≤ l.length ∧ sp false l = sp (decide (y ≠ 95)) (l.drop k)
set_option maxHeartbeats 4000000 in
set_option maxRecDepth 100000 in
theorem spaced_is {l : List UInt8} {s : ByteArray} {x : Bool} (w : World) (hs : s = txt l) (hl : l.length ≤ 100000) (hx : x = sp false l) :
    Calls Tryz.prog 206 #[.string s] w fun e w' => e = .returned (.bool x) ∧ w = w' := by
  have HS := Lib.hid hs
  have HZ := Lib.hid (show s.size = l.length by rw [hs, txt_size])
  have hsz : s.size ≤ 100000 := by rw [HZ.out]; exact hl
  have HX := Lib.hid hx
  have R0 : Hid (SpL l 0 95) := Lib.hid ⟨Nat.zero_le _, rfl⟩
  clear hs hl hx
  go_enter Tryz.func206, Tryz.ntmps206
  go_wp2_with fail
  go_loop [3, 8] (fun v i => ∃ (k : Nat) (y : Int), i = .int .i64 k ∧ v = .int .u8 y ∧ Hid (SpL l k y)) (fun _ i => s.size - (intOf i).toNat)
  case atStart => exact ⟨0, 95, rfl, rfl, R0⟩
  case round =>
    obtain ⟨k, y, rfl, rfl, HR⟩ := hrel
    clear R0
    by_cases hlt : k < s.size
    · have hkr : k < l.length := by rw [← HZ.out]; exact hlt
      have hx := txt_at HS.out (k := k)
      have E0 := HR.out.2.trans (sp_at hkr _)
      obtain ⟨z, hz⟩ : ∃ z, z = bt l k := ⟨_, rfl⟩
      rw [← hz] at hx E0
      have HZZ := Lib.hid hz
      clear hz
      by_cases h95 : z = 95
      · rw [if_pos h95] at E0
        have HE0 := Lib.hid E0
        clear E0
        subst h95
        by_cases hy : y = 95
        · have F := Lib.hid (show x = false by rw [HX.out, HE0.out, hy]; rfl)
          subst hy
          go_wp2_with fail
          go_ret
          exact ⟨ret_bool (by rw [F.out]), rfl⟩
        · have hyi : (y == 95) = false := by simp [hy]
          have F : Hid (SpL l (k + 1) 95) := Lib.hid ⟨hkr, by rw [HE0.out, decide_eq_true hy]; rfl⟩
          go_wp2_with fail
          go_round
          case rel => exact ⟨k + 1, 95, by go_num, rfl, F⟩
          case measure => simp [intOf]; omega
      · rw [if_neg h95] at E0
        have HE0 := Lib.hid E0
        clear E0
        have hzi : (z == 95) = false := by simp [h95]
        by_cases g1 : z < 48
        · have F := Lib.hid (show x = false by rw [HX.out, HE0.out, nmr_no (.inl g1)]; rfl)
          go_wp2_with fail
          go_ret
          exact ⟨ret_bool (by rw [F.out]), rfl⟩
        · by_cases g2 : 57 < z
          · have F := Lib.hid (show x = false by rw [HX.out, HE0.out, nmr_no (.inr g2)]; rfl)
            go_wp2_with fail
            go_ret
            exact ⟨ret_bool (by rw [F.out]), rfl⟩
          · have hn : nmr z = true := by simp [nmr]; omega
            have F : Hid (SpL l (k + 1) z) := Lib.hid ⟨hkr, by rw [HE0.out, hn, decide_eq_true h95]; rfl⟩
            clear hn
            go_wp2_with fail
            go_round
            case rel => exact ⟨k + 1, z, by go_num, rfl, F⟩
            case measure => simp [intOf]; omega
    · have F := Lib.hid (show x = decide (y ≠ 95) by
        rw [HX.out, HR.out.2, List.drop_eq_nil_of_le (by rw [← HZ.out]; omega)]; rfl)
      go_wp2_with fail
      go_ret
      exact ⟨ret_bool (by rw [F.out]; by_cases h : y = 95 <;> simp [h]), rfl⟩
/-- The codes that tell an integer's text. -/
theorem code_good (d : List UInt8) : ∃ T c, II.irv (II.In.rd (43 :: d)) = .tuple #[.string T, .int .i64 c] ∧ II.In.good 10 d = (decide (c = 0) || decide (c = 8)) ∧ (c = 0 ∨ c = 3 ∨ c = 8) := by
  have e : II.In.rd (43 :: d) = II.In.body 10 false d := rfl
  rw [e]
  cases hg : II.In.good 10 d
  · rw [II.In.body_bad hg]
    exact ⟨_, 3, rfl, rfl, .inr (.inl rfl)⟩
  · obtain ⟨v, _, hv, _⟩ := II.In.body_good (m := false) hg
    rw [hv, II.In.fin_some]
    split
    · exact ⟨_, 0, rfl, rfl, .inl rfl⟩
    · exact ⟨_, 8, rfl, rfl, .inr (.inr rfl)⟩
theorem integer_is {l : List UInt8} {s : ByteArray} {x : Bool} (w : World) (hs : s = txt l) (hl : l.length ≤ 90000) (hx : x = II.In.good 10 l) (hT : II.Tab w) :
    Calls Tryz.prog 207 #[.string s] w fun e w' => e = .returned (.bool x) ∧ Below w.heap.size w w' := by
  obtain ⟨T, c, hc, hg, hcc⟩ := code_good l
  obtain ⟨S, hS⟩ : ∃ S, S = (⟨#[43]⟩ : ByteArray) ++ s := ⟨_, rfl⟩
  have hz : s.size ≤ 90000 := by rw [hs, txt_size]; exact hl
  have C := Lib.hid (fun w h => II.pread_is (l := 43 :: l) (s := S) w (by rw [hS, hs, show (⟨#[43]⟩ : ByteArray) = txt [43] from rfl, txt_app]; rfl) (by simp; omega) rfl h)
  rw [hc] at C
  have HS := Lib.hid hS
  have HT := Lib.hid hT
  have HX := Lib.hid (hx.trans hg)
  clear hs hl hx hc hg hS hT
  have KEY : ∀ (c' : Int) (x' : Bool), c = c' → x = x' → (c' = 0 ∧ x' = true ∨ c' = 3 ∧ x' = false ∨ c' = 8 ∧ x' = true) → Calls Tryz.prog 207 #[.string s] w fun e w' => e = .returned (.bool x) ∧ Below w.heap.size w w' := by
    intro c' x' e1 e2 h
    subst e1 e2
    clear HX hcc
    rcases h with ⟨rfl, rfl⟩ | ⟨rfl, rfl⟩ | ⟨rfl, rfl⟩
    all_goals
      go_enter Tryz.func207, Tryz.ntmps207
      go_wp2_with (go_at_call 144; rw [← HS.out]; refine (C.out _ HT.out).mono ?_; rintro e w1 ⟨rfl, hb⟩)
      go_ret
      exact ⟨rfl, hb⟩
  rcases hcc with rfl | rfl | rfl
  · exact KEY 0 true rfl HX.out (.inl ⟨rfl, rfl⟩)
  · exact KEY 3 false rfl HX.out (.inr (.inl ⟨rfl, rfl⟩))
  · exact KEY 8 true rfl HX.out (.inr (.inr ⟨rfl, rfl⟩))
end Fl
end Go.Proofs.YtbeefjhcbphiaaaGreatDoor
/- What landed: a text cut ahead of some bytes. -/
namespace Go.Proofs.YtbeefjhcbphiaaaGreatDoor
open Go.RowKit Go.Lib
namespace Fl
open De

theorem asc_txt {m : List UInt8} {M : ByteArray} (hM : M = txt m) (ha : ∀ c ∈ m, c.toNat < 128) : Asc M ∧ ∀ (j : Nat) b, M.data.toList[j]? = some b → b.toNat < 128 := by
  have e : M.data.toList = m := data_txt hM
  refine ⟨fun k h => ?_, fun j b hb => ?_⟩
  · apply ha
    rw [← e]
    exact Array.getElem_mem_toList (xs := M.data) h
  · rw [e] at hb
    exact ha b (List.mem_of_getElem? hb)
theorem iany_is {l m : List UInt8} {s M : ByteArray} {x : Int} (w : World) (hs : s = txt l) (hM : M = txt m) (hl : l.length ≤ 100000) (h1 : 1 ≤ m.length) (h8 : m.length ≤ 8) (ha : ∀ c ∈ m, c.toNat < 128) (hx : x = Lib.indexAny l m) :
    Calls Tryz.prog 205 #[.string s, .string M] w fun e w' => e = .returned (.int .i64 x) ∧ Below w.heap.size w w' := by
  obtain ⟨a1, a2⟩ := asc_txt hM ha
  have zs : s.size = l.length := by rw [hs, txt_size]
  have zm : M.size = m.length := by rw [hM, txt_size]
  have ds := data_txt hs
  have dm := data_txt hM
  by_cases hone : m.length = 1
  · refine (Tryz.strings_IndexAny_one s M w (by omega) a2).mono ?_
    rintro e w' ⟨rfl, rfl⟩
    rw [ds, dm, hx]; exact ⟨rfl, Below.refl _ _⟩
  · by_cases hsh : s.size ≤ 8
    · exact any_short w hsh (by omega) (by omega) a1 (by rw [ds, dm, hx])
    · refine (Tryz.strings_IndexAny_long (zero_of_info (n := 256) (by kernel_rfl)).1 s M w (by omega) (by omega) (by omega) (by omega) a2).mono ?_
      rintro e w' ⟨rfl, rfl⟩
      rw [ds, dm, hx]
      exact ⟨rfl, ((Below.refl _ _).alloc (Nat.le_refl _) _).alloc (by simp) _⟩
/-- What lies ahead of the first one of some bytes, and the rest. -/
def ctA (l m : List UInt8) : List UInt8 := l.takeWhile (fun x => !m.contains x)
def ctB (l m : List UInt8) : List UInt8 := l.dropWhile (fun x => !m.contains x)
theorem ct_app (l m : List UInt8) : ctA l m ++ ctB l m = l := List.takeWhile_append_dropWhile
theorem cut_is {l m : List UInt8} {s M A B : ByteArray} (w : World) (hs : s = txt l) (hM : M = txt m) (hl : l.length ≤ 100000) (h1 : 1 ≤ m.length) (h8 : m.length ≤ 8) (ha : ∀ c ∈ m, c.toNat < 128) (hA : A = txt (ctA l m)) (hB : B = txt (ctB l m)) :
    Calls Tryz.prog 182 #[.string s, .string M] w fun e w' => e = .returned (.tuple #[.string A, .string B]) ∧ Below w.heap.size w w' := by
  have zs : s.size = l.length := by rw [hs, txt_size]
  have hsz : s.size ≤ 100000 := by omega
  have hx : Lib.indexAny l m = if ctB l m = [] then -1 else ((ctA l m).length : Int) := indexAny_tk m l
  have hlen : (ctA l m).length + (ctB l m).length = l.length := by rw [← List.length_append, ct_app]
  by_cases hb : ctB l m = []
  · have e : Lib.indexAny l m = -1 := by rw [hx, if_pos hb]
    have C := Lib.hid (fun w => iany_is (x := -1) w hs hM hl h1 h8 ha e.symm)
    have EB := Lib.hid (show B = ⟨#[]⟩ by rw [hB, hb]; rfl)
    have EA := Lib.hid (show A = s by rw [hA, hs]; congr 1; have := ct_app l m; rw [hb, List.append_nil] at this; exact this)
    clear hs hM hl h1 h8 ha hA hB hx hb e zs hlen
    go_enter Tryz.func182, Tryz.ntmps182
    go_wp2_with (go_at_call 205; refine (C.out _).mono ?_; rintro e w1 ⟨rfl, hb⟩)
    go_ret2
    exact ⟨by rw [EA.out, EB.out]; rfl, hb⟩
  · obtain ⟨k, hk⟩ : ∃ k, k = (ctA l m).length := ⟨_, rfl⟩
    have e : Lib.indexAny l m = (k : Int) := by rw [hx, if_neg hb, hk]
    have hks : k ≤ s.size := by omega
    have C := Lib.hid (fun w => iany_is (x := (k : Int)) w hs hM hl h1 h8 ha e.symm)
    have EA := Lib.hid (show s.extract 0 k = A by rw [hs, txt_take, hA, hk]; congr 1; exact (tk_dr _ l).1)
    have EB := Lib.hid (show s.extract k s.size = B by rw [hs, txt_drop, hB, hk]; congr 1; exact (tk_dr _ l).2)
    clear hs hM hl h1 h8 ha hA hB hx hb e zs hlen hk
    go_enter Tryz.func182, Tryz.ntmps182
    go_upto_region 3 with (go_at_call 205; refine (C.out _).mono ?_; rintro e w1 ⟨rfl, hb⟩)
    have HB := Lib.hid hb
    clear hb
    go_quiet (fail)
    go_wp2_with fail
    go_ret2
    exact ⟨by rw [← EA.out, ← EB.out]; rfl, belowDrewN HB.out _⟩
end Fl
end Go.Proofs.YtbeefjhcbphiaaaGreatDoor
/- What landed: parts put together, whether they are sound, a text split. -/
namespace Go.Proofs.YtbeefjhcbphiaaaGreatDoor
open Go.RowKit
namespace Fl
open De

/-- The library's bound on what is looked up in place lies in its cell. -/
def MxL (w : World) : Prop := ∃ m, w.cell? ⟨2, 0, none⟩ = some (.int .i64 m)
theorem MxL.below {w w' : World} (h : MxL w) (hb : Below w.heap.size w w') : MxL w' := by
  obtain ⟨m, hm⟩ := h
  exact ⟨m, by rw [hb.cell (II.cell_lt hm)]; exact hm⟩
theorem MxL.drewN {w : World} (h : MxL w) (k : Nat) : MxL (w.drewN k) := h
/-- A float's text in parts. -/
abbrev wv (m a p e : ByteArray) : Value := .agg #[.string m, .string a, .string p, .string e]
abbrev wo (m a p e : ByteArray) : Obj := .cells #[.string m, .string a, .string p, .string e] 219
abbrev sl4 (a b c d : ByteArray) : Obj := .cells #[.string a, .string b, .string c, .string d] 9
theorem join_any {a b c d : List UInt8} {A B C D T : ByteArray} (bk : Nat) (w : World) (hA : A = txt a) (hB : B = txt b) (hC : C = txt c) (hD : D = txt d) (hl : a.length + (b.length + (c.length + d.length)) ≤ 1000000) (hT : T = txt (a ++ (b ++ (c ++ d))))
    (h0 : w.cell? ⟨bk, 0, none⟩ = some (.string A)) (h1 : w.cell? ⟨bk, 1, none⟩ = some (.string B)) (h2 : w.cell? ⟨bk, 2, none⟩ = some (.string C)) (h3 : w.cell? ⟨bk, 3, none⟩ = some (.string D)) :
    Calls Tryz.prog 214 #[.slice (some ⟨bk, 0, none⟩) 4 4, .string ⟨#[]⟩] w fun e w' => e = .returned (.string T) ∧ Below w.heap.size w w' := by
  have hj : Lib.join ([A, B, C, D].map (·.data.toList)) (⟨#[]⟩ : ByteArray).data.toList = a ++ (b ++ (c ++ d)) := by
    simp only [List.map_cons, List.map_nil]
    rw [data_txt hA, data_txt hB, data_txt hC, data_txt hD]
    exact join_four a b c d
  refine (Tryz.strings_Join bk 0 4 [A, B, C, D] ⟨#[]⟩ w ?_ (II.cell_lt h0) (by simp) (by simp) ?_).mono ?_
  · intro j x hx
    rw [Nat.zero_add]
    match j, hx with
    | 0, hx => obtain rfl : A = x := by simpa using hx
               exact h0
    | 1, hx => obtain rfl : B = x := by simpa using hx
               exact h1
    | 2, hx => obtain rfl : C = x := by simpa using hx
               exact h2
    | 3, hx => obtain rfl : D = x := by simpa using hx
               exact h3
    | n + 4, hx => simp at hx
  · rw [hj]; simp only [List.length_append]; omega
  · rintro e w' ⟨rfl, hb⟩
    rw [hj, hT]
    exact ⟨rfl, hb⟩
theorem repl_any {l : List UInt8} {s T : ByteArray} (w : World) (hs : s = txt l) (hl : l.length ≤ 1000000) (hT : T = txt (st l)) (hm : MxL w) :
    Calls Tryz.prog 213 #[.string s, .string ⟨#[95]⟩, .string ⟨#[]⟩] w fun e w' => e = .returned (.string T) ∧ Below w.heap.size w w' := by
  obtain ⟨m, hm⟩ := hm
  have z : s.size = l.length := by rw [hs, txt_size]
  refine (Tryz.strings_ReplaceAll s ⟨#[95]⟩ ⟨#[]⟩ m w (by omega) hm (by show 1 ≤ 1; omega) (by show s.size + _ * 0 ≤ _; omega)).mono ?_
  rintro e w' ⟨rfl, hb⟩
  rw [data_txt hs, show (⟨#[95]⟩ : ByteArray).data.toList = [95] from rfl, show (⟨#[]⟩ : ByteArray).data.toList = [] from rfl, replaceAll_st, hT]
  exact ⟨rfl, hb⟩
theorem together_is {a b c d : List UInt8} {A B C D T : ByteArray} (bk : Nat) (w : World) (hA : A = txt a) (hB : B = txt b) (hC : C = txt c) (hD : D = txt d) (hl : a.length + (b.length + (c.length + d.length)) ≤ 1000000) (hT : T = txt (st (a ++ (b ++ (c ++ d)))))
    (h0 : w.cell? ⟨bk, 0, none⟩ = some (.string A)) (h1 : w.cell? ⟨bk, 1, none⟩ = some (.string B)) (h2 : w.cell? ⟨bk, 2, none⟩ = some (.string C)) (h3 : w.cell? ⟨bk, 3, none⟩ = some (.string D)) (hm : MxL w) :
    Calls Tryz.prog 186 #[.slice (some ⟨bk, 0, none⟩) 4 4] w fun e w' => e = .returned (.string T) ∧ Below w.heap.size w w' := by
  obtain ⟨J, hJ⟩ : ∃ J, J = txt (a ++ (b ++ (c ++ d))) := ⟨_, rfl⟩
  have CJ := Lib.hid (join_any bk w hA hB hC hD hl hJ h0 h1 h2 h3)
  have CR := Lib.hid (fun w h => repl_any (T := T) w hJ (by simp only [List.length_append]; omega) hT h)
  have HM := Lib.hid hm
  clear hA hB hC hD hl hT h0 h1 h2 h3 hJ hm
  go_enter Tryz.func186, Tryz.ntmps186
  go_wp2_with fail
  refine CJ.out.mono ?_
  rintro e w1 ⟨rfl, hb⟩
  have HB := Lib.hid hb
  clear hb
  go_wp2_with fail
  refine (CR.out _ (HM.out.below HB.out)).mono ?_
  rintro e w2 ⟨rfl, hb⟩
  have HB2 := Lib.hid (II.below_tr HB.out hb)
  clear hb
  go_wp2_with fail
  go_ret
  exact ⟨rfl, HB2.out⟩
theorem number_is {a b c d : List UInt8} {A B C D T : ByteArray} (w : World) (hA : A = txt a) (hB : B = txt b) (hC : C = txt c) (hD : D = txt d) (hl : a.length + (b.length + (c.length + d.length)) ≤ 1000000) (hT : T = txt (st (a ++ (b ++ (c ++ d))))) (hm : MxL w) :
    Calls Tryz.prog 163 #[wv A B C D] w fun e w' => e = .returned (.string T) ∧ Below w.heap.size w w' := by
  have CT := Lib.hid (fun (bk : Nat) (w : World) (q0 : w.cell? ⟨bk, 0, none⟩ = some (.string A)) (q1 : w.cell? ⟨bk, 1, none⟩ = some (.string B)) (q2 : w.cell? ⟨bk, 2, none⟩ = some (.string C)) (q3 : w.cell? ⟨bk, 3, none⟩ = some (.string D)) (h : MxL w) => together_is (T := T) bk w hA hB hC hD hl hT q0 q1 q2 q3 h)
  have HM := Lib.hid hm
  clear hA hB hC hD hl hT hm
  have HB : Hid (Below w.heap.size w ((w.alloc (wo A B C D)).alloc (sl4 A B C D))) := Lib.hid (((Below.refl _ _).alloc (Nat.le_refl _) _).alloc (by simp) _)
  go_enter Tryz.func163, Tryz.ntmps163
  go_wp2_with fail
  refine (CT.out _ _ (by simp [go_sem]) (by simp [go_sem]) (by simp [go_sem]) (by simp [go_sem]) (HM.out.below HB.out)).mono ?_
  rintro e w1 ⟨rfl, hb⟩
  have HB2 := Lib.hid (II.below_tr HB.out hb)
  clear hb
  go_wp2_with fail
  go_ret
  exact ⟨rfl, HB2.out⟩
/-- What holds of parts. -/
def sndP (w p e : List UInt8) : Bool := (decide (p ≠ []) || decide (e ≠ [])) && snd w p e
theorem uns_drop (l : List UInt8) : l.drop (sg0 l) = uns l := by
  cases l with
  | nil => rfl
  | cons c r =>
    unfold sg0
    rw [bt_cons]
    by_cases h1 : c = 43
    · subst h1; rfl
    · by_cases h2 : c = 45
      · subst h2; rfl
      · rw [uns_other h1 h2, if_neg]
        · rfl
        · rintro (h | h)
          · exact h1 (UInt8.toNat_inj.1 (show c.toNat = 43 by omega))
          · exact h2 (UInt8.toNat_inj.1 (show c.toNat = 45 by omega))
set_option maxHeartbeats 4000000 in
set_option maxRecDepth 100000 in
theorem sound_is {a b c : List UInt8} {M A B C : ByteArray} {x : Bool} (w : World) (hA : A = txt a) (hB : B = txt b) (hC : C = txt c) (hl : a.length + (b.length + c.length) ≤ 90000) (hx : x = sndP a b c) (hT : II.Tab w) :
    Calls Tryz.prog 183 #[wv M A B C] w fun e w' => e = .returned (.bool x) ∧ Below w.heap.size w w' := by
  have zb : B.size = b.length := by rw [hB, txt_size]
  have zc : C.size = c.length := by rw [hC, txt_size]
  have eb := txt_empty hB
  have ec := txt_empty hC
  obtain ⟨g, hg⟩ : ∃ g, g = II.In.good 10 a := ⟨_, rfl⟩
  obtain ⟨p, hp⟩ : ∃ p, p = sp false (b.drop 1) := ⟨_, rfl⟩
  obtain ⟨q, hq⟩ : ∃ q, q = sp false (uns (c.drop 1)) := ⟨_, rfl⟩
  obtain ⟨G, hG⟩ : ∃ G, G = txt (mn (c.drop 1)) := ⟨_, rfl⟩
  obtain ⟨U, hU⟩ : ∃ U, U = txt (uns (c.drop 1)) := ⟨_, rfl⟩
  obtain ⟨B1, hB1⟩ : ∃ T, T = txt (b.drop 1) := ⟨_, rfl⟩
  obtain ⟨C1, hC1⟩ : ∃ T, T = txt (c.drop 1) := ⟨_, rfl⟩
  have EB := Lib.hid (show B.extract 1 B.size = B1 by rw [hB1, hB, txt_drop])
  have EC := Lib.hid (show C.extract 1 C.size = C1 by rw [hC1, hC, txt_drop])
  have CI := Lib.hid (fun w h => integer_is (x := g) w hA (by omega) hg h)
  have CP := Lib.hid (fun w => spaced_is (x := p) w hB1 (by simp; omega) hp)
  have ul : (uns (c.drop 1)).length ≤ c.length := by rw [← uns_drop]; simp
  have CQ := Lib.hid (fun w => spaced_is (x := q) w hU (by omega) hq)
  clear ul
  have CS := Lib.hid (fun w => signed_is (T := U) w hC1 hG (by rw [hU, uns_drop]))
  have hxx : x = ((decide (b ≠ []) || decide (c ≠ [])) && (g && (decide (b = []) || p) && (decide (c = []) || q))) := by rw [hx, hg, hp, hq]; rfl
  have HT := Lib.hid (hT.below ((Below.refl w.heap.size w).alloc (Nat.le_refl _) (wo M A B C)))
  have HB0 : Hid (Below w.heap.size w (w.alloc (wo M A B C))) := Lib.hid ((Below.refl w.heap.size w).alloc (Nat.le_refl _) _)
  have nb1 : b ≠ [] → 1 ≤ B.size := fun h => by rw [zb]; exact List.length_pos_iff.2 h
  have nc1 : c ≠ [] → 1 ≤ C.size := fun h => by rw [zc]; exact List.length_pos_iff.2 h
  clear hA hB hC hl hx hT zb zc hg hp hq hG hU hB1 hC1
  by_cases gb : b = []
  · rw [decide_eq_true gb] at eb
    by_cases gc : c = []
    · have E := Lib.hid (show x = false by rw [hxx]; simp [gb, gc])
      rw [decide_eq_true gc] at ec
      clear hxx gb gc nb1 nc1
      go_enter Tryz.func183, Tryz.ntmps183
      go_wp2_with fail
      go_ret
      exact ⟨ret_bool E.out.symm, HB0.out⟩
    · have z1 := nc1 gc
      have hxq : x = (g && q) := by rw [hxx]; simp [gb, gc]
      rw [decide_eq_false gc] at ec
      clear hxx gb gc nb1 nc1
      cases q
      · have E := Lib.hid (show x = false by rw [hxq]; simp)
        clear hxq
        go_enter Tryz.func183, Tryz.ntmps183
        go_wp2_with (first
          | (go_at_call 181; rw [EC.out]; refine (CS.out _).mono ?_; rintro e w' ⟨rfl, rfl⟩)
          | (go_at_call 206; refine (CQ.out _).mono ?_; rintro e w' ⟨rfl, rfl⟩))
        go_ret
        exact ⟨ret_bool E.out.symm, HB0.out⟩
      · have E := Lib.hid (show x = g by rw [hxq]; simp)
        clear hxq
        go_enter Tryz.func183, Tryz.ntmps183
        go_wp2_with (first
          | (go_at_call 181; rw [EC.out]; refine (CS.out _).mono ?_; rintro e w' ⟨rfl, rfl⟩)
          | (go_at_call 206; refine (CQ.out _).mono ?_; rintro e w' ⟨rfl, rfl⟩))
        refine (CI.out _ HT.out).mono ?_
        rintro e w' ⟨rfl, hb⟩
        have HB2 := Lib.hid (II.below_tr HB0.out hb)
        clear hb
        go_wp2_with fail
        go_ret
        exact ⟨ret_bool E.out.symm, HB2.out⟩
  · have y1 := nb1 gb
    rw [decide_eq_false gb] at eb
    cases p
    · have E := Lib.hid (show x = false by rw [hxx]; simp [gb])
      clear hxx gb nb1 nc1
      go_enter Tryz.func183, Tryz.ntmps183
      go_wp2_with (first
          | (go_at_call 206; rw [EB.out]; refine (CP.out _).mono ?_; rintro e w' ⟨rfl, rfl⟩))
      go_ret
      exact ⟨ret_bool E.out.symm, HB0.out⟩
    · by_cases gc : c = []
      · have E := Lib.hid (show x = g by rw [hxx]; simp [gb, gc])
        rw [decide_eq_true gc] at ec
        clear hxx gb gc nb1 nc1
        go_enter Tryz.func183, Tryz.ntmps183
        go_wp2_with (first
          | (go_at_call 206; rw [EB.out]; refine (CP.out _).mono ?_; rintro e w' ⟨rfl, rfl⟩))
        refine (CI.out _ HT.out).mono ?_
        rintro e w' ⟨rfl, hb⟩
        have HB2 := Lib.hid (II.below_tr HB0.out hb)
        clear hb
        go_wp2_with fail
        go_ret
        exact ⟨ret_bool E.out.symm, HB2.out⟩
      · have z1 := nc1 gc
        have hxq : x = (g && q) := by rw [hxx]; simp [gb, gc]
        rw [decide_eq_false gc] at ec
        clear hxx gb gc nb1 nc1
        cases q
        · have E := Lib.hid (show x = false by rw [hxq]; simp)
          clear hxq
          go_enter Tryz.func183, Tryz.ntmps183
          go_upto_region 6 with (go_at_call 206; rw [EB.out]; refine (CP.out _).mono ?_; rintro e w' ⟨rfl, rfl⟩)
          go_wp2_with (first
            | (go_at_call 181; rw [EC.out]; refine (CS.out _).mono ?_; rintro e w' ⟨rfl, rfl⟩)
            | (go_at_call 206; refine (CQ.out _).mono ?_; rintro e w' ⟨rfl, rfl⟩))
          go_ret
          exact ⟨ret_bool E.out.symm, HB0.out⟩
        · have E := Lib.hid (show x = g by rw [hxq]; simp)
          clear hxq
          go_enter Tryz.func183, Tryz.ntmps183
          go_upto_region 6 with (go_at_call 206; rw [EB.out]; refine (CP.out _).mono ?_; rintro e w' ⟨rfl, rfl⟩)
          go_wp2_with (first
            | (go_at_call 181; rw [EC.out]; refine (CS.out _).mono ?_; rintro e w' ⟨rfl, rfl⟩)
            | (go_at_call 206; refine (CQ.out _).mono ?_; rintro e w' ⟨rfl, rfl⟩))
          refine (CI.out _ HT.out).mono ?_
          rintro e w' ⟨rfl, hb⟩
          have HB2 := Lib.hid (II.below_tr HB0.out hb)
          clear hb
          go_wp2_with fail
          go_ret
          exact ⟨ret_bool E.out.symm, HB2.out⟩
end Fl
end Go.Proofs.YtbeefjhcbphiaaaGreatDoor
