/- What landed of paths: how a key, or an ID, is spelt. -/
import Derived.Test.YtoebhnhiljlljaaDoorPo
import Derived.Test.YtoebhnhiljlljaaDoorPa
import Derived.Test.YtoebhnhiljlljaaDoorBits
import Derived.Deep.RegionHeldLaw
import Derived.Lib.ConvBytes
import Derived.Lib.SmallJoins
namespace Go.Proofs.YtoebhnhiljlljaaDoor
open Go.RowKit
namespace Pa
set_option maxRecDepth 100000

theorem hide_snoc (l : Bs) (c : UInt8) : hide (l ++ [c]) = hide l ++ esc c := by simp [hide]
theorem hide_le (l : Bs) : (hide l).length ≤ 3 * l.length := by
  induction l with
  | nil => simp [hide]
  | cons c r ih =>
    have e : hide (c :: r) = esc c ++ hide r := by simp [hide]
    have h2 : (esc c).length ≤ 3 := by unfold esc; split <;> simp
    rw [e, List.length_append, List.length_cons]; omega
/-- The text so far; the bytes to write. -/
structure SW (w wx : World) (r : Nat) (l : Bs) (i : Nat) : Prop where
  bd : Bd w.heap.size w.heap.size (fun k => k = r) (hide (l.take i)) wx
  below : Below w.heap.size w wx
  row : ∀ j, j < l.length → wx.cell? ⟨r, j, none⟩ = some (.int .u8 (bt l j))
theorem SW.size {w wx : World} {r : Nat} {l : Bs} {i : Nat} (h : SW w wx r l i) : w.heap.size < wx.heap.size ∧ r < wx.heap.size := by
  obtain ⟨p, v, hp, hB, hbk, hown, hne, hok⟩ := h.bd
  exact ⟨(Array.getElem?_eq_some_iff.1 hbk).1, (hok r rfl).1⟩
theorem SW.drew {w wx : World} {r : Nat} {l : Bs} {i : Nat} (h : SW w wx r l i) : SW w wx.drew r l i :=
  ⟨h.bd.on (Below.refl _ _).drew fun _ hk => .inl hk, h.below.drew, h.row⟩
theorem SW.call {w wx wy : World} {r : Nat} {l : Bs} {i : Nat} (h : SW w wx r l i) (hb : Below wx.heap.size wx wy) : SW w wy r l i :=
  ⟨h.bd.on hb fun _ hk => .inl hk, below_tr h.below hb, fun j hj => cell_old hb h.size.2 (h.row j hj)⟩
theorem SW.put {w wx wy : World} {r : Nat} {l : Bs} {i : Nat} {c : UInt8} (h : SW w wx r l i) (hc : l[i]? = some c) (hb : Bd w.heap.size w.heap.size (fun k => k = r) (hide (l.take i) ++ esc c) wy) (hbl : Below w.heap.size wx wy) (hr : ∀ k, k = r → wy.heap[k]? = wx.heap[k]?) : SW w wy r l (i + 1) := by
  refine ⟨?_, h.below.trans hbl, fun j hj => ?_⟩
  · rw [List.take_add_one, hc, show (some c).toList = [c] from rfl, hide_snoc]; exact hb
  · have := h.row j hj
    simp only [World.cell?] at this ⊢
    rw [hr r rfl]; exact this
theorem fig_at {n : Nat} (hn : n < 16) (h : n < (⟨#[48, 49, 50, 51, 52, 53, 54, 55, 56, 57, 97, 98, 99, 100, 101, 102]⟩ : ByteArray).size) : ((⟨#[48, 49, 50, 51, 52, 53, 54, 55, 56, 57, 97, 98, 99, 100, 101, 102]⟩ : ByteArray)[n]'h) = hexd (UInt8.ofNat n) := by
  have h16 : n = 0 ∨ n = 1 ∨ n = 2 ∨ n = 3 ∨ n = 4 ∨ n = 5 ∨ n = 6 ∨ n = 7 ∨ n = 8 ∨ n = 9 ∨ n = 10 ∨ n = 11 ∨ n = 12 ∨ n = 13 ∨ n = 14 ∨ n = 15 := by omega
  rcases h16 with rfl | rfl | rfl | rfl | rfl | rfl | rfl | rfl | rfl | rfl | rfl | rfl | rfl | rfl | rfl | rfl <;> rfl
theorem four3 (w : World) (a b c : Value) (t : TypeId) : (w.alloc (.cells #[a, b, c] t)).drew.cell? ⟨w.heap.size, 0, none⟩ = some a ∧ (w.alloc (.cells #[a, b, c] t)).drew.cell? ⟨w.heap.size, 1, none⟩ = some b ∧ (w.alloc (.cells #[a, b, c] t)).drew.cell? ⟨w.heap.size, 2, none⟩ = some c := by
  have h : (w.alloc (.cells #[a, b, c] t)).drew.heap[w.heap.size]? = some (.cells #[a, b, c] t) := heap_alloc_new ..
  refine ⟨?_, ?_, ?_⟩ <;> · simp only [World.cell?, h]; rfl
theorem marks_is {c : UInt8} {y z : Int} (hy : y = (c.toNat : Nat)) (hz : z = Lib.indexByte [47, 91, 61, 93] c) (w : World) : Calls Tryd.prog 56 #[.string ⟨#[47, 91, 61, 93]⟩, .int .u8 y] w fun e w' => e = .returned (.int .i64 z) ∧ w = w' := by
  have h := Tryd.strings_IndexByte ⟨#[47, 91, 61, 93]⟩ y w
  rw [hy, show ((c.toNat : Nat) : Int).toNat.toUInt8 = c by simp] at h
  rw [hy, hz]
  exact h.mono fun e w' ⟨h1, h2⟩ => ⟨h1, h2.symm⟩
theorem marks_ge (c : UInt8) : decide (0 ≤ Lib.indexByte [47, 91, 61, 93] c) = stop c := by
  have h : ∀ n : Fin 256, decide (0 ≤ Lib.indexByte [47, 91, 61, 93] (UInt8.ofNat n)) = stop (UInt8.ofNat n) := by decide +kernel
  have := h ⟨c.toNat, c.toNat_lt⟩
  simpa using this
theorem spec_is {c : UInt8} {y : Int} (hy : y = (c.toNat : Nat)) : spec c = (decide (y < 32) || (y == 127) || (y == 37) || stop c) := by
  subst hy
  have h : ∀ n : Fin 256, spec (UInt8.ofNat n) = (decide ((((UInt8.ofNat n).toNat : Nat) : Int) < 32) || ((((UInt8.ofNat n).toNat : Nat) : Int) == 127) || ((((UInt8.ofNat n).toNat : Nat) : Int) == 37) || stop (UInt8.ofNat n)) := by decide +kernel
  have := h ⟨c.toNat, c.toNat_lt⟩
  simpa using this
set_option maxHeartbeats 4000000 in
theorem spelt_any {l : Bs} {s : ByteArray} (w : World) (hs : s = txt l) (hl : l.length ≤ 1000000000000) :
    Calls Tryd.prog 45 #[.string s] w fun e w' => e = .returned (.string (txt (hide l))) ∧ Below w.heap.size w w' := by
  have HS := Lib.hid hs
  have HZ := Lib.hid (show s.size = l.length by rw [hs, txt_size])
  have hsz : s.size ≤ 1000000000000 := by rw [hs, txt_size]; exact hl
  obtain ⟨W1, hW1⟩ : ∃ W, W = w.alloc (.cells #[.pointer none, .slice none 0 0] 44) := ⟨_, rfl⟩
  have hbd := Lib.hid (show Bd w.heap.size w.heap.size (fun k => k < w.heap.size) [] W1 from by rw [hW1]; exact bd_new w)
  have hb1 : Below w.heap.size w W1 := by rw [hW1]; exact below_new ..
  have hsz1 : W1.heap.size = w.heap.size + 1 := by rw [hW1]; show (w.heap.push _).size = _; rw [Array.size_push]
  have hcv := Lib.run_convert_string_bytes (P := Tryd.prog) W1 9 42 5 s Tryd.underlying9 Tryd.underlying42 Tryd.underlying5
  have hbw := Go.Joins.below_bytesWorld W1.heap.size W1 5 s (Nat.le_refl _)
  have HW := Lib.hid (show SW w (Lib.bytesWorld W1 5 s) W1.heap.size l 0 from by
    refine ⟨?_, below_tr hb1 hbw, fun j hj => ?_⟩
    · rw [List.take_zero]
      exact hbd.out.on hbw fun k hk => .inr ⟨by omega, by rw [hk, Lib.bytesWorld_size]; omega⟩
    · rw [Lib.bytesWorld_cell W1 5 s j (by rw [HZ.out]; exact hj), hs]
      simp [txt, bt])
  have HW1 := Lib.hid hW1
  clear hs hl hbw hb1 hbd hW1 hsz1
  go_enter Tryd.func45, Tryd.ntmps45
  go_upto_region 2 with fail
  rw [← HW1.out]
  go_wp2_with fail
  obtain ⟨r, hr⟩ : ∃ r, r = W1.heap.size := ⟨_, rfl⟩
  rw [← hr] at HW ⊢
  obtain ⟨b, hb⟩ : ∃ b, b = w.heap.size := ⟨_, rfl⟩
  have HB := Lib.hid hb
  rw [← hb]
  clear HW1 hr hb
  generalize grownCap W1 s.size 0 5 = cp at *
  clear hcv
  go_loopw [5, 9] (fun _ i wx => ∃ k : Nat, k ≤ s.size ∧ i = .int .i64 k ∧ Hid (SW w wx r l k)) (fun _ i _ => s.size - (intOf i).toNat)
  case atStart => exact ⟨0, Nat.zero_le _, rfl, HW⟩
  case round =>
    obtain ⟨k, hk, rfl, HR⟩ := hrel
    by_cases hlt : k < s.size
    · have hkl : k < l.length := by rw [← HZ.out]; exact hlt
      have hrow := HR.out.row k hkl
      obtain ⟨y, HY⟩ : ∃ y, Hid (y = bt l k) := ⟨_, rfl⟩
      rw [← HY.out] at hrow
      obtain ⟨c, hc⟩ : ∃ c, l[k]? = some c := ⟨l[k], List.getElem?_eq_getElem hkl⟩
      have HC := Lib.hid hc
      have HYC := Lib.hid (show y = (c.toNat : Nat) by rw [HY.out, bt, List.getD_eq_getElem?_getD, hc]; rfl)
      have hy0 : 0 ≤ y := by rw [HYC.out]; omega
      have hy1 : y ≤ 255 := by rw [HYC.out]; have := c.toNat_lt; omega
      obtain ⟨z, hz⟩ : ∃ z, z = Lib.indexByte [47, 91, 61, 93] c := ⟨_, rfl⟩
      have CM := Lib.hid (marks_is HYC.out hz)
      have HST := Lib.hid (show decide (0 ≤ z) = stop c by rw [hz]; exact marks_ge c)
      have HSP := Lib.hid (spec_is HYC.out)
      have HLK := Lib.hid (show (hide (l.take k)).length ≤ 10000000000000 by have := hide_le (l.take k); rw [List.length_take] at this; rw [HZ.out] at hsz; omega)
      clear hc hz hkl
      by_cases hsp : spec c = true
      · have HE := Lib.hid (show esc c = [37, hexd (c / 16), hexd (c % 16)] by unfold esc; rw [if_pos hsp])
        have a15 : bits .and .u8 y 15 = y % 16 := and15 y hy0 hy1
        have q0 : 0 ≤ y / 16 := by omega
        have q1 : y / 16 < 16 := by omega
        have q2 : 0 ≤ y % 16 := by omega
        have q3 : y % 16 < 16 := by omega
        obtain ⟨D1, HD1⟩ : ∃ D : Int, Hid (D = ((hexd (c / 16)).toNat : Nat)) := ⟨_, Lib.hid rfl⟩
        obtain ⟨D2, HD2⟩ : ∃ D : Int, Hid (D = ((hexd (c % 16)).toNat : Nat)) := ⟨_, Lib.hid rfl⟩
        have n1 := Lib.hid (show UInt8.ofNat (y / 16).toNat = c / 16 by apply UInt8.toNat_inj.1; simp; have := HYC.out; omega)
        have n2 := Lib.hid (show UInt8.ofNat (y % 16).toNat = c % 16 by apply UInt8.toNat_inj.1; simp; have := HYC.out; omega)
        have f1 : ∀ h, (((⟨#[48, 49, 50, 51, 52, 53, 54, 55, 56, 57, 97, 98, 99, 100, 101, 102]⟩ : ByteArray)[(y / 16).toNat]'h).toNat : Int) = D1 := fun h => by
          rw [fig_at (by omega) h, HD1.out, n1.out]
        have f2 : ∀ h, (((⟨#[48, 49, 50, 51, 52, 53, 54, 55, 56, 57, 97, 98, 99, 100, 101, 102]⟩ : ByteArray)[(y % 16).toNat]'h).toNat : Int) = D2 := fun h => by
          rw [fig_at (by omega) h, HD2.out, n2.out]
        have CW := Lib.hid (fun w' (h : SW w w' r l k) g (hgb : g ≠ w.heap.size) g0 g1 g2 => write3_any (x := 37) (y := hexd (c / 16)) (z := hexd (c % 16)) (g := g) w' h.bd (by have := HLK.out; omega) (Nat.le_of_lt h.size.1) hgb g0 g1 g2)
        rw [← HD1.out, ← HD2.out, ← HB.out, show (((37 : UInt8).toNat : Nat) : Int) = 37 from rfl] at CW
        rw [hsp] at HSP
        by_cases h1 : y < 32
        · go_upto_region 6 with fail
          go_region_with
            (go_at_call 61; refine (CW.out _ ((HR.out.call (below_new wr _)).drew) wr.heap.size (by rw [HB.out]; have := HR.out.size.1; omega) (four3 wr _ _ _ _).1 (four3 wr _ _ _ _).2.1 (four3 wr _ _ _ _).2.2).mono ?_; rintro e w3 ⟨rfl, hb, hbl, hr⟩)
          all_goals (have HN := Lib.hid (show SW w w3 r l (k + 1) from ((HR.out.call (below_new wr _)).drew).put HC.out (by rw [HE.out, ← HB.out]; exact hb) (by rw [← HB.out]; exact hbl) hr))
          all_goals clear hb hbl hr hrow
          all_goals go_wp2_with fail
          all_goals go_roundw
          all_goals first | exact ⟨k + 1, by omega, by go_num, HN⟩ | (simp [intOf] <;> omega)
        by_cases h2 : y = 127
        · subst h2
          have a15 : bits .and .u8 127 15 = 15 := by decide +kernel
          have f1 : ∀ h, ((((⟨#[48, 49, 50, 51, 52, 53, 54, 55, 56, 57, 97, 98, 99, 100, 101, 102]⟩ : ByteArray)[7]'h).toNat : Nat) : Int) = D1 := fun h => f1 h
          have f2 : ∀ h, ((((⟨#[48, 49, 50, 51, 52, 53, 54, 55, 56, 57, 97, 98, 99, 100, 101, 102]⟩ : ByteArray)[15]'h).toNat : Nat) : Int) = D2 := fun h => f2 h
          go_upto_region 6 with fail
          go_region_with
            (go_at_call 61; refine (CW.out _ ((HR.out.call (below_new wr _)).drew) wr.heap.size (by rw [HB.out]; have := HR.out.size.1; omega) (four3 wr _ _ _ _).1 (four3 wr _ _ _ _).2.1 (four3 wr _ _ _ _).2.2).mono ?_; rintro e w3 ⟨rfl, hb, hbl, hr⟩)
          all_goals (have HN := Lib.hid (show SW w w3 r l (k + 1) from ((HR.out.call (below_new wr _)).drew).put HC.out (by rw [HE.out, ← HB.out]; exact hb) (by rw [← HB.out]; exact hbl) hr))
          all_goals clear hb hbl hr hrow
          all_goals go_wp2_with fail
          all_goals go_roundw
          all_goals first | exact ⟨k + 1, by omega, by go_num, HN⟩ | (simp [intOf] <;> omega)
        by_cases h3 : y = 37
        · subst h3
          have a15 : bits .and .u8 37 15 = 5 := by decide +kernel
          have f1 : ∀ h, ((((⟨#[48, 49, 50, 51, 52, 53, 54, 55, 56, 57, 97, 98, 99, 100, 101, 102]⟩ : ByteArray)[2]'h).toNat : Nat) : Int) = D1 := fun h => f1 h
          have f2 : ∀ h, ((((⟨#[48, 49, 50, 51, 52, 53, 54, 55, 56, 57, 97, 98, 99, 100, 101, 102]⟩ : ByteArray)[5]'h).toNat : Nat) : Int) = D2 := fun h => f2 h
          go_upto_region 6 with fail
          go_region_with
            (go_at_call 61; refine (CW.out _ ((HR.out.call (below_new wr _)).drew) wr.heap.size (by rw [HB.out]; have := HR.out.size.1; omega) (four3 wr _ _ _ _).1 (four3 wr _ _ _ _).2.1 (four3 wr _ _ _ _).2.2).mono ?_; rintro e w3 ⟨rfl, hb, hbl, hr⟩)
          all_goals (have HN := Lib.hid (show SW w w3 r l (k + 1) from ((HR.out.call (below_new wr _)).drew).put HC.out (by rw [HE.out, ← HB.out]; exact hb) (by rw [← HB.out]; exact hbl) hr))
          all_goals clear hb hbl hr hrow
          all_goals go_wp2_with fail
          all_goals go_roundw
          all_goals first | exact ⟨k + 1, by omega, by go_num, HN⟩ | (simp [intOf] <;> omega)
        have h2 : (y == 127) = false := by simp [h2]
        have h3 : (y == 37) = false := by simp [h3]
        have h5 : 0 ≤ z := by
          have := HSP.out
          rw [h2, h3, show decide (y < 32) = false by simpa using h1, ← HST.out] at this
          simpa using this
        go_wp2_with fail
        refine (CM.out _).mono ?_
        rintro e w2 ⟨rfl, rfl⟩
        go_upto_region 6 with fail
        go_region_with
          (go_at_call 61; refine (CW.out _ ((HR.out.call (below_new wr _)).drew) wr.heap.size (by rw [HB.out]; have := HR.out.size.1; omega) (four3 wr _ _ _ _).1 (four3 wr _ _ _ _).2.1 (four3 wr _ _ _ _).2.2).mono ?_; rintro e w3 ⟨rfl, hb, hbl, hr⟩)
        all_goals (have HN := Lib.hid (show SW w w3 r l (k + 1) from ((HR.out.call (below_new wr _)).drew).put HC.out (by rw [HE.out, ← HB.out]; exact hb) (by rw [← HB.out]; exact hbl) hr))
        all_goals clear hb hbl hr hrow
        all_goals go_wp2_with fail
        all_goals go_roundw
        all_goals first | exact ⟨k + 1, by omega, by go_num, HN⟩ | (simp [intOf] <;> omega)
      · have hsp : spec c = false := by simpa using hsp
        rw [hsp] at HSP
        have h1 := HSP.out.symm
        simp only [Bool.or_eq_false_iff] at h1
        obtain ⟨⟨⟨h1, h2⟩, h3⟩, h4⟩ := h1
        have h1 : ¬ y < 32 := by simpa using h1
        have h5 : ¬ 0 ≤ z := by have := HST.out; rw [h4] at this; simpa using this
        have HE := Lib.hid (show esc c = [c] by unfold esc; rw [if_neg (by rw [hsp]; decide)])
        have CW := Lib.hid (fun w' (h : SW w w' r l k) => wbyte_any (c := c) w' h.bd (by have := HLK.out; omega) (Nat.le_of_lt h.size.1))
        rw [← HYC.out, ← HB.out] at CW
        clear h4 hsp
        go_wp2_with fail
        refine (CM.out _).mono ?_
        rintro e w2 ⟨rfl, rfl⟩
        go_wp2_with fail
        refine (CW.out _ HR.out).mono ?_
        rintro e w2 ⟨rfl, hb, hbl, hr⟩
        have HN := Lib.hid (show SW w w2 r l (k + 1) from HR.out.put HC.out (by rw [HE.out, ← HB.out]; exact hb) (by rw [← HB.out]; exact hbl) hr)
        clear hb hbl hr hrow
        go_wp2_with fail
        go_roundw
        case rel => exact ⟨k + 1, by omega, by go_num, HN⟩
        case measure => simp [intOf] <;> omega
    · obtain rfl : k = s.size := by omega
      have CS := Lib.hid (string_any _ HR.out.bd (Nat.le_of_lt HR.out.size.1))
      rw [List.take_of_length_le (by rw [HZ.out]; omega), ← HB.out] at CS
      have HBL := Lib.hid (show Below b w wr from by rw [HB.out]; exact HR.out.below)
      clear hlt
      go_wp2_with fail
      refine CS.out.mono ?_
      rintro e w2 ⟨rfl, hb⟩
      go_wp2_with fail
      go_ret
      exact ⟨rfl, by have := HBL.out.trans hb; rwa [HB.out] at this⟩
end Pa
end Go.Proofs.YtoebhnhiljlljaaDoor
