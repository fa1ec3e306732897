/- What landed of paths: what a word tells. -/
import Derived.Test.YtoebhnhiljlljaaDoorRa
import Derived.Test.YtoebhnhiljlljaaDoorPp
namespace Go.Proofs.YtoebhnhiljlljaaDoor
open Go.RowKit
namespace Pa
set_option maxRecDepth 100000

theorem hide_cons {t : Bs} {c : UInt8} {r : Bs} (h : hide t = c :: r) : ∃ d u, t = d :: u ∧ esc d ++ hide u = c :: r := by
  cases t with
  | nil => cases h
  | cons d u => exact ⟨d, u, rfl, by have e : hide (d :: u) = esc d ++ hide u := by simp [hide]
                                     rw [← e]; exact h⟩
theorem hide_head {t : Bs} {c : UInt8} {r : Bs} (h : hide t = c :: r) (hc : c ≠ 37) : ∃ u, t = c :: u ∧ hide u = r := by
  obtain ⟨d, u, rfl, e⟩ := hide_cons h
  unfold esc at e
  split at e
  · exact absurd (List.cons.inj e).1.symm hc
  · obtain ⟨e1, e2⟩ := List.cons.inj (show d :: hide u = c :: r from e)
    exact ⟨u, by rw [e1], e2⟩
theorem hide_three {t : Bs} {r : Bs} (h : hide t = 37 :: r) : ∃ d u, t = d :: u ∧ r = hexd (d / 16) :: hexd (d % 16) :: hide u := by
  obtain ⟨d, u, rfl, e⟩ := hide_cons h
  unfold esc at e
  split at e
  · exact ⟨d, u, rfl, (List.cons.inj e).2.symm⟩
  · next hs =>
    obtain ⟨e1, e2⟩ := List.cons.inj (show d :: hide u = 37 :: r from e)
    exact absurd (by rw [e1]; decide) hs
/-- What has been told so far. -/
def Tld (w : Bs) (i : Nat) (o : Bs) : Prop := o.length ≤ i ∧ ∀ t, w = hide t → ∃ u, t = o ++ u ∧ w.drop i = hide u
theorem Tld.one {w o : Bs} {i : Nat} {c : UInt8} (h : Tld w i o) (hc : w[i]? = some c) (hn : c ≠ 37) : Tld w (i + 1) (o ++ [c]) := by
  refine ⟨by rw [List.length_append]; have := h.1; simp; omega, fun t ht => ?_⟩
  obtain ⟨u, e1, e2⟩ := h.2 t ht
  have hl := (List.getElem?_eq_some_iff.1 hc).1
  rw [List.drop_eq_getElem_cons hl, (List.getElem?_eq_some_iff.1 hc).2] at e2
  obtain ⟨v, e3, e4⟩ := hide_head e2.symm hn
  exact ⟨v, by rw [e1, e3]; simp, e4.symm⟩
theorem Tld.end_ {w o : Bs} {i : Nat} (h : Tld w i o) (hc : w[i]? = some 37) (hn : w.length ≤ i + 2) (c : UInt8) : Tld w (i + 1) (o ++ [c]) := by
  refine ⟨by rw [List.length_append]; have := h.1; simp; omega, fun t ht => ?_⟩
  obtain ⟨u, e1, e2⟩ := h.2 t ht
  have hl := (List.getElem?_eq_some_iff.1 hc).1
  have e5 : w.drop i = 37 :: w.drop (i + 1) := by rw [List.drop_eq_getElem_cons hl, (List.getElem?_eq_some_iff.1 hc).2]
  rw [e5] at e2
  obtain ⟨d, v, e3, e4⟩ := hide_three e2.symm
  have := congrArg List.length e4
  simp at this
  omega
theorem Tld.three {w o : Bs} {i : Nat} {a b c : UInt8} (h : Tld w i o) (hc : w[i]? = some 37) (ha : w[i + 1]? = some a) (hb : w[i + 2]? = some b) (hv : ∀ d : UInt8, a = hexd (d / 16) → b = hexd (d % 16) → c = d) : Tld w (i + 3) (o ++ [c]) := by
  refine ⟨by rw [List.length_append]; have := h.1; simp; omega, fun t ht => ?_⟩
  obtain ⟨u, e1, e2⟩ := h.2 t ht
  have hl := (List.getElem?_eq_some_iff.1 hc).1
  have hla := (List.getElem?_eq_some_iff.1 ha).1
  have hlb := (List.getElem?_eq_some_iff.1 hb).1
  have e5 : w.drop i = 37 :: a :: b :: w.drop (i + 3) := by
    rw [List.drop_eq_getElem_cons hl, (List.getElem?_eq_some_iff.1 hc).2, List.drop_eq_getElem_cons hla, (List.getElem?_eq_some_iff.1 ha).2, List.drop_eq_getElem_cons hlb, (List.getElem?_eq_some_iff.1 hb).2]
  rw [e5] at e2
  obtain ⟨d, v, e3, e4⟩ := hide_three e2.symm
  injection e4 with e6 e4
  injection e4 with e7 e8
  exact ⟨v, by rw [e1, e3, hv d e6 e7]; simp, e8⟩
theorem Tld.fin {w o : Bs} (h : Tld w w.length o) : (uh w).isSome = decide (hide o = w) ∧ ∀ t, uh w = some t → o = t := by
  have key : ∀ t, uh w = some t → o = t := fun t ht => by
    obtain ⟨u, e1, e2⟩ := h.2 t (uh_some ht).symm
    rw [List.drop_length] at e2
    cases u with
    | nil => rw [e1, List.append_nil]
    | cons d v =>
      have e : hide (d :: v) = esc d ++ hide v := by simp [hide]
      rw [e] at e2
      unfold esc at e2
      split at e2 <;> cases e2
  refine ⟨?_, key⟩
  cases hu : uh w with
  | some t => rw [key t hu, uh_some hu]; simp
  | none => exact (decide_eq_false (uh_none hu o)).symm
/-- The library's IndexByte in the sixteen figures. -/
theorem fig_ix (c : UInt8) : Lib.indexByte [48, 49, 50, 51, 52, 53, 54, 55, 56, 57, 97, 98, 99, 100, 101, 102] c = (match hexv c with | some v => ((v.toNat : Nat) : Int) | none => -1) ∧ (∀ v, hexv c = some v → v.toNat < 16) := by
  have h : ∀ n : Fin 256, Lib.indexByte [48, 49, 50, 51, 52, 53, 54, 55, 56, 57, 97, 98, 99, 100, 101, 102] (UInt8.ofNat n) = (match hexv (UInt8.ofNat n) with | some v => ((v.toNat : Nat) : Int) | none => -1) ∧ ((hexv (UInt8.ofNat n)).all fun v => decide (v.toNat < 16)) = true := by decide +kernel
  have := h ⟨c.toNat, c.toNat_lt⟩
  simp only [UInt8.ofNat_toNat] at this
  refine ⟨this.1, fun v hv => ?_⟩
  have h2 := this.2
  rw [hv] at h2
  simpa using h2
theorem fig_is {c : UInt8} {y z : Int} (hy : y = (c.toNat : Nat)) (hz : z = Lib.indexByte [48, 49, 50, 51, 52, 53, 54, 55, 56, 57, 97, 98, 99, 100, 101, 102] c) (w : World) : Calls Tryd.prog 56 #[.string ⟨#[48, 49, 50, 51, 52, 53, 54, 55, 56, 57, 97, 98, 99, 100, 101, 102]⟩, .int .u8 y] w fun e w' => e = .returned (.int .i64 z) ∧ w = w' := by
  have h := Tryd.strings_IndexByte ⟨#[48, 49, 50, 51, 52, 53, 54, 55, 56, 57, 97, 98, 99, 100, 101, 102]⟩ y w
  rw [hy, show ((c.toNat : Nat) : Int).toNat.toUInt8 = c by simp] at h
  rw [hy, hz]
  exact h.mono fun e w' ⟨h1, h2⟩ => ⟨h1, h2.symm⟩
theorem or_byte {z1 z2 : Int} (h1 : -1 ≤ z1 ∧ z1 ≤ 15) (h2 : -1 ≤ z2 ∧ z2 ≤ 15) : ∃ d : UInt8, bits .or .i64 (z1 * 16) z2 % 256 = ((d.toNat : Nat) : Int) ∧ (0 ≤ z1 → 0 ≤ z2 → ((d.toNat : Nat) : Int) = 16 * z1 + z2) := by
  have h : ∀ i j : Fin 17, 0 ≤ bits .or .i64 (((i : Nat) : Int) * 16 - 16) (((j : Nat) : Int) - 1) % 256 ∧ bits .or .i64 (((i : Nat) : Int) * 16 - 16) (((j : Nat) : Int) - 1) % 256 ≤ 255 ∧ ((1 : Nat) ≤ i → (1 : Nat) ≤ j → bits .or .i64 (((i : Nat) : Int) * 16 - 16) (((j : Nat) : Int) - 1) % 256 = 16 * (((i : Nat) : Int) - 1) + (((j : Nat) : Int) - 1)) := by decide +kernel
  have := h ⟨(z1 + 1).toNat, by omega⟩ ⟨(z2 + 1).toNat, by omega⟩
  have e1 : (((z1 + 1).toNat : Nat) : Int) * 16 - 16 = z1 * 16 := by omega
  have e2 : (((z2 + 1).toNat : Nat) : Int) - 1 = z2 := by omega
  simp only [e1, e2] at this
  obtain ⟨a, b, c⟩ := this
  refine ⟨UInt8.ofNat (bits .or .i64 (z1 * 16) z2 % 256).toNat, ?_, fun p q => ?_⟩
  · rw [UInt8.toNat_ofNat_of_lt' (by simp [UInt8.size]; omega)]; omega
  · rw [UInt8.toNat_ofNat_of_lt' (by simp [UInt8.size]; omega)]
    have := c (by omega) (by omega)
    omega
set_option maxHeartbeats 4000000 in
theorem told_any {l : Bs} {s : ByteArray} (w : World) (hs : s = txt l) (hl : l.length ≤ 10000000) :
    Calls Tryd.prog 38 #[.string s] w fun e w' => (∃ X, e = .returned (.tuple #[.string X, .bool (uh l).isSome]) ∧ ∀ t, uh l = some t → X = txt t) ∧ Below w.heap.size w w' := by
  have HS := Lib.hid hs
  have HZ := Lib.hid (show s.size = l.length by rw [hs, txt_size])
  have hsz : s.size ≤ 10000000 := by rw [hs, txt_size]; exact hl
  obtain ⟨W1, hW1⟩ : ∃ W, W = w.alloc (.cells #[.pointer none, .slice none 0 0] 44) := ⟨_, rfl⟩
  have HBD := Lib.hid (show Bd w.heap.size w.heap.size (fun _ => False) [] W1 from by rw [hW1]; exact (bd_new w).on (Below.refl _ _) fun _ hk => hk.elim)
  have HB1 := Lib.hid (show Below w.heap.size w W1 from by rw [hW1]; exact below_new ..)
  obtain ⟨q, hq⟩ : ∃ q, q = (uh l).isSome := ⟨_, rfl⟩
  rw [← hq]
  have HQ := Lib.hid hq
  clear hs hl hq
  go_enter Tryd.func38, Tryd.ntmps38
  go_upto_region 2 with fail
  rw [← hW1]
  obtain ⟨b, hb⟩ : ∃ b, b = w.heap.size := ⟨_, rfl⟩
  rw [← hb] at HBD HB1 ⊢
  have HB := Lib.hid hb
  clear hW1 hb
  go_wp2_with fail
  go_loopw [5, 6] (fun i _ wx => ∃ (k : Nat) (o : Bs), k ≤ s.size ∧ i = .int .i64 k ∧ Hid (Bd b b (fun _ => False) o wx ∧ Below b w wx ∧ Tld l k o)) (fun i _ _ => s.size - (intOf i).toNat)
  case atStart => exact ⟨0, [], Nat.zero_le _, rfl, Lib.hid ⟨HBD.out, HB1.out, Nat.le_refl _, fun t ht => ⟨t, rfl, ht⟩⟩⟩
  case round =>
    obtain ⟨k, o, hk, rfl, HR⟩ := hrel
    have HLT := Lib.hid (show b ≤ wr.heap.size from by obtain ⟨_, _, _, _, hbk, _⟩ := HR.out.1; exact Nat.le_of_lt (Array.getElem?_eq_some_iff.1 hbk).1)
    by_cases hlt : k < s.size
    · have hkl : k < l.length := by rw [← HZ.out]; exact hlt
      have hx := _root_.Go.Proofs.YtoebhnhiljlljaaDoor.txt_at HS.out (k := k)
      obtain ⟨y, HY⟩ : ∃ y, Hid (y = bt l k) := ⟨_, rfl⟩
      rw [← HY.out] at hx
      obtain ⟨c, hc⟩ : ∃ c, l[k]? = some c := ⟨l[k], List.getElem?_eq_getElem hkl⟩
      have HC := Lib.hid hc
      have HYC := Lib.hid (show y = (c.toNat : Nat) by rw [HY.out, bt, List.getD_eq_getElem?_getD, hc]; rfl)
      have HOL := Lib.hid (show o.length ≤ 10000000 by have := HR.out.2.2.1; omega)
      have CW := Lib.hid (fun (d : UInt8) => wbyte_any (c := d) wr HR.out.1 (by have := HOL.out; omega) HLT.out)
      by_cases h37 : y = 37
      · have HC37 := Lib.hid (show c = 37 by have := HYC.out; rw [h37] at this; apply UInt8.toNat_inj.1; rw [show (37 : UInt8).toNat = 37 from rfl]; omega)
        by_cases h2 : k + 2 < s.size
        · have hk1 : k + 1 < s.size := by omega
          have hk0 : (0 : Int) ≤ (k : Int) + 2 := by omega
          have hk9 : (0 : Int) ≤ (k : Int) + 1 := by omega
          have hx1 := _root_.Go.Proofs.YtoebhnhiljlljaaDoor.txt_at HS.out (k := k + 1)
          have hx2 := _root_.Go.Proofs.YtoebhnhiljlljaaDoor.txt_at HS.out (k := k + 2)
          obtain ⟨y1, HY1⟩ : ∃ y, Hid (y = bt l (k + 1)) := ⟨_, rfl⟩
          obtain ⟨y2, HY2⟩ : ∃ y, Hid (y = bt l (k + 2)) := ⟨_, rfl⟩
          rw [← HY1.out] at hx1
          rw [← HY2.out] at hx2
          obtain ⟨c1, hc1⟩ : ∃ c, l[k + 1]? = some c := ⟨l[k + 1]'(by rw [← HZ.out]; omega), List.getElem?_eq_getElem _⟩
          obtain ⟨c2, hc2⟩ : ∃ c, l[k + 2]? = some c := ⟨l[k + 2]'(by rw [← HZ.out]; omega), List.getElem?_eq_getElem _⟩
          have HC1 := Lib.hid hc1
          have HC2 := Lib.hid hc2
          have HYC1 := Lib.hid (show y1 = (c1.toNat : Nat) by rw [HY1.out, bt, List.getD_eq_getElem?_getD, hc1]; rfl)
          have HYC2 := Lib.hid (show y2 = (c2.toNat : Nat) by rw [HY2.out, bt, List.getD_eq_getElem?_getD, hc2]; rfl)
          obtain ⟨z1, hz1⟩ : ∃ z, z = Lib.indexByte [48, 49, 50, 51, 52, 53, 54, 55, 56, 57, 97, 98, 99, 100, 101, 102] c1 := ⟨_, rfl⟩
          obtain ⟨z2, hz2⟩ : ∃ z, z = Lib.indexByte [48, 49, 50, 51, 52, 53, 54, 55, 56, 57, 97, 98, 99, 100, 101, 102] c2 := ⟨_, rfl⟩
          have F1 := Lib.hid (fig_is HYC1.out hz1)
          have F2 := Lib.hid (fig_is HYC2.out hz2)
          have HZ1 := Lib.hid hz1
          have HZ2 := Lib.hid hz2
          have g1 : -1 ≤ z1 ∧ z1 ≤ 15 := by
            have := fig_ix c1
            rw [hz1, this.1]
            cases h : hexv c1 with
            | none => simp
            | some v => have := this.2 v h; simp; omega
          have g2 : -1 ≤ z2 ∧ z2 ≤ 15 := by
            have := fig_ix c2
            rw [hz2, this.1]
            cases h : hexv c2 with
            | none => simp
            | some v => have := this.2 v h; simp; omega
          subst h37
          clear hc1 hc2 hz1 hz2 hc
          go_upto_region 7 with fail
          refine reg_lit (C := fun wx => ∃ s : Kept wr, wx = s.wx) (by kernel_rfl) (by kernel_rfl) ⟨⟨_, (Below.refl _ _).drew⟩, rfl⟩ ?_
          iterate 4 (go_big_quiet_step (fail))
          go_big_quiet_want
          go_big_quiet_op
          refine ⟨.int .i64 z1, fun q => (F1.out q.wx).mono ?_, ?_⟩
          · rintro e w3 ⟨rfl, rfl⟩; exact Kept.out (Below.refl _ _)
          go_big_quiet_on
          iterate 5 (go_big_quiet_step (fail))
          go_big_quiet_want
          go_big_quiet_op
          refine ⟨.int .i64 z2, fun q => (F2.out q.wx).mono ?_, ?_⟩
          · rintro e w3 ⟨rfl, rfl⟩; exact Kept.out (Below.refl _ _)
          go_big_quiet_on
          iterate 3 (go_big_quiet_step (fail))
          obtain ⟨d, hd, hde⟩ := or_byte g1 g2
          have HDD := Lib.hid (show ∀ e : UInt8, c1 = hexd (e / 16) → c2 = hexd (e % 16) → d = e from fun e h1 h2 => by
            have f1 := (fig_ix c1).1
            have f2 := (fig_ix c2).1
            rw [← HZ1.out, h1, (esc_hex e).1] at f1
            rw [← HZ2.out, h2, (esc_hex e).2.1] at f2
            have f1 : z1 = (((e / 16).toNat : Nat) : Int) := f1
            have f2 : z2 = (((e % 16).toNat : Nat) : Int) := f2
            have := hde (by omega) (by omega)
            apply UInt8.toNat_inj.1
            rw [UInt8.toNat_div, show (16 : UInt8).toNat = 16 from rfl] at f1
            rw [UInt8.toNat_mod, show (16 : UInt8).toNat = 16 from rfl] at f2
            omega)
          have CW2 := Lib.hid (CW.out d)
          have HT2 := Lib.hid (HR.out.2.2.three (by rw [HC.out, HC37.out]) HC1.out HC2.out HDD.out)
          rw [hd]
          refine wpQuiet_nil ?_
          rintro wc ⟨⟨wx, ox0⟩, e⟩
          have HCB := Lib.hid (show Below wr.heap.size wr wc from by rw [e]; exact ox0)
          have HBD2 := Lib.hid (show Bd b b (fun _ => False) o wc from HR.out.1.on HCB.out fun _ hk => hk.elim)
          have CW3 := Lib.hid (wbyte_any (c := d) wc HBD2.out (by have := HOL.out; omega) (Nat.le_trans HLT.out HCB.out.size))
          clear e ox0 CW CW2 F1 F2 hx1 hx2 hd hde
          go_wp2_with fail
          refine CW3.out.mono ?_
          rintro e w2 ⟨rfl, hbd, hbl, -⟩
          have HN := Lib.hid (show Bd b b (fun _ => False) (o ++ [d]) w2 ∧ Below b w w2 ∧ Tld l (k + 3) (o ++ [d]) from ⟨hbd, (HR.out.2.1.trans (HCB.out.mono HLT.out)).trans hbl, HT2.out⟩)
          clear hbd hbl
          go_wp2_with fail
          go_roundw
          case rel => exact ⟨k + 3, _, by omega, by go_num, HN⟩
          case measure => simp [intOf] <;> omega
        · have CW2 := Lib.hid (CW.out 37)
          rw [show (((37 : UInt8).toNat : Nat) : Int) = 37 from rfl] at CW2
          have HT2 := Lib.hid (HR.out.2.2.end_ (by rw [HC.out, HC37.out]) (by rw [← HZ.out]; omega) 37)
          have h3 : ¬ (k : Int) + 2 < s.size := by omega
          subst h37
          clear hc CW
          go_wp2_with fail
          refine CW2.out.mono ?_
          rintro e w2 ⟨rfl, hbd, hbl, -⟩
          have HN := Lib.hid (show Bd b b (fun _ => False) (o ++ [37]) w2 ∧ Below b w w2 ∧ Tld l (k + 1) (o ++ [37]) from ⟨hbd, HR.out.2.1.trans hbl, HT2.out⟩)
          clear hbd hbl
          go_wp2_with fail
          go_roundw
          case rel => exact ⟨k + 1, _, by omega, by go_num, HN⟩
          case measure => simp [intOf] <;> omega
      · have HC37 := Lib.hid (show c ≠ 37 by intro e; have := HYC.out; rw [e] at this; exact h37 (by rw [this]; rfl))
        have CW2 := Lib.hid (CW.out c)
        rw [← HYC.out] at CW2
        have HT2 := Lib.hid (HR.out.2.2.one HC.out HC37.out)
        have h3 : (y == 37) = false := by simp [h37]
        clear hc CW h37
        go_wp2_with fail
        refine CW2.out.mono ?_
        rintro e w2 ⟨rfl, hbd, hbl, -⟩
        have HN := Lib.hid (show Bd b b (fun _ => False) (o ++ [c]) w2 ∧ Below b w w2 ∧ Tld l (k + 1) (o ++ [c]) from ⟨hbd, HR.out.2.1.trans hbl, HT2.out⟩)
        clear hbd hbl
        go_wp2_with fail
        go_roundw
        case rel => exact ⟨k + 1, _, by omega, by go_num, HN⟩
        case measure => simp [intOf] <;> omega
    · obtain rfl : k = s.size := by omega
      have CS := Lib.hid (string_any wr HR.out.1 HLT.out)
      have HF := Lib.hid (Tld.fin (w := l) (o := o) (by rw [← HZ.out]; exact HR.out.2.2))
      have HOL := Lib.hid (show o.length ≤ 10000000 by have := HR.out.2.2.1; omega)
      obtain ⟨X, hX⟩ : ∃ X, X = txt o := ⟨_, rfl⟩
      obtain ⟨Y, hY⟩ : ∃ Y, Y = txt (hide o) := ⟨_, rfl⟩
      have CP := Lib.hid (fun w' => spelt_any (s := X) w' hX (by have := HOL.out; omega))
      have HE := Lib.hid (show (Y.toList == s.toList) = q by rw [HQ.out, HF.out.1, hY, HS.out, Bool.eq_iff_iff]; simp [txt_list])
      have HE2 := HE.out
      have HX := Lib.hid hX
      rw [← hX] at CS
      rw [← hY] at CP
      clear hlt hX hY
      go_wp2_with fail
      refine CS.out.mono ?_
      rintro e w2 ⟨rfl, hb2⟩
      have HB2 := Lib.hid hb2
      clear hb2
      go_wp2_with fail
      refine (CP.out _).mono ?_
      rintro e w3 ⟨rfl, hb3⟩
      have HB3 := Lib.hid hb3
      clear hb3
      go_wp2_with fail
      refine bodyPost_ret (v := .tuple #[.string X, .bool q]) (by simp [results, Tryd.results38, go_sem, *]) rfl ?_
      have h9 := HB.out
      refine ⟨⟨_, rfl, fun t ht => by rw [HX.out, HF.out.2 t ht]⟩, ?_⟩
      rw [← h9]
      exact (HR.out.2.1.trans HB2.out).trans (HB3.out.mono (Nat.le_trans HLT.out HB2.out.size))
end Pa
end Go.Proofs.YtoebhnhiljlljaaDoor
