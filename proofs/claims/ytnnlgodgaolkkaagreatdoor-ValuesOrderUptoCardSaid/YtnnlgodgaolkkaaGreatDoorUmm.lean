/- The law's own: a value spoilt, and what stands behind its rows. -/
import Derived.Test.YtnnlgodgaolkkaaGreatDoorUfm
import Derived.Test.YtnnlgodgaolkkaaGreatDoorHe
namespace Go.Proofs.YtnnlgodgaolkkaaGreatDoor
open Go.RowKit
namespace Va
set_option maxRecDepth 100000

/-- A row that may be written. -/
def RW (w : World) (g : Nat) : Prop := ∃ cur t, w.heap[g]? = some (.cells cur t (0, 0))
theorem RW.free {w : World} {g : Nat} (h : RW w g) (j : Nat) : w.frozen? ⟨g, j, none⟩ = false := by
  obtain ⟨cur, t, e⟩ := h
  simp [World.frozen?, e]
theorem RW.set {w : World} {g : Nat} (h : RW w g) (j : Nat) (v : Value) : RW (w.setCell ⟨g, j, none⟩ v) g := by
  obtain ⟨cur, t, e⟩ := h
  exact ⟨_, _, Go.heap_setCell_same w g j cur t v e⟩
theorem RW.eq {w w' : World} {g : Nat} (h : RW w g) (e : w'.heap[g]? = w.heap[g]?) : RW w' g := by
  obtain ⟨cur, t, e2⟩ := h
  exact ⟨cur, t, e.trans e2⟩
/-- Blocks of a kind alone have turned. -/
structure Ch (R : Nat → Prop) (a b : World) : Prop where
  os : b.os = a.os
  tape : b.tape = a.tape
  output : b.output = a.output
  size : a.heap.size ≤ b.heap.size
  block : ∀ g, g < a.heap.size → ¬ R g → b.heap[g]? = a.heap[g]?
theorem Ch.refl (R : Nat → Prop) (a : World) : Ch R a a := ⟨rfl, rfl, rfl, Nat.le_refl _, fun _ _ _ => rfl⟩
theorem Ch.trans {R : Nat → Prop} {a b c : World} (h1 : Ch R a b) (h2 : Ch R b c) : Ch R a c :=
  ⟨h2.os.trans h1.os, h2.tape.trans h1.tape, h2.output.trans h1.output, Nat.le_trans h1.size h2.size, fun g hg hr => (h2.block g (Nat.lt_of_lt_of_le hg h1.size) hr).trans (h1.block g hg hr)⟩
theorem Ch.more {R R' : Nat → Prop} {a b : World} (h : Ch R a b) (hi : ∀ g, R g → R' g) : Ch R' a b := ⟨h.os, h.tape, h.output, h.size, fun g hg hr => h.block g hg fun e => hr (hi g e)⟩
theorem Ch.set (R : Nat → Prop) (a : World) {g : Nat} (hg : R g) (j : Nat) (v : Value) : Ch R a (a.setCell ⟨g, j, none⟩ v) :=
  ⟨rfl, rfl, rfl, by simp, fun k _ hr => Go.RowKit.Below.heap_setCell _ _ _ _ (fun e => hr (by rw [e]; exact hg))⟩
theorem Ch.below {R : Nat → Prop} {a b : World} (h : Below a.heap.size a b) : Ch R a b := ⟨h.os, h.tape, h.output, h.size, fun g hg _ => h.block g hg⟩
/-- A value that may be spoilt: all that its rows have room for lies in blocks of its own. -/
def Vp : Nat → World → (Nat → Prop) → Value → Prop
  | 0, _, _, _ => False
  | N + 1, w, ok, v => ∃ (k : Nat) (t : ByteArray) (A B : Option Addr) (n c m d : Nat), v = .agg #[.int .u8 k, .string t, .slice A n c, .slice B m d] ∧ n ≤ c ∧ m ≤ d ∧ c ≤ 1000000 ∧ d ≤ 1000000 ∧ (A = none → c = 0) ∧ (B = none → d = 0) ∧
      (0 < d → ∃ h p, B = some ⟨h, p, none⟩ ∧ ok h ∧ h < w.heap.size ∧ RW w h ∧ ∀ i, i < d → ∃ s, w.cell? ⟨h, p + i, none⟩ = some (.string s)) ∧
      (0 < c → ∃ g o, A = some ⟨g, o, none⟩ ∧ ok g ∧ g < w.heap.size ∧ RW w g ∧ (∀ h p, B = some ⟨h, p, none⟩ → 0 < d → h ≠ g) ∧ ∃ (f : Nat → Nat → Value) (oks : Nat → Nat → Prop), (∀ i, i < c → ∀ j, j < 4 → w.cell? ⟨g, o + i * 4 + j, none⟩ = some (f i j)) ∧
        ∀ i, i < c → Vp N w (oks i) (.agg #[f i 0, f i 1, f i 2, f i 3]) ∧ ∀ q, oks i q → ok q ∧ q < w.heap.size ∧ q ≠ g ∧ (∀ h p, B = some ⟨h, p, none⟩ → 0 < d → q ≠ h) ∧ ∀ j, j < c → j ≠ i → ¬ oks j q)
theorem Vp.keep : ∀ {N : Nat} {w w' : World} {ok : Nat → Prop} {v : Value}, Vp N w ok v → (∀ g, ok g → g < w.heap.size → w'.heap[g]? = w.heap[g]?) → w.heap.size ≤ w'.heap.size → Vp N w' ok v
  | 0, _, _, _, _, h, _, _ => h.elim
  | N + 1, w, w', ok, v, h, hb, hs => by
    obtain ⟨k, t, A, B, n, c, m, d, rfl, h1, h2, h3, h4, h5, h6, hk, hl⟩ := h
    refine ⟨k, t, A, B, n, c, m, d, rfl, h1, h2, h3, h4, h5, h6, fun h0 => ?_, fun h0 => ?_⟩
    · obtain ⟨h, p, e, ho, hh, hr, hc⟩ := hk h0
      refine ⟨h, p, e, ho, Nat.lt_of_lt_of_le hh hs, hr.eq (hb h ho hh), fun i hi => ?_⟩
      obtain ⟨s, hs⟩ := hc i hi
      exact ⟨s, cell_eq (hb h ho hh) hs⟩
    · obtain ⟨g, o, e, ho, hh, hr, hne, f, oks, hc, hv⟩ := hl h0
      refine ⟨g, o, e, ho, Nat.lt_of_lt_of_le hh hs, hr.eq (hb g ho hh), hne, f, oks, fun i hi j hj => cell_eq (hb g ho hh) (hc i hi j hj), fun i hi => ?_⟩
      obtain ⟨v1, v2⟩ := hv i hi
      exact ⟨v1.keep (fun q hq hlt => hb q (v2 q hq).1 hlt) hs, fun q hq => by
        obtain ⟨q1, q2, q3, q4, q5⟩ := v2 q hq
        exact ⟨q1, Nat.lt_of_lt_of_le q2 hs, q3, q4, q5⟩⟩
theorem Vp.shape {N : Nat} {w : World} {ok : Nat → Prop} {v : Value} (h : Vp N w ok v) : ∃ (k : Nat) (t : ByteArray) (A B : Option Addr) (n c m d : Nat), v = .agg #[.int .u8 k, .string t, .slice A n c, .slice B m d] := by
  cases N with
  | zero => exact h.elim
  | succ N =>
    obtain ⟨k, t, A, B, n, c, m, d, e, _⟩ := h
    exact ⟨k, t, A, B, n, c, m, d, e⟩
set_option maxHeartbeats 16000000 in
set_option maxRecDepth 100000 in
theorem spoil_any : ∀ (N : Nat) (w : World) (ok : Nat → Prop) (v : Value), Vp N w ok v → Calls Tryz.prog 25 #[v] w fun e w' => e = .returned (.tuple #[]) ∧ Ch ok w w'
  | 0, _, _, _, h => h.elim
  | N + 1, w, ok, v, hv => by
    obtain ⟨k, T, A, B, n, c, m, d, rfl, h1, h2, h3, h4, h5, h6, hk, hl⟩ := hv
    have IH := Lib.hid (fun (w : World) (ok : Nat → Prop) (v : Value) (h : Vp N w ok v) => spoil_any N w ok v h)
    have HK := Lib.hid hk
    have HLS := Lib.hid hl
    clear hk hl
    obtain ⟨W1, hW1⟩ : ∃ W, W = w.alloc (vO (.int .u8 k) (.string T) (.slice A n c) (.slice B m d)) := ⟨_, rfl⟩
    have HX := Lib.hid (show Bx W1 w.heap.size (.int .u8 k) (.string T) (.slice A n c) (.slice B m d) from by rw [hW1]; exact Bx.new ..)
    have HB1 := Lib.hid (show Below w.heap.size w W1 from by rw [hW1]; exact below_new ..)
    have HW1 := Lib.hid hW1
    have HSZ := Lib.hid (show W1.heap.size = w.heap.size + 1 from by rw [hW1]; show (w.heap.push _).size = _; rw [Array.size_push])
    clear hW1
    go_enter Tryz.func25, Tryz.ntmps25
    go_upto_region 1 with fail
    rw [← HW1.out]
    obtain ⟨h0, hh0⟩ : ∃ h, h = w.heap.size := ⟨_, rfl⟩
    rw [← hh0] at HX
    rw [← hh0]
    have HH0 := Lib.hid hh0
    clear HW1 hh0
    have x2 := HX.out.c2
    have x3 := HX.out.c3
    go_wp2_with fail
    clear x2 x3
    go_loopw [3] (fun a wx => ∃ i : Nat, i ≤ d ∧ a = .int .i64 i ∧ Hid (Ch (fun g => ∃ p, B = some ⟨g, p, none⟩ ∧ 0 < d) W1 wx) ∧ Hid (0 < d → ∃ h p, B = some ⟨h, p, none⟩ ∧ RW wx h ∧ ∀ i, i < d → ∃ s, wx.cell? ⟨h, p + i, none⟩ = some (.string s))) (fun a _ => d - (intOf a).toNat)
    case atStart => exact ⟨0, Nat.zero_le _, rfl, Lib.hid (Ch.refl _ _), Lib.hid (fun hd => by
      obtain ⟨h, p, e, ho, hh, hr, hc⟩ := HK.out hd
      exact ⟨h, p, e, hr.eq (HB1.out.block h hh), fun i hi => by obtain ⟨s, hs⟩ := hc i hi; exact ⟨s, cell_old HB1.out hh hs⟩⟩)⟩
    case round =>
      obtain ⟨i, hi, rfl, HCH, HR⟩ := hrel
      by_cases hlt : i < d
      · obtain ⟨h, p, rfl, hr, hc⟩ := HR.out (by omega)
        obtain ⟨s, hs⟩ := hc i hlt
        have fr := hr.free (p + i)
        have N1 := Lib.hid (fun v => HCH.out.trans (Ch.set (fun g => ∃ p', some (⟨h, p, none⟩ : Addr) = some ⟨g, p', none⟩ ∧ 0 < d) wr (g := h) ⟨p, rfl, by omega⟩ (p + i) v))
        have N2 := Lib.hid (show 0 < d → ∃ h' p', some (⟨h, p, none⟩ : Addr) = some ⟨h', p', none⟩ ∧ RW (wr.setCell ⟨h, p + i, none⟩ (.string ⟨#[115, 112, 111, 105, 108, 116]⟩)) h' ∧ ∀ j, j < d → ∃ s, (wr.setCell ⟨h, p + i, none⟩ (.string ⟨#[115, 112, 111, 105, 108, 116]⟩)).cell? ⟨h', p' + j, none⟩ = some (.string s) from fun _ =>
          ⟨h, p, rfl, hr.set _ _, fun j hj => by
            by_cases e : j = i
            · subst e
              exact ⟨_, by apply World.cell?_setCell_same; exact hs⟩
            · obtain ⟨s2, hs2⟩ := hc j hj
              exact ⟨s2, by rw [World.cell?_setCell_other _ _ _ _ (fun e2 => by injection e2 with _ e3; omega)]; exact hs2⟩⟩)
        clear hc hr
        go_wp2_with fail
        go_roundw
        case rel => exact ⟨i + 1, by omega, by go_num, Lib.hid (N1.out _), N2⟩
        case measure => simp [intOf]; omega
      · obtain rfl : i = d := by omega
        obtain ⟨W2, hW2⟩ : ∃ W2, W2 = wr := ⟨_, rfl⟩
        subst hW2
        have HX2 := Lib.hid (show W2.cell? ⟨h0, 2, none⟩ = some (.slice A n c) from by
          have hne : ¬ (∃ p, B = some ⟨h0, p, none⟩ ∧ 0 < i) := fun ⟨p, e, hd⟩ => by
            obtain ⟨h, p', e', ho, hh, _⟩ := HK.out hd
            rw [e] at e'; injection e' with e'; injection e' with e' _ _
            have := HH0.out; omega
          exact cell_eq (HCH.out.block h0 (by have := HSZ.out; have := HH0.out; omega) hne) HX.out.c2)
        have x2 := HX2.out
        have HNB := Lib.hid (show ∀ q, (∀ h p, B = some ⟨h, p, none⟩ → 0 < i → q ≠ h) → q < w.heap.size → W2.heap[q]? = w.heap[q]? from fun q hq hlt2 => by
          rw [HCH.out.block q (by have := HSZ.out; omega) (fun ⟨p, e, hd⟩ => hq q p e hd rfl), HB1.out.block q hlt2])
        have HCW := Lib.hid (show Ch ok w W2 from by
          have a1 : Ch ok w W1 := Ch.below HB1.out
          exact ⟨HCH.out.os.trans a1.os, HCH.out.tape.trans a1.tape, HCH.out.output.trans a1.output, Nat.le_trans a1.size HCH.out.size, fun q hq hno => by
            rw [HNB.out q (fun h p e hd e2 => by
              subst e2
              obtain ⟨h', p', e', ho, _⟩ := HK.out hd
              rw [e] at e'; injection e' with e'; injection e' with e' _ _; subst e'
              exact hno ho) hq]⟩)
        go_wp2_with fail
        clear x2
        go_loopw [5] (fun a wx => ∃ j : Nat, j ≤ c ∧ a = .int .i64 j ∧ Hid (Ch ok w wx) ∧ Hid (w.heap.size ≤ wx.heap.size ∧ (0 < c → ∃ g o, A = some ⟨g, o, none⟩ ∧ ok g ∧ g < w.heap.size ∧ RW wx g ∧ ∃ (f : Nat → Nat → Value) (oks : Nat → Nat → Prop), (∀ i', j ≤ i' → i' < c → ∀ r, r < 4 → wx.cell? ⟨g, o + i' * 4 + r, none⟩ = some (f i' r)) ∧
          ∀ i', j ≤ i' → i' < c → Vp N wx (oks i') (.agg #[f i' 0, f i' 1, f i' 2, f i' 3]) ∧ ∀ q, oks i' q → ok q ∧ q ≠ g ∧ ∀ j', j' < c → j' ≠ i' → ¬ oks j' q))) (fun a _ => c - (intOf a).toNat)
        case atStart =>
          refine ⟨0, Nat.zero_le _, rfl, HCW, Lib.hid ⟨HCW.out.size, fun hc => ?_⟩⟩
          obtain ⟨g, o, e, ho, hh, hr, hne, f, oks, hcc, hv⟩ := HLS.out hc
          have eg := HNB.out g (fun h p e hd e2 => hne h p e hd e2.symm) hh
          refine ⟨g, o, e, ho, hh, hr.eq eg, f, oks, fun i' _ hi' r hr => cell_eq eg (hcc i' hi' r hr), fun i' _ hi' => ?_⟩
          obtain ⟨v1, v2⟩ := hv i' hi'
          exact ⟨v1.keep (fun q hq hlt => HNB.out q (v2 q hq).2.2.2.1 hlt) HCW.out.size, fun q hq => ⟨(v2 q hq).1, (v2 q hq).2.2.1, (v2 q hq).2.2.2.2⟩⟩
        case round =>
          obtain ⟨j, hj, rfl, HC2, HR2⟩ := hrel
          obtain ⟨wo, hwo⟩ : ∃ wo, wo = wr := ⟨_, rfl⟩
          subst hwo
          by_cases hlt : j < c
          · obtain ⟨g, o, rfl, hg, hgs, hr, f, oks, hcc, hv⟩ := HR2.out.2 (by omega)
            obtain ⟨v1, v2⟩ := hv j (Nat.le_refl _) hlt
            have c0 := hcc j (Nat.le_refl _) hlt 0 (by decide)
            have c1 := hcc j (Nat.le_refl _) hlt 1 (by decide)
            have c2 := hcc j (Nat.le_refl _) hlt 2 (by decide)
            have c3 := hcc j (Nat.le_refl _) hlt 3 (by decide)
            rw [Nat.add_zero] at c0
            have CI := Lib.hid (IH.out wo (oks j) _ v1)
            obtain ⟨uk, ut, uA, uB, un, uc, um, ud, hue⟩ := v1.shape
            injection hue with hue
            have hue := congrArg Array.toList hue
            simp only at hue
            injection hue with u0 hue; injection hue with u1 hue; injection hue with u2 hue; injection hue with u3 hue
            rw [u0] at c0 CI
            rw [u1] at c1 CI
            rw [u2] at c2 CI
            rw [u3] at c3 CI
            have HV := Lib.hid hv
            have HV2 := Lib.hid v2
            have HCC := Lib.hid hcc
            have HRW := Lib.hid hr
            have HGS := Lib.hid (And.intro hg hgs)
            clear hv v2 hcc hr hg hgs u0 u1 u2 u3 v1 hue
            have D0 := Lib.hid (And.intro c0 (And.intro c1 (And.intro c2 c3)))
            go_wp2_with fail
            refine CI.out.mono ?_
            rintro e w5 ⟨rfl, hch⟩
            have hws := HR2.out.1
            have eg5 : w5.heap[g]? = wo.heap[g]? := hch.block g (by have := HGS.out.2; omega) (fun h => (HV2.out g h).2.1 rfl)
            have c0 := cell_eq eg5 D0.out.1
            have c1 := cell_eq eg5 D0.out.2.1
            have c2 := cell_eq eg5 D0.out.2.2.1
            have c3 := cell_eq eg5 D0.out.2.2.2
            have r5 := HRW.out.eq eg5
            have f0 := r5.free (o + j * 4)
            have f1 := r5.free (o + j * 4 + 1)
            have f2 := r5.free (o + j * 4 + 2)
            have f3 := r5.free (o + j * 4 + 3)
            have N1 := Lib.hid (show Ch ok w ((((w5.setCell ⟨g, o + j * 4, none⟩ (.int .u8 0)).setCell ⟨g, o + j * 4 + 1, none⟩ (.string ⟨#[115, 112, 111, 105, 108, 116]⟩)).setCell ⟨g, o + j * 4 + 2, none⟩ (.slice none 0 0)).setCell ⟨g, o + j * 4 + 3, none⟩ (.slice none 0 0)) from by
              have a1 := HC2.out.trans (hch.more fun q hq => (HV2.out q hq).1)
              exact (((a1.trans (Ch.set ok _ HGS.out.1 _ _)).trans (Ch.set ok _ HGS.out.1 _ _)).trans (Ch.set ok _ HGS.out.1 _ _)).trans (Ch.set ok _ HGS.out.1 _ _))
            have N2 := Lib.hid (show w.heap.size ≤ ((((w5.setCell ⟨g, o + j * 4, none⟩ (.int .u8 0)).setCell ⟨g, o + j * 4 + 1, none⟩ (.string ⟨#[115, 112, 111, 105, 108, 116]⟩)).setCell ⟨g, o + j * 4 + 2, none⟩ (.slice none 0 0)).setCell ⟨g, o + j * 4 + 3, none⟩ (.slice none 0 0)).heap.size ∧ (0 < c → ∃ g' o', some (⟨g, o, none⟩ : Addr) = some ⟨g', o', none⟩ ∧ ok g' ∧ g' < w.heap.size ∧ RW ((((w5.setCell ⟨g, o + j * 4, none⟩ (.int .u8 0)).setCell ⟨g, o + j * 4 + 1, none⟩ (.string ⟨#[115, 112, 111, 105, 108, 116]⟩)).setCell ⟨g, o + j * 4 + 2, none⟩ (.slice none 0 0)).setCell ⟨g, o + j * 4 + 3, none⟩ (.slice none 0 0)) g' ∧ ∃ (f : Nat → Nat → Value) (oks : Nat → Nat → Prop), (∀ i', j + 1 ≤ i' → i' < c → ∀ r, r < 4 → ((((w5.setCell ⟨g, o + j * 4, none⟩ (.int .u8 0)).setCell ⟨g, o + j * 4 + 1, none⟩ (.string ⟨#[115, 112, 111, 105, 108, 116]⟩)).setCell ⟨g, o + j * 4 + 2, none⟩ (.slice none 0 0)).setCell ⟨g, o + j * 4 + 3, none⟩ (.slice none 0 0)).cell? ⟨g', o' + i' * 4 + r, none⟩ = some (f i' r)) ∧
                ∀ i', j + 1 ≤ i' → i' < c → Vp N ((((w5.setCell ⟨g, o + j * 4, none⟩ (.int .u8 0)).setCell ⟨g, o + j * 4 + 1, none⟩ (.string ⟨#[115, 112, 111, 105, 108, 116]⟩)).setCell ⟨g, o + j * 4 + 2, none⟩ (.slice none 0 0)).setCell ⟨g, o + j * 4 + 3, none⟩ (.slice none 0 0)) (oks i') (.agg #[f i' 0, f i' 1, f i' 2, f i' 3]) ∧ ∀ q, oks i' q → ok q ∧ q ≠ g' ∧ ∀ j', j' < c → j' ≠ i' → ¬ oks j' q) from
              ⟨N1.out.size, fun _ => ⟨g, o, rfl, HGS.out.1, HGS.out.2, (((r5.set _ _).set _ _).set _ _).set _ _, f, oks, fun i' hi1 hi2 r hr => by
                rw [(row4 (.int .u8 0) (.string ⟨#[115, 112, 111, 105, 108, 116]⟩) (.slice none 0 0) (.slice none 0 0) c0 c1 c2 c3).2 _ (by omega)]
                exact cell_eq eg5 (HCC.out i' (by omega) hi2 r hr), fun i' hi1 hi2 => by
                obtain ⟨w1, w2⟩ := HV.out i' (by omega) hi2
                refine ⟨w1.keep (fun q hq hql => ?_) (by simp; exact hch.size), w2⟩
                have hqg := (w2 q hq).2.1
                rw [Go.RowKit.Below.heap_setCell _ _ _ _ hqg, Go.RowKit.Below.heap_setCell _ _ _ _ hqg, Go.RowKit.Below.heap_setCell _ _ _ _ hqg, Go.RowKit.Below.heap_setCell _ _ _ _ hqg]
                exact hch.block q hql ((w2 q hq).2.2 j hlt (by omega))⟩⟩)
            clear eg5 r5 hch CI D0 HCC HV HV2 HRW HGS
            go_wp2_with fail
            go_roundw
            case rel => exact ⟨j + 1, by omega, by go_num, N1, N2⟩
            case measure => simp [intOf]; omega
          · obtain rfl : j = c := by omega
            go_wp2_with fail
            refine bodyPost_end (results_none rfl _ _ _) rfl ?_
            exact ⟨rfl, HC2.out⟩
end Va
end Go.Proofs.YtnnlgodgaolkkaaGreatDoor
