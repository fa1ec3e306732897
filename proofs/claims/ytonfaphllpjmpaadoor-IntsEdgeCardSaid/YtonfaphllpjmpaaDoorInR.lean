/- The document's reading of an integer's text, walked. -/
import Derived.Test.YtonfaphllpjmpaaDoorInX
import Derived.Deep.DeepCutAuto
import Derived.Deep.CutBlock
namespace Go.Proofs.YtonfaphllpjmpaaDoor
open Go.RowKit

theorem iseq_txt {s t : ByteArray} {l m : List UInt8} (hs : s = txt l) (ht : t = txt m) : (s.toList == t.toList) = decide (l = m) := by
  rw [hs, ht, toList_txt, toList_txt]
  by_cases h : l = m
  · simp [h]
  · simp [h]
theorem iseq_l {s : ByteArray} {l : List UInt8} (hs : s = txt l) (m : List UInt8) : (s.toList == m) = decide (l = m) := by
  rw [hs, toList_txt]
  by_cases h : l = m
  · simp [h]
  · simp [h]
/-- What a reading answers. -/
def irv : In.R → Value
  | .ok t => .tuple #[.string (txt t), .int .i64 0]
  | .syn => .tuple #[.string ⟨#[]⟩, .int .i64 3]
  | .big => .tuple #[.string ⟨#[]⟩, .int .i64 8]
theorem drop_one {l : List UInt8} {i : Nat} (h : i < l.length) : ∃ c, l.drop i = c :: l.drop (i + 1) ∧ bt l i = (c.toNat : Int) :=
  ⟨l[i], List.drop_eq_getElem_cons h, by simp [bt, h]⟩
theorem by_num {c : UInt8} {y : Int} {k : Nat} (h : y = (c.toNat : Int)) (hk : k < 256) (hy : y = k) : c = UInt8.ofNat k := UInt8.toNat_inj.1 (by rw [UInt8.toNat_ofNat_of_lt' (by simp [UInt8.size]; omega)]; omega)
/-- Is a radix told ahead? -/
def rdx (l : List UInt8) : Bool := decide (2 ≤ l.length ∧ bt l 0 = 48 ∧ (bt l 1 = 120 ∨ bt l 1 = 111 ∨ bt l 1 = 98))
theorem pre_rdx {l : List UInt8} (h : rdx l = true) : In.pre l = ((if bt l 1 = 120 then 16 else if bt l 1 = 111 then 8 else 2), false, l.drop 2) := by
  have h := of_decide_eq_true h
  obtain ⟨h1, h2, h3⟩ := h
  match l, h1, h2, h3 with
  | a :: b :: r, _, h2, h3 =>
    have ha : a = 48 := by_num (k := 48) (y := bt (a :: b :: r) 0) rfl (by omega) h2
    subst ha
    have e1 : bt (48 :: b :: r) 1 = (b.toNat : Int) := rfl
    rw [e1] at h3 ⊢
    rcases h3 with h3 | h3 | h3
    · have hb : b = 120 := by_num (k := 120) (y := (b.toNat : Int)) rfl (by omega) h3
      subst hb; rfl
    · have hb : b = 111 := by_num (k := 111) (y := (b.toNat : Int)) rfl (by omega) h3
      subst hb; rfl
    · have hb : b = 98 := by_num (k := 98) (y := (b.toNat : Int)) rfl (by omega) h3
      subst hb; rfl
theorem pre_sgn {l : List UInt8} (h : rdx l = false) : In.pre l = if 0 < l.length ∧ bt l 0 = 43 then (10, false, l.drop 1) else if 0 < l.length ∧ bt l 0 = 45 then (10, true, l.drop 1) else (10, false, l) := by
  have h := of_decide_eq_false h
  match l with
  | [] => rfl
  | [a] =>
    have e : bt [a] 0 = (a.toNat : Int) := rfl
    rw [e]
    by_cases h1 : a = 43
    · subst h1; rfl
    · by_cases h2 : a = 45
      · subst h2; rfl
      · have n1 : ¬ ((a.toNat : Int) = 43) := fun e => h1 (by_num (k := 43) (y := (a.toNat : Int)) rfl (by omega) e)
        have n2 : ¬ ((a.toNat : Int) = 45) := fun e => h2 (by_num (k := 45) (y := (a.toNat : Int)) rfl (by omega) e)
        rw [if_neg (fun h => n1 h.2), if_neg (fun h => n2 h.2)]
        unfold In.pre
        split <;> simp_all
  | a :: b :: r =>
    have e : bt (a :: b :: r) 0 = (a.toNat : Int) := rfl
    have e1 : bt (a :: b :: r) 1 = (b.toNat : Int) := rfl
    rw [e, e1] at h
    rw [e]
    by_cases h1 : a = 43
    · subst h1; rfl
    · by_cases h2 : a = 45
      · subst h2; rfl
      · have n1 : ¬ ((a.toNat : Int) = 43) := fun e => h1 (by_num (k := 43) (y := (a.toNat : Int)) rfl (by omega) e)
        have n2 : ¬ ((a.toNat : Int) = 45) := fun e => h2 (by_num (k := 45) (y := (a.toNat : Int)) rfl (by omega) e)
        rw [if_neg (fun h => n1 h.2), if_neg (fun h => n2 h.2)]
        unfold In.pre
        split
        · rename_i x heq; injection heq with q1 q2; injection q2 with q2 q3; subst q1; subst q2; exact absurd ⟨by simp, rfl, .inl rfl⟩ h
        · rename_i x heq; injection heq with q1 q2; injection q2 with q2 q3; subst q1; subst q2; exact absurd ⟨by simp, rfl, .inr (.inl rfl)⟩ h
        · rename_i x heq; injection heq with q1 q2; injection q2 with q2 q3; subst q1; subst q2; exact absurd ⟨by simp, rfl, .inr (.inr rfl)⟩ h
        · rename_i x heq; injection heq with q1 q2; exact absurd q1 h1
        · rename_i x heq; injection heq with q1 q2; exact absurd q1 h2
        · rfl
/-- Does a digit stand ahead of a place? -/
def prv (r : List UInt8) (i : Nat) : Bool := decide (0 < i ∧ bt r (i - 1) ≠ 95)
/-- A round of the reading's loop. -/
def RdRel (w : World) (b : Nat) (r : List UInt8) (i n : Nat) (wr : World) : Prop :=
  i ≤ r.length ∧ In.vl b false 0 r = In.vl b (prv r i) n (r.drop i) ∧ n < 100 ^ i ∧ Below w.heap.size w wr
theorem dN_len100 {n i : Nat} (h : n < 100 ^ i) : (In.dN 10 n).length ≤ 2 * i + 1 := by
  by_cases h0 : n = 0
  · subst h0; rw [In.dN_zero (by omega)]; simp
  · have := In.dN_low h0
    have h2 : (100 : Nat) ^ i = 10 ^ (2 * i) := by rw [Nat.pow_mul]
    have h3 : (10 : Nat) ^ ((In.dN 10 n).length - 1) < 10 ^ (2 * i) := by omega
    have := (Nat.pow_lt_pow_iff_right (by omega)).1 h3
    omega
theorem vl_off95 {b i : Nat} {r : List UInt8} {n : Nat} (hi : i < r.length) (hy : bt r i = 95) (h : prv r i = false ∨ i + 1 = r.length) : In.vl b (prv r i) n (r.drop i) = none := by
  obtain ⟨c, e, hb⟩ := drop_one hi
  have hc : c = 95 := by_num (k := 95) hb (by omega) hy
  subst hc
  rw [e, In.vl, if_pos rfl, if_neg]
  rintro ⟨h1, h2⟩
  rcases h with h | h
  · rw [h] at h1; cases h1
  · rw [h, List.drop_length] at h2; exact h2 rfl
theorem vl_on95 {b i : Nat} {r : List UInt8} {n : Nat} (hi : i < r.length) (hy : bt r i = 95) (h1 : prv r i = true) (h2 : i + 1 ≠ r.length) : In.vl b (prv r i) n (r.drop i) = In.vl b (prv r (i + 1)) n (r.drop (i + 1)) := by
  obtain ⟨c, e, hb⟩ := drop_one hi
  have hc : c = 95 := by_num (k := 95) hb (by omega) hy
  subst hc
  have hne : r.drop (i + 1) ≠ [] := by
    intro e
    have := congrArg List.length e
    simp at this; omega
  rw [e, In.vl, if_pos rfl, if_pos ⟨h1, hne⟩, show prv r (i + 1) = false by simp [prv, hy]]
theorem vl_bad {b i : Nat} {r : List UInt8} {n : Nat} (hi : i < r.length) (hb : b ≤ 16) (hy : bt r i ≠ 95) (hd : dJ (bt r i) b < 0) (p : Bool) : In.vl b p n (r.drop i) = none := by
  obtain ⟨c, e, hbb⟩ := drop_one hi
  rw [hbb] at hy hd
  have hc : c ≠ 95 := by rintro rfl; exact hy rfl
  rw [dJ_dg c hb] at hd
  rw [e, In.vl, if_neg hc, if_neg]
  intro h
  rw [if_pos h] at hd; omega
theorem vl_dg {b i : Nat} {r : List UInt8} {n : Nat} (hi : i < r.length) (hb : b ≤ 16) (hy : bt r i ≠ 95) {d : Nat} (hd : dJ (bt r i) b = d) (p : Bool) : d < b ∧ In.vl b p n (r.drop i) = In.vl b (prv r (i + 1)) (n * b + d) (r.drop (i + 1)) := by
  obtain ⟨c, e, hbb⟩ := drop_one hi
  have hp : prv r (i + 1) = true := by simp [prv, hy]
  rw [hbb] at hy hd
  have hc : c ≠ 95 := by rintro rfl; exact hy rfl
  rw [dJ_dg c hb] at hd
  by_cases h : In.dg c < b
  · rw [if_pos h] at hd
    have : In.dg c = d := by omega
    subst this
    refine ⟨h, ?_⟩
    rw [e, In.vl, if_neg hc, if_pos h, hp]
  · rw [if_neg h] at hd; omega
theorem lit8 : (⟨#[57, 50, 50, 51, 51, 55, 50, 48, 51, 54, 56, 53, 52, 55, 55, 53, 56, 48, 56]⟩ : ByteArray) = txt (In.dN 10 9223372036854775808) := by
  rw [show In.dN 10 9223372036854775808 = [57, 50, 50, 51, 51, 55, 50, 48, 51, 54, 56, 53, 52, 55, 55, 53, 56, 48, 56] by decide +kernel]; rfl
theorem lit7 : (⟨#[57, 50, 50, 51, 51, 55, 50, 48, 51, 54, 56, 53, 52, 55, 55, 53, 56, 48, 55]⟩ : ByteArray) = txt (In.dN 10 9223372036854775807) := by
  rw [show In.dN 10 9223372036854775807 = [57, 50, 50, 51, 51, 55, 50, 48, 51, 54, 56, 53, 52, 55, 55, 53, 56, 48, 55] by decide +kernel]; rfl
theorem dN_48 (n : Nat) : (In.dN 10 n = [48]) ↔ n = 0 := by
  constructor
  · intro h
    have := congrArg In.dv h
    rw [In.dv_dN] at this; simpa [In.dv, In.d10] using this
  · rintro rfl; exact In.dN_zero (by omega)
def CutP (l : List UInt8) (w : World) (S : Value) (B : Value) (M : Value) (wx : World) : Prop := ∃ (b : Nat) (m : Bool) (r : List UInt8) (T : ByteArray), In.pre l = (b, m, r) ∧ (b = 2 ∨ b = 8 ∨ b = 10 ∨ b = 16) ∧ S = .string T ∧ T = txt r ∧ B = .int .i64 b ∧ M = .bool m ∧ r.length ≤ l.length ∧ w = wx
set_option maxHeartbeats 8000000 in
set_option maxRecDepth 100000 in
theorem iread_any {l : List UInt8} {s : ByteArray} (w : World) (hs : s = txt l) (hl : l.length ≤ 100000) {R : In.R} (hR : R = In.rd l) :
    Calls Tryd.prog 10 #[.string s] w fun e w' => e = .returned (irv R) ∧ Below w.heap.size w w' := by
  have HS := Lib.hid hs
  have HL := Lib.hid hl
  have HR := Lib.hid hR
  have HZ := Lib.hid (show s.size = l.length by rw [hs, txt_size])
  have hsz : s.size ≤ 100000 := by rw [HZ.out]; exact hl
  have hx0 := txt_at hs (k := 0)
  have hx1 := txt_at hs (k := 1)
  obtain ⟨y0, HY0⟩ : ∃ y, Hid (y = bt l 0) := ⟨_, rfl⟩
  obtain ⟨y1, HY1⟩ : ∃ y, Hid (y = bt l 1) := ⟨_, rfl⟩
  rw [← HY0.out] at hx0
  rw [← HY1.out] at hx1
  obtain ⟨X, HX⟩ : ∃ X, Hid (X = rdx l) := ⟨_, rfl⟩
  have HXE : Hid (X = decide (2 ≤ s.size ∧ y0 = 48 ∧ (y1 = 120 ∨ y1 = 111 ∨ y1 = 98))) := Lib.hid (by rw [HX.out, rdx, HZ.out, HY0.out, HY1.out])
  clear hs hl hR
  go_enter Tryd.func10, Tryd.ntmps10
  go_upto_region 3 with fail
  go_cut [31] (fun x wx => x = .bool X ∧ w = wx)
  case first =>
    by_cases h2 : 2 ≤ s.size
    · have i0 : 0 < s.size := by omega
      have i1 : 1 < s.size := by omega
      have h2i : (2 : Int) ≤ s.size := by omega
      by_cases c0 : y0 = 48
      · by_cases c1 : y1 = 120
        · obtain rfl : X = true := by rw [HXE.out]; simp [h2, c0, c1]
          subst c0; subst c1
          go_wp2_with fail
          go_meet
          exact ⟨rfl, rfl⟩
        · have d1 : (y1 == 120) = false := by simp [c1]
          by_cases c2 : y1 = 111
          · obtain rfl : X = true := by rw [HXE.out]; simp [h2, c0, c2]
            subst c0; subst c2
            go_wp2_with fail
            go_meet
            exact ⟨rfl, rfl⟩
          · have d2 : (y1 == 111) = false := by simp [c2]
            by_cases c3 : y1 = 98
            · obtain rfl : X = true := by rw [HXE.out]; simp [h2, c0, c3]
              subst c0; subst c3
              go_wp2_with fail
              go_meet
              exact ⟨rfl, rfl⟩
            · have d3 : (y1 == 98) = false := by simp [c3]
              obtain rfl : X = false := by rw [HXE.out]; simp [c1, c2, c3]
              subst c0
              go_wp2_with fail
              go_meet
              exact ⟨rfl, rfl⟩
      · have d0 : (y0 == 48) = false := by simp [c0]
        obtain rfl : X = false := by rw [HXE.out]; simp [c0]
        go_wp2_with fail
        go_meet
        exact ⟨rfl, rfl⟩
    · have h2i : ¬ (2 : Int) ≤ s.size := by omega
      obtain rfl : X = false := by rw [HXE.out]; simp [h2]
      go_wp2_with fail
      go_meet
      exact ⟨rfl, rfl⟩
  case rest =>
    obtain ⟨rfl, rfl⟩ := hcut
    go_upto_if 31 with fail
    go_cut [0, 4, 5] (fun S B M wx => CutP l w S B M wx)
    case first =>
      have HXE2 : Hid (X = true → 2 ≤ s.size ∧ y0 = 48 ∧ (y1 = 120 ∨ y1 = 111 ∨ y1 = 98)) := Lib.hid (fun h => by have := HXE.out; rw [h] at this; exact of_decide_eq_true this.symm)
      cases X
      · have HP := Lib.hid (pre_sgn HX.out.symm)
        rw [← HY0.out, ← HZ.out] at HP
        by_cases h0 : 0 < s.size
        · have h0i : (0 : Int) < s.size := by omega
          by_cases c1 : y0 = 43
          · have HPP := Lib.hid (show In.pre l = (10, false, l.drop 1) by rw [HP.out, if_pos ⟨h0, c1⟩])
            subst c1
            go_wp2_with fail
            go_meet
            exact ⟨10, false, l.drop 1, _, HPP.out, by omega, rfl, by rw [HS.out, txt_cut, txt_size, List.take_length], rfl, rfl, by simp, rfl⟩
          · have d1 : (y0 == 43) = false := by simp [c1]
            by_cases c2 : y0 = 45
            · have HPP := Lib.hid (show In.pre l = (10, true, l.drop 1) by rw [HP.out, if_neg (fun h => c1 h.2), if_pos ⟨h0, c2⟩])
              subst c2
              go_wp2_with fail
              go_meet
              exact ⟨10, true, l.drop 1, _, HPP.out, by omega, rfl, by rw [HS.out, txt_cut, txt_size, List.take_length], rfl, rfl, by simp, rfl⟩
            · have d2 : (y0 == 45) = false := by simp [c2]
              have HPP := Lib.hid (show In.pre l = (10, false, l) by rw [HP.out, if_neg (fun h => c1 h.2), if_neg (fun h => c2 h.2)])
              go_wp2_with fail
              go_meet
              exact ⟨10, false, l, s, HPP.out, by omega, rfl, HS.out, rfl, rfl, Nat.le_refl _, rfl⟩
        · have h0i : ¬ (0 : Int) < s.size := by omega
          have HPP := Lib.hid (show In.pre l = (10, false, l) by rw [HP.out, if_neg (fun h => h0 h.1), if_neg (fun h => h0 h.1)])
          go_wp2_with fail
          go_meet
          exact ⟨10, false, l, s, HPP.out, by omega, rfl, HS.out, rfl, rfl, Nat.le_refl _, rfl⟩
      · have HP := Lib.hid (pre_rdx HX.out.symm)
        rw [← HY1.out] at HP
        obtain ⟨k1, k2, k3⟩ := HXE2.out rfl
        have i1 : 1 < s.size := by omega
        have h2i : (2 : Int) ≤ s.size := by omega
        by_cases c1 : y1 = 120
        · have HPP := Lib.hid (show In.pre l = (16, false, l.drop 2) by rw [HP.out, if_pos c1])
          have d2 : (y1 == 111) = false := by simp [c1]
          subst c1
          clear k3 k2
          go_wp2_with fail
          go_meet
          exact ⟨16, false, l.drop 2, _, HPP.out, by omega, rfl, by rw [HS.out, txt_cut, txt_size, List.take_length], rfl, rfl, by simp, rfl⟩
        · have d1 : (y1 == 120) = false := by simp [c1]
          by_cases c2 : y1 = 111
          · have HPP := Lib.hid (show In.pre l = (8, false, l.drop 2) by rw [HP.out, if_neg c1, if_pos c2])
            subst c2
            clear k3 k2
            go_wp2_with fail
            go_meet
            exact ⟨8, false, l.drop 2, _, HPP.out, by omega, rfl, by rw [HS.out, txt_cut, txt_size, List.take_length], rfl, rfl, by simp, rfl⟩
          · have d2 : (y1 == 111) = false := by simp [c2]
            have HPP := Lib.hid (show In.pre l = (2, false, l.drop 2) by rw [HP.out, if_neg c1, if_neg c2])
            clear k3 k2
            go_wp2_with fail
            go_meet
            exact ⟨2, false, l.drop 2, _, HPP.out, by omega, rfl, by rw [HS.out, txt_cut, txt_size, List.take_length], rfl, rfl, by simp, rfl⟩
    case rest =>
      obtain ⟨b, m, r, T, hpre, hb4, rfl, hT, rfl, rfl, hrl, rfl⟩ := hcut
      have HT := Lib.hid hT
      have HTZ := Lib.hid (show T.size = r.length by rw [hT, txt_size])
      have HRD := Lib.hid (show R = In.body b m r by rw [HR.out, In.rd, hpre])
      have HRL := Lib.hid (show r.length ≤ 100000 by have := HL.out; omega)
      have hTs : T.size ≤ 100000 := by rw [HTZ.out]; exact HRL.out
      have HB4 := Lib.hid hb4
      have hb2 : 2 ≤ (b : Int) := by omega
      have hb16 : (b : Int) ≤ 16 := by omega
      have hz0 := txt_at hT (k := 0)
      obtain ⟨z0, HZ0⟩ : ∃ y, Hid (y = bt r 0) := ⟨_, rfl⟩
      rw [← HZ0.out] at hz0
      obtain ⟨Z, HZZ⟩ : ∃ Z, Hid (Z = decide (r = [] ∨ b = 10 ∧ 1 < r.length ∧ r.head? = some 48)) := ⟨_, rfl⟩
      clear hx0 hx1 HXE HX hpre hT hrl hb4
      go_upto_region 13 with fail
      go_cut [74] (fun x wx => x = .bool Z ∧ w = wx)
      case first =>
        by_cases e0 : T.size = 0
        · have hr0 : r = [] := List.eq_nil_of_length_eq_zero (by rw [← HTZ.out]; exact e0)
          obtain rfl : Z = true := by rw [HZZ.out]; simp [hr0]
          have e0i : ((T.size : Int) == 0) = true := by simp [e0]
          go_wp2_with fail
          go_meet
          exact ⟨rfl, rfl⟩
        · have e0i : ((T.size : Int) == 0) = false := by simp [e0]
          have hrn : r ≠ [] := by intro e; rw [HTZ.out, e] at e0; exact e0 rfl
          have i0 : 0 < T.size := by omega
          rcases HB4.out with rfl | rfl | rfl | rfl
          · obtain rfl : Z = false := by
              rw [HZZ.out, decide_eq_false_iff_not]
              rintro (h | ⟨h, _⟩)
              · exact hrn h
              · omega
            go_wp2_with fail
            go_meet
            exact ⟨rfl, rfl⟩
          · obtain rfl : Z = false := by
              rw [HZZ.out, decide_eq_false_iff_not]
              rintro (h | ⟨h, _⟩)
              · exact hrn h
              · omega
            go_wp2_with fail
            go_meet
            exact ⟨rfl, rfl⟩
          · by_cases e2 : 1 < T.size
            · have e2i : (1 : Int) < T.size := by omega
              have hh : r.head? = some 48 ↔ z0 = 48 := by
                obtain ⟨c, q, e⟩ := List.exists_cons_of_ne_nil hrn
                rw [HZ0.out, e]
                show some c = some 48 ↔ (c.toNat : Int) = 48
                constructor
                · intro h; injection h with h; rw [h]; rfl
                · intro h; rw [by_num (k := 48) (y := (c.toNat : Int)) rfl (by omega) h]; rfl
              by_cases e3 : z0 = 48
              · obtain rfl : Z = true := by rw [HZZ.out, ← HTZ.out]; simp [e2, hh.2 e3]
                have e3i : (z0 == 48) = true := by simp [e3]
                go_wp2_with fail
                go_meet
                exact ⟨rfl, rfl⟩
              · have e3i : (z0 == 48) = false := by simp [e3]
                obtain rfl : Z = false := by
                  rw [HZZ.out, decide_eq_false_iff_not]
                  rintro (h | ⟨_, _, h⟩)
                  · exact hrn h
                  · exact e3 (hh.1 h)
                go_wp2_with fail
                go_meet
                exact ⟨rfl, rfl⟩
            · have e2i : ¬ (1 : Int) < T.size := by omega
              obtain rfl : Z = false := by
                rw [HZZ.out, decide_eq_false_iff_not]
                rintro (h | ⟨_, h, _⟩)
                · exact hrn h
                · rw [← HTZ.out] at h; exact e2 h
              go_wp2_with fail
              go_meet
              exact ⟨rfl, rfl⟩
          · obtain rfl : Z = false := by
              rw [HZZ.out, decide_eq_false_iff_not]
              rintro (h | ⟨h, _⟩)
              · exact hrn h
              · omega
            go_wp2_with fail
            go_meet
            exact ⟨rfl, rfl⟩
      case rest =>
        obtain ⟨rfl, rfl⟩ := hcut
        cases Z
        · have HV := Lib.hid (show R = In.fin m (In.vl b false 0 r) by rw [HRD.out, In.body, if_neg (of_decide_eq_false HZZ.out.symm)])
          have R0 : RdRel w b r 0 0 w := ⟨Nat.zero_le _, rfl, by simp, Below.refl _ _⟩
          clear hz0
          go_wp2_with fail
          go_loopw [6, 7] (fun v i wr => ∃ (k n : Nat) (N : ByteArray), i = .int .i64 k ∧ v = .string N ∧ N = txt (In.dN 10 n) ∧ RdRel w b r k n wr) (fun _ i _ => T.size - (intOf i).toNat)
          case atStart => exact ⟨0, 0, _, rfl, rfl, by rw [In.dN_zero (by omega)]; rfl, R0⟩
          case round =>
            obtain ⟨k, n, N, rfl, rfl, hN, Rk⟩ := hrel
            clear R0
            have HRk := Lib.hid Rk
            have HN := Lib.hid hN
            have hkT : k ≤ T.size := by rw [HTZ.out]; exact Rk.1
            have HNL := Lib.hid (dN_len100 Rk.2.2.1)
            clear Rk hN
            by_cases hlt : k < T.size
            · have hkr : k < r.length := by rw [← HTZ.out]; exact hlt
              have hx := txt_at HT.out (k := k)
              have b0 := bt_lo r k
              have b1 := bt_hi r k
              obtain ⟨y, HY⟩ : ∃ y, Hid (y = bt r k) := ⟨_, rfl⟩
              rw [← HY.out] at hx b0 b1
              by_cases h95 : y = 95
              · have HE := Lib.hid (show bt r k = 95 by rw [← HY.out]; exact h95)
                subst h95
                by_cases hk0 : k = 0
                · have HNO := Lib.hid (show In.vl b false 0 r = none by rw [HRk.out.2.1, vl_off95 hkr HE.out (.inl (by rw [hk0]; rfl))])
                  subst hk0
                  go_wp2_with fail
                  go_ret2
                  exact ⟨by rw [HV.out, HNO.out]; rfl, HRk.out.2.2.2⟩
                · have hk0i : ((k : Int) == 0) = false := by simp [hk0]
                  by_cases hk1 : k + 1 = T.size
                  · have HNO := Lib.hid (show In.vl b false 0 r = none by rw [HRk.out.2.1, vl_off95 hkr HE.out (.inr (by rw [← HTZ.out]; exact hk1))])
                    have hk1i : ((k : Int) + 1 == (T.size : Int)) = true := by simp; omega
                    go_wp2_with fail
                    go_ret2
                    exact ⟨by rw [HV.out, HNO.out]; rfl, HRk.out.2.2.2⟩
                  · have hk1i : ((k : Int) + 1 == (T.size : Int)) = false := by simp; omega
                    obtain ⟨q, HQK⟩ : ∃ q, Hid (k = q + 1) := ⟨k - 1, Lib.hid (by omega)⟩
                    have hxq := txt_at HT.out (k := q)
                    obtain ⟨v, HVV⟩ : ∃ v, Hid (v = bt r q) := ⟨_, rfl⟩
                    rw [← HVV.out] at hxq
                    have hq : q < T.size := by have := HQK.out; omega
                    have hq1 : (k : Int) - 1 = q := by have := HQK.out; omega
                    have hqk : k - 1 = q := by have := HQK.out; omega
                    have HQK2 := Lib.hid hqk
                    clear hqk
                    by_cases hv : v = 95
                    · have HNO := Lib.hid (show In.vl b false 0 r = none by rw [HRk.out.2.1, vl_off95 hkr HE.out (.inl (by rw [prv, HQK2.out, ← HVV.out]; simp [hv]))])
                      have hvi : (v == 95) = true := by simp [hv]
                      go_wp2_with fail
                      go_ret2
                      exact ⟨by rw [HV.out, HNO.out]; rfl, HRk.out.2.2.2⟩
                    · have HON := Lib.hid (show In.vl b false 0 r = In.vl b (prv r (k + 1)) n (r.drop (k + 1)) by rw [HRk.out.2.1, vl_on95 hkr HE.out (by rw [prv, HQK2.out, ← HVV.out]; simp [hv]; omega) (by rw [← HTZ.out]; exact hk1)])
                      have hvi : (v == 95) = false := by simp [hv]
                      have HQ := Lib.hid hkr
                      go_wp2_with fail
                      go_roundw
                      case rel => exact ⟨k + 1, n, N, by go_num, rfl, HN.out, HQ.out, HON.out, Nat.lt_of_lt_of_le HRk.out.2.2.1 (Nat.pow_le_pow_right (by omega) (by omega)), HRk.out.2.2.2⟩
                      case measure => simp [intOf]; omega
              · have h95i : (y == 95) = false := by simp [h95]
                have HE := Lib.hid (show bt r k ≠ 95 by rw [← HY.out]; exact h95)
                obtain ⟨d, HD⟩ : ∃ d, Hid (d = dJ y b) := ⟨_, rfl⟩
                by_cases hneg : d < 0
                · have HNO := Lib.hid (show In.vl b false 0 r = none by rw [HRk.out.2.1, vl_bad hkr (by omega) HE.out (by rw [← HY.out, ← HD.out]; exact hneg)])
                  go_wp2_with fail
                  refine (idigit_is _ HD.out b0 b1 hb2 hb16).mono ?_
                  rintro e w3 ⟨rfl, rfl⟩
                  go_wp2_with fail
                  go_ret2
                  exact ⟨by rw [HV.out, HNO.out]; rfl, HRk.out.2.2.2⟩
                · obtain ⟨D, rfl⟩ : ∃ D : Nat, d = D := ⟨d.toNat, by omega⟩
                  obtain ⟨hDb, hON⟩ := vl_dg (b := b) (n := n) hkr (by omega) HE.out (by rw [← HY.out]; exact HD.out.symm) (prv r k)
                  have HON := Lib.hid (show In.vl b false 0 r = In.vl b (prv r (k + 1)) (n * b + D) (r.drop (k + 1)) by rw [HRk.out.2.1, hON])
                  have HDB := Lib.hid hDb
                  have HQ := Lib.hid hkr
                  have HPW := Lib.hid (show n * b + D < 100 ^ (k + 1) by
                    have h1 : n * b ≤ n * 16 := Nat.mul_le_mul_left _ (by omega)
                    have h2 := HRk.out.2.2.1
                    have h3 : b ≤ 16 := by omega
                    rw [Nat.pow_succ]; omega)
                  clear hDb hON hkr
                  go_wp2_with fail
                  refine (idigit_is _ HD.out b0 b1 hb2 hb16).mono ?_
                  rintro e w3 ⟨rfl, rfl⟩
                  go_wp2_with fail
                  refine (times_any b D b D _ HN.out (by have := HNL.out; have := HRL.out; have := HQ.out; omega) rfl rfl (by omega) (by have := HDB.out; omega)).mono ?_
                  rintro e w4 ⟨rfl, hbl⟩
                  have HBL := Lib.hid (HRk.out.2.2.2.trans (hbl.mono HRk.out.2.2.2.size))
                  clear hbl
                  obtain ⟨N2, HN2⟩ : ∃ N2, txt (In.dN 10 (n * b + D)) = N2 := ⟨_, rfl⟩
                  rw [HN2]
                  have HN3 := Lib.hid HN2.symm
                  clear HN2
                  go_wp2_with fail
                  go_roundw
                  case rel => exact ⟨k + 1, n * b + D, N2, by go_num, rfl, HN3.out, HQ.out, HON.out, HPW.out, HBL.out⟩
                  case measure => simp [intOf]; omega
            · obtain rfl : k = T.size := by omega
              have HVV := Lib.hid (show In.vl b false 0 r = some n by rw [HRk.out.2.1, HTZ.out, List.drop_length, In.vl_nil])
              have hNs : N.size ≤ 300000 := by rw [HN.out, txt_size]; have := HNL.out; have := HRL.out; have := HTZ.out; omega
              have HBL := Lib.hid HRk.out.2.2.2
              have hq0 := iseq_l HN.out [48]
              clear hlt
              cases m
              · obtain ⟨O, HO⟩ : ∃ O, Hid (O = decide (9223372036854775807 < n)) := ⟨_, rfl⟩
                cases O
                · have HF := Lib.hid (show R = .ok (In.dN 10 n) by rw [HV.out, HVV.out, In.fin_ok (by have := of_decide_eq_false HO.out.symm; simp [In.lim]; omega), In.nf, if_neg (by simp)])
                  go_wp2_with fail
                  refine (over_any _ HN.out lit7 HO.out).mono ?_
                  rintro e w4 ⟨rfl, rfl⟩
                  go_wp2_with fail
                  go_ret2
                  exact ⟨by rw [HF.out, irv, ← HN.out]; rfl, HBL.out⟩
                · have HF := Lib.hid (show R = .big by rw [HV.out, HVV.out, In.fin_big (by have := of_decide_eq_true HO.out.symm; simp [In.lim]; omega)])
                  go_wp2_with fail
                  refine (over_any _ HN.out lit7 HO.out).mono ?_
                  rintro e w4 ⟨rfl, rfl⟩
                  go_wp2_with fail
                  go_ret2
                  exact ⟨by rw [HF.out]; rfl, HBL.out⟩
              · obtain ⟨O, HO⟩ : ∃ O, Hid (O = decide (9223372036854775808 < n)) := ⟨_, rfl⟩
                cases O
                · have HOF := Lib.hid (show R = .ok (In.nf true n) by rw [HV.out, HVV.out, In.fin_ok (by have := of_decide_eq_false HO.out.symm; simp [In.lim]; omega)])
                  by_cases hn0 : n = 0
                  · have HF := Lib.hid (show R = .ok (In.dN 10 n) by rw [HOF.out, In.nf, if_neg (by simp [hn0])])
                    rw [decide_eq_true ((dN_48 n).2 hn0)] at hq0
                    clear hn0
                    go_wp2_with fail
                    refine (over_any _ HN.out lit8 HO.out).mono ?_
                    rintro e w4 ⟨rfl, rfl⟩
                    go_wp2_with fail
                    go_ret2
                    exact ⟨by rw [HF.out, irv, ← HN.out]; rfl, HBL.out⟩
                  · have HF := Lib.hid (show R = .ok (45 :: In.dN 10 n) by rw [HOF.out, In.nf, if_pos ⟨rfl, hn0⟩])
                    rw [decide_eq_false (fun h => hn0 ((dN_48 n).1 h))] at hq0
                    have HSM := Lib.hid (show (⟨#[45]⟩ : ByteArray) ++ N = txt (45 :: In.dN 10 n) by rw [HN.out]; exact txt_app [45] _)
                    clear hn0
                    go_wp2_with fail
                    refine (over_any _ HN.out lit8 HO.out).mono ?_
                    rintro e w4 ⟨rfl, rfl⟩
                    go_wp2_with fail
                    go_ret2
                    exact ⟨by rw [HF.out, irv, ← HSM.out]; rfl, HBL.out⟩
                · have HF := Lib.hid (show R = .big by rw [HV.out, HVV.out, In.fin_big (by have := of_decide_eq_true HO.out.symm; simp [In.lim]; omega)])
                  go_wp2_with fail
                  refine (over_any _ HN.out lit8 HO.out).mono ?_
                  rintro e w4 ⟨rfl, rfl⟩
                  go_wp2_with fail
                  go_ret2
                  exact ⟨by rw [HF.out]; rfl, HBL.out⟩
        · have HF := Lib.hid (show R = .syn by rw [HRD.out, In.body, if_pos (of_decide_eq_true HZZ.out.symm)])
          go_wp2_with fail
          go_ret2
          exact ⟨by rw [HF.out]; rfl, Below.refl _ _⟩
end Go.Proofs.YtonfaphllpjmpaaDoor
