/- What landed: gaps; the reader over one. -/
import Derived.Test.YtbeefjhcbphiaaaGreatDoorHo
import Derived.Deep.CutRange
import Derived.LoopTactic
namespace Go.Proofs.YtbeefjhcbphiaaaGreatDoor
open Go.RowKit
namespace Tv
open Ty (WR1 KR Ky Bs blK endP endP_on endP_no endP_far)

def gpv : GR → Value
  | .ok e => .tuple #[.int .i64 (e : Nat), .agg #[.int .i64 0, .int .i64 0]]
  | .bad a => .tuple #[.int .i64 0, .agg #[.int .i64 3, .int .i64 (a : Nat)]]
section
variable {l : Bs} {s : ByteArray} {p : Nat}
set_option maxHeartbeats 4000000 in
set_option maxRecDepth 100000 in
theorem gap_in (w : World) (hs : s = txt l) (hl : l.length ≤ 1000000) (hp : p ≤ l.length) {y : Int} (hy : y = p) :
    Calls Tryz.prog 13 #[.string s, .int .i64 y] w fun e w' => e = .returned (gpv (gap l p)) ∧ Below w.heap.size w w' := by
  subst hy
  obtain ⟨V, hV⟩ : ∃ V, V = gpv (gap l p) := ⟨_, rfl⟩
  rw [← hV]
  have HSZ := Lib.hid (show s.size = l.length by rw [hs, txt_size])
  have hsz : s.size ≤ 1000000 := by rw [hs, txt_size]; exact hl
  have HS := Lib.hid hs
  have HL := Lib.hid hl
  have HFC := Lib.hid (FC.new w)
  have HW0 := Lib.hid (show Below w.heap.size w (w.alloc ftO) from (Below.refl _ _).alloc (Nat.le_refl _) _)
  have HV := Lib.hid (show V = gpv (gp l (l.length + 1) p) from hV)
  have HP := Lib.hid hp
  clear hs hl hp hV
  go_enter Tryz.func13, Tryz.ntmps13
  go_upto_region 1 with fail
  obtain ⟨W, hW⟩ : ∃ W, w.alloc ftO = W := ⟨_, rfl⟩
  rw [hW] at HFC HW0 ⊢
  clear hW
  go_wp2_with fail
  go_loopw [4] (fun a wr => ∃ (k f : Nat), a = .int .i64 (k : Nat) ∧ k ≤ 1000000 ∧ Hid (k ≤ l.length ∧ l.length < f + k) ∧ Hid (V = gpv (gp l f k)) ∧ Hid (Below W.heap.size W wr)) (fun a _ => 1000001 - (intOf a).toNat)
  case atStart => exact ⟨p, l.length + 1, rfl, by have := HP.out; have := HL.out; omega, Lib.hid ⟨HP.out, by omega⟩, HV, Lib.hid (Below.refl _ _)⟩
  case round =>
    obtain ⟨k, f, rfl, hk6, HK, HVK, HB⟩ := hrel
    have hkl := HK.out.1
    obtain ⟨f', rfl⟩ : ∃ f', f = f' + 1 := ⟨f - 1, by have := HK.out.2; omega⟩
    obtain ⟨q, hq⟩ : ∃ q, q = endP blK l k := ⟨_, rfl⟩
    have hql : q ≤ l.length := by rw [hq]; exact Ty.endP_le _ _ _ hkl
    have hkq : k ≤ q := by rw [hq]; exact Ty.endP_ge ..
    obtain ⟨c, hc⟩ : ∃ c, c = cm l q := ⟨_, rfl⟩
    have hcl : c ≤ l.length := by rw [hc]; exact cm_le l hql
    have hqc : q ≤ c := by rw [hc]; exact cm_ge ..
    have CB := Lib.hid (fun w => Ty.blanks_any w HS.out HL.out hkl (R := (q : Nat)) (by rw [hq]))
    have CC := Lib.hid (fun w => comment_in w HS.out HL.out hql (R := (c : Nat)) (by rw [hc]) (y := (q : Nat)) rfl)
    obtain ⟨x1, hx1⟩ : ∃ x, x = hasP (l.drop c) [10] := ⟨_, rfl⟩
    obtain ⟨x2, hx2⟩ : ∃ x, x = hasP (l.drop c) [13, 10] := ⟨_, rfl⟩
    obtain ⟨x3, hx3⟩ : ∃ x, x = hasP (l.drop c) [13] := ⟨_, rfl⟩
    have S1 := Lib.hid (fun w => stands_in (t := ⟨#[10]⟩) (q := [10]) w HS.out HL.out hcl rfl (by decide) hx1 (y := (c : Nat)) rfl)
    have S2 := Lib.hid (fun w => stands_in (t := ⟨#[13, 10]⟩) (q := [13, 10]) w HS.out HL.out hcl rfl (by decide) hx2 (y := (c : Nat)) rfl)
    have S3 := Lib.hid (fun w => stands_in (t := ⟨#[13]⟩) (q := [13]) w HS.out HL.out hcl rfl (by decide) hx3 (y := (c : Nat)) rfl)
    rw [has1 (by decide)] at hx1 hx3
    rw [has2 (by decide) (by decide)] at hx2
    have HE := Lib.hid (show V = gpv (if bt l c = 10 then gp l f' (c + 1) else if bt l c = 13 then (if bt l (c + 1) = 10 then gp l f' (c + 2) else .bad (c + 1)) else .ok c) by rw [HVK.out, gp, ← hq, ← hc])
    have HC := Lib.hid (And.intro hkq (And.intro hqc hcl))
    have hc6 : c ≤ 1000000 := by have := HL.out; omega
    have HX1 := Lib.hid hx1
    have HX2 := Lib.hid hx2
    have HX3 := Lib.hid hx3
    clear hkl hq hql hkq hc hcl hqc HVK hx1 hx2 hx3
    go_wp2_with fail
    refine (CB.out _).mono ?_
    rintro e w1 ⟨rfl, rfl⟩
    go_wp2_with fail
    refine (CC.out _).mono ?_
    rintro e w2 ⟨rfl, hb2⟩
    have HB2 := Lib.hid (below_tr HB.out hb2)
    clear hb2
    go_wp2_with fail
    refine (S1.out _).mono ?_
    rintro e w3 ⟨rfl, rfl⟩
    cases x1 with
    | true =>
      have h10 : bt l c = 10 := of_decide_eq_true HX1.out.symm
      have N := Lib.hid (show V = gpv (gp l f' (c + 1)) by rw [HE.out, if_pos h10])
      have hlt := bt_in h10 (by decide)
      have NL := Lib.hid hlt
      clear h10 hlt
      go_wp2_with fail
      go_roundw
      case rel => exact ⟨c + 1, f', by go_num, by have := NL.out; have := HL.out; omega, Lib.hid ⟨by have := NL.out; omega, by have := HK.out.2; have := HC.out; omega⟩, N, HB2⟩
      case measure => have := HC.out; have := NL.out; have := HL.out; simp [intOf]; omega
    | false =>
      have h10 : ¬ bt l c = 10 := of_decide_eq_false HX1.out.symm
      go_wp2_with fail
      refine (S2.out _).mono ?_
      rintro e w3 ⟨rfl, rfl⟩
      cases x2 with
      | true =>
        have h2 := HX2.out.symm
        rw [Bool.and_eq_true] at h2
        have h13 : bt l c = 13 := of_decide_eq_true h2.1
        have h14 : bt l (c + 1) = 10 := of_decide_eq_true h2.2
        have N := Lib.hid (show V = gpv (gp l f' (c + 2)) by rw [HE.out, if_neg h10, if_pos h13, if_pos h14])
        have NL := Lib.hid (bt_in h14 (by decide))
        clear h2 h13 h14 h10
        go_wp2_with fail
        go_roundw
        case rel => exact ⟨c + 2, f', by go_num, by have := NL.out; have := HL.out; omega, Lib.hid ⟨by have := NL.out; omega, by have := HK.out.2; have := HC.out; omega⟩, N, HB2⟩
        case measure => have := HC.out; have := NL.out; have := HL.out; simp [intOf]; omega
      | false =>
        go_wp2_with fail
        refine (S3.out _).mono ?_
        rintro e w3 ⟨rfl, rfl⟩
        have d0 := cell_old HB2.out HFC.out.lt HFC.out.c0
        have d1 := cell_old HB2.out HFC.out.lt HFC.out.c1
        have e0 := free_old HB2.out HFC.out.lt HFC.out.f0
        have e1 := free_old HB2.out HFC.out.lt HFC.out.f1
        have HBW := Lib.hid (HFC.out.bel _ HB2.out)
        cases x3 with
        | true =>
          have h13 : bt l c = 13 := of_decide_eq_true HX3.out.symm
          have N := Lib.hid (show V = gpv (.bad (c + 1)) by
            rw [HE.out, if_neg h10, if_pos h13, if_neg]
            intro h14
            have := HX2.out
            rw [decide_eq_true (show bt l c = ((13 : UInt8).toNat : Int) from h13), decide_eq_true (show bt l (c + 1) = ((10 : UInt8).toNat : Int) from h14)] at this
            cases this)
          clear h13 h10
          go_wp2_with fail
          refine bodyPost_ret (v := .tuple #[.int .i64 0, .agg #[.int .i64 3, .int .i64 ((c + 1 : Nat) : Int)]]) (by simp [results, Tryz.results13, go_sem, *]) rfl ?_
          exact ⟨by rw [N.out]; rfl, (HBW.out.setCell (Nat.le_refl _) _).setCell (Nat.le_refl _) _⟩
        | false =>
          have N := Lib.hid (show V = gpv (.ok c) by rw [HE.out, if_neg h10, if_neg (show ¬ bt l c = 13 from of_decide_eq_false HX3.out.symm)])
          clear h10
          go_wp2_with fail
          refine bodyPost_ret (v := .tuple #[.int .i64 (c : Nat), .agg #[.int .i64 0, .int .i64 0]]) (by simp [results, Tryz.results13, go_sem, *]) rfl ?_
          exact ⟨by rw [N.out]; rfl, (HBW.out.setCell (Nat.le_refl _) _).setCell (Nat.le_refl _) _⟩
end
end Tv
end Go.Proofs.YtbeefjhcbphiaaaGreatDoor
/- The document's comments and gaps; places that are none. -/
namespace Go.Proofs.YtbeefjhcbphiaaaGreatDoor
open Go.RowKit
namespace Tv
open Ty (WR1 KR Ky Bs blK endP endP_on endP_no endP_far endP_ge endP_le ret_b ret_i ret_s)

/-- How many bytes a line's end has at a place; 0: none is there; -1: half of one. -/
def fdI (l : List UInt8) (i : Nat) : Int := if i < l.length ∧ bt l i = 10 then 1 else if i < l.length ∧ bt l i = 13 then (if i + 1 < l.length ∧ bt l (i + 1) = 10 then 2 else -1) else 0
theorem feed_any {l : List UInt8} {s : ByteArray} (i : Nat) (w : World) (hs : s = txt l) (hi : i ≤ 2000000) (hl : l.length ≤ 1000000) : Calls Tryz.prog 34 #[.string s, .int .i64 i] w fun e w' => e = .returned (.int .i64 (fdI l i)) ∧ w = w' := by
  have HZ := Lib.hid (show s.size = l.length by rw [hs, txt_size])
  have hsz : s.size ≤ 1000000 := by rw [hs, txt_size]; exact hl
  have hx := txt_at hs (k := i)
  have hx1 := txt_at hs (k := i + 1)
  obtain ⟨y, HY⟩ : ∃ y, Hid (y = bt l i) := ⟨_, rfl⟩
  obtain ⟨z, HZ1⟩ : ∃ z, Hid (z = bt l (i + 1)) := ⟨_, rfl⟩
  rw [← HY.out] at hx
  rw [← HZ1.out] at hx1
  clear hs hl
  have hi1 : ((i : Int) + 1).toNat = i + 1 := by omega
  by_cases h1 : i < s.size
  · by_cases h2 : y = 10
    · have E := Lib.hid (show fdI l i = 1 by rw [fdI, if_pos ⟨by rw [← HZ.out]; exact h1, by rw [← HY.out]; exact h2⟩])
      subst h2
      go_enter Tryz.func34, Tryz.ntmps34
      go_wp2_with fail
      go_ret
      exact ⟨by rw [E.out]; rfl, rfl⟩
    · have d2 : (y == 10) = false := by simp [h2]
      by_cases h3 : y = 13
      · by_cases h4 : i + 1 < s.size
        · by_cases h5 : z = 10
          · have E := Lib.hid (show fdI l i = 2 by rw [fdI, if_neg (by rw [← HY.out, h3]; omega), if_pos ⟨by rw [← HZ.out]; exact h1, by rw [← HY.out]; exact h3⟩, if_pos ⟨by rw [← HZ.out]; exact h4, by rw [← HZ1.out]; exact h5⟩])
            subst h3; subst h5
            go_enter Tryz.func34, Tryz.ntmps34
            go_wp2_with fail
            go_ret
            exact ⟨by rw [E.out]; rfl, rfl⟩
          · have E := Lib.hid (show fdI l i = -1 by rw [fdI, if_neg (by rw [← HY.out, h3]; omega), if_pos ⟨by rw [← HZ.out]; exact h1, by rw [← HY.out]; exact h3⟩, if_neg (by rw [← HZ1.out]; exact fun h => h5 h.2)])
            have d5 : (z == 10) = false := by simp [h5]
            subst h3
            go_enter Tryz.func34, Tryz.ntmps34
            go_wp2_with fail
            go_ret
            exact ⟨by rw [E.out]; rfl, rfl⟩
        · have E := Lib.hid (show fdI l i = -1 by rw [fdI, if_neg (by rw [← HY.out, h3]; omega), if_pos ⟨by rw [← HZ.out]; exact h1, by rw [← HY.out]; exact h3⟩, if_neg (by rw [← HZ.out]; exact fun h => h4 h.1)])
          have d4 : ¬ ((i : Int) + 1 < s.size) := by omega
          subst h3
          go_enter Tryz.func34, Tryz.ntmps34
          go_wp2_with fail
          go_ret
          exact ⟨by rw [E.out]; rfl, rfl⟩
      · have E := Lib.hid (show fdI l i = 0 by rw [fdI, if_neg (by rw [← HY.out]; exact fun h => h2 h.2), if_neg (by rw [← HY.out]; exact fun h => h3 h.2)])
        have d3 : (y == 13) = false := by simp [h3]
        go_enter Tryz.func34, Tryz.ntmps34
        go_wp2_with fail
        go_ret
        exact ⟨by rw [E.out]; rfl, rfl⟩
  · have E := Lib.hid (show fdI l i = 0 by rw [fdI, if_neg (by rw [← HZ.out]; exact fun h => h1 h.1), if_neg (by rw [← HZ.out]; exact fun h => h1 h.1)])
    go_enter Tryz.func34, Tryz.ntmps34
    go_wp2_with fail
    go_ret
    exact ⟨by rw [E.out]; rfl, rfl⟩
def plI (c : Int) : Bool := decide (c = 9 ∨ 32 ≤ c ∧ c ≤ 126 ∨ 128 ≤ c)
theorem tplain_any (c : Int) (w : World) : Calls Tryz.prog 36 #[.int .u8 c] w fun e w' => e = .returned (.bool (plI c)) ∧ w = w' := by
  by_cases h1 : c = 9
  · subst h1
    go_enter Tryz.func36, Tryz.ntmps36
    go_wp2_with fail
    go_ret
    exact ⟨rfl, rfl⟩
  · have d1 : (c == 9) = false := by simp [h1]
    by_cases h2 : 32 ≤ c
    · by_cases h3 : c ≤ 126
      · have E := Lib.hid (show plI c = true by simp [plI]; omega)
        go_enter Tryz.func36, Tryz.ntmps36
        go_wp2_with fail
        go_ret
        exact ⟨by rw [E.out]; rfl, rfl⟩
      · by_cases h4 : 128 ≤ c
        · have E := Lib.hid (show plI c = true by simp [plI]; omega)
          go_enter Tryz.func36, Tryz.ntmps36
          go_wp2_with fail
          go_ret
          exact ⟨by rw [E.out]; rfl, rfl⟩
        · have E := Lib.hid (show plI c = false by simp [plI]; omega)
          go_enter Tryz.func36, Tryz.ntmps36
          go_wp2_with fail
          go_ret
          exact ⟨by rw [E.out]; rfl, rfl⟩
    · have E := Lib.hid (show plI c = false by simp [plI]; omega)
      have h4 : ¬ 128 ≤ c := by omega
      go_enter Tryz.func36, Tryz.ntmps36
      go_wp2_with fail
      go_ret
      exact ⟨by rw [E.out]; rfl, rfl⟩
theorem pl_is (c : Int) : plI c = plC c := rfl
theorem endP_pl {f : Int → Bool} {l : Bs} {p : Nat} : f (bt l (endP f l p)) = false ∨ l.length ≤ endP f l p := by
  by_cases h : p < l.length ∧ f (bt l p) = true
  · rw [endP_on h.1 h.2]; exact endP_pl
  · rw [endP, if_neg h]
    rcases Nat.lt_or_ge p l.length with h1 | h1
    · exact .inl (by cases h2 : f (bt l p) with | false => rfl | true => exact absurd ⟨h1, h2⟩ h)
    · exact .inr h1
termination_by l.length - p
/-- Behind blanks and a comment neither of both stands. -/
theorem cb_still (l : Bs) (p : Nat) : cm l (endP blK l (cm l (endP blK l p))) = cm l (endP blK l p) := by
  obtain ⟨q, hq⟩ : ∃ q, q = endP blK l p := ⟨_, rfl⟩
  rw [← hq]
  have key : ∀ c, (c < l.length → blK (bt l c) = false ∧ bt l c ≠ 35) → cm l (endP blK l c) = c := fun c hc => by
    rcases Nat.lt_or_ge c l.length with h1 | h1
    · obtain ⟨h2, h3⟩ := hc h1
      rw [endP_no h2, cm, if_neg (fun e => h3 e.2)]
    · rw [endP_far h1, cm, if_neg (fun e => absurd e.1 (by omega))]
  refine key _ fun hlt => ?_
  unfold cm at hlt ⊢
  by_cases h : q < l.length ∧ bt l q = 35
  · rw [if_pos h] at hlt ⊢
    rcases endP_pl (f := plC) (l := l) (p := q + 1) with h1 | h1
    · obtain ⟨y, hy⟩ : ∃ y, y = bt l (endP plC l (q + 1)) := ⟨_, rfl⟩
      rw [← hy] at h1 ⊢
      unfold plC at h1
      have h1 := of_decide_eq_false h1
      refine ⟨decide_eq_false (by omega), by omega⟩
    · omega
  · rw [if_neg h] at hlt ⊢
    rcases endP_pl (f := blK) (l := l) (p := p) with h1 | h1
    · rw [← hq] at h1
      exact ⟨h1, fun e => h ⟨hlt, e⟩⟩
    · rw [← hq] at h1; omega
theorem gp_enough (l : Bs) : ∀ (f g k : Nat), k ≤ l.length → l.length < f + k → l.length < g + k → gp l f k = gp l g k
  | 0, _, k, hk, hf, _ => by omega
  | f + 1, 0, k, hk, _, hg => by omega
  | f + 1, g + 1, k, hk, hf, hg => by
    have h1 := cb_ge l k
    have h2 := cb_le l hk
    rw [gp, gp]
    split
    · rename_i hc
      have := bt_in hc (by decide)
      exact gp_enough l f g _ (by omega) (by omega) (by omega)
    · split
      · split
        · rename_i hc
          have := bt_in hc (by decide)
          exact gp_enough l f g _ (by omega) (by omega) (by omega)
        · rfl
      · rfl
/-- A gap from a place on, by the document's steps. -/
def gapD (l : Bs) (k : Nat) : GR := gp l (l.length + 1) k
theorem gapD_eq {l : Bs} {k : Nat} (hk : k ≤ l.length) : gapD l k = if bt l (cm l (endP blK l k)) = 10 then gapD l (cm l (endP blK l k) + 1) else if bt l (cm l (endP blK l k)) = 13 then (if bt l (cm l (endP blK l k) + 1) = 10 then gapD l (cm l (endP blK l k) + 2) else .bad (cm l (endP blK l k) + 1)) else .ok (cm l (endP blK l k)) := by
  have h1 := cb_ge l k
  have h2 := cb_le l hk
  unfold gapD
  conv => lhs; rw [gp]
  split
  · rename_i hc
    have := bt_in hc (by decide)
    exact gp_enough l _ _ _ (by omega) (by omega) (by omega)
  · split
    · split
      · rename_i hc
        have := bt_in hc (by decide)
        exact gp_enough l _ _ _ (by omega) (by omega) (by omega)
      · rfl
    · rfl
theorem still {l : Bs} {k : Nat} (h : bt l k = 10 ∨ bt l k = 13) : cm l (endP blK l k) = k := by
  have h1 : blK (bt l k) = false := by rcases h with h | h <;> rw [h] <;> decide
  rw [endP_no h1, cm, if_neg (fun e => by rcases h with h | h <;> (rw [h] at e; exact absurd e.2 (by decide)))]
theorem gapD_10 {l : Bs} {k : Nat} (h : bt l k = 10) : gapD l k = gapD l (k + 1) := by
  have hk := bt_in h (by decide)
  rw [gapD_eq (by omega), still (.inl h), if_pos h]
theorem gapD_13 {l : Bs} {k : Nat} (h : bt l k = 13) (h2 : bt l (k + 1) = 10) : gapD l k = gapD l (k + 2) := by
  have hk := bt_in h (by decide)
  rw [gapD_eq (by omega), still (.inr h), if_neg (by rw [h]; decide), if_pos h, if_pos h2]
theorem gapD_bad {l : Bs} {k : Nat} (h : bt l k = 13) (h2 : bt l (k + 1) ≠ 10) : gapD l k = .bad (k + 1) := by
  have hk := bt_in h (by decide)
  rw [gapD_eq (by omega), still (.inr h), if_neg (by rw [h]; decide), if_pos h, if_neg h2]
theorem gapD_on {l : Bs} {k : Nat} (hk : k ≤ l.length) : gapD l k = gapD l (cm l (endP blK l k)) := by
  rw [gapD_eq hk, gapD_eq (cb_le l hk), cb_still]
theorem gapD_stop {l : Bs} {k : Nat} (hk : k ≤ l.length) (h : cm l (endP blK l k) = k) (h1 : bt l k ≠ 10) (h2 : bt l k ≠ 13) : gapD l k = .ok k := by
  rw [gapD_eq hk, h, if_neg h1, if_neg h2]
section
variable {l : Bs} {s : ByteArray} {p : Nat}
set_option maxHeartbeats 4000000 in
set_option maxRecDepth 100000 in
theorem rblanks_in (w : World) (hs : s = txt l) (hl : l.length ≤ 1000000) (hp : p ≤ l.length) {R : Int} (hR : R = (endP blK l p : Nat)) :
    Calls Tryz.prog 35 #[.string s, .int .i64 p] w fun e w' => e = .returned (.int .i64 R) ∧ w = w' := by
  have HS := Lib.hid hs
  have HR := Lib.hid hR
  have HSZ := Lib.hid (show s.size = l.length by rw [hs, txt_size])
  have hsz : s.size ≤ 1000000 := by rw [hs, txt_size]; exact hl
  clear hs hR hl
  go_enter Tryz.func35, Tryz.ntmps35
  go_wp2_with fail
  go_loop [1] (fun a => ∃ k : Nat, k ≤ s.size ∧ a = .int .i64 k ∧ Hid (endP blK l k = endP blK l p)) (fun a => s.size - (intOf a).toNat)
  case atStart => exact ⟨p, by have := HSZ.out; omega, rfl, Lib.hid rfl⟩
  case round =>
    obtain ⟨k, hk, rfl, HE⟩ := hrel
    by_cases hlt : k < s.size
    · have hkl : k < l.length := by rw [← HSZ.out]; exact hlt
      have hx := txt_at HS.out (k := k)
      obtain ⟨y, HY⟩ : ∃ y, Hid (y = bt l k) := ⟨_, rfl⟩
      rw [← HY.out] at hx
      by_cases h9 : y = 9
      · have HE2 := Lib.hid (show endP blK l (k + 1) = endP blK l p by rw [← HE.out, endP_on hkl (by rw [← HY.out, h9]; decide)])
        subst h9
        clear hkl
        go_wp2_with fail
        go_round
        case rel => exact ⟨k + 1, by omega, by go_num, HE2⟩
        case measure => simp [intOf]; omega
      · have d9 : (y == 9) = false := by simpa using h9
        by_cases h32 : y = 32
        · have HE2 := Lib.hid (show endP blK l (k + 1) = endP blK l p by rw [← HE.out, endP_on hkl (by rw [← HY.out, h32]; decide)])
          subst h32
          clear hkl h9 d9
          go_wp2_with fail
          go_round
          case rel => exact ⟨k + 1, by omega, by go_num, HE2⟩
          case measure => simp [intOf]; omega
        · have d32 : (y == 32) = false := by simpa using h32
          have HE2 := Lib.hid (show R = (k : Nat) by rw [HR.out, ← HE.out, endP_no (by rw [← HY.out]; exact decide_eq_false (by omega))])
          clear hkl h9 h32
          go_wp2_with fail
          go_ret
          exact ⟨ret_i HE2.out, rfl⟩
    · obtain rfl : k = s.size := by omega
      have HE2 := Lib.hid (show R = (s.size : Nat) by rw [HR.out, ← HE.out, endP_far (by rw [HSZ.out]; exact Nat.le_refl _)])
      go_wp2_with fail
      go_ret
      exact ⟨ret_i HE2.out, rfl⟩
set_option maxHeartbeats 4000000 in
set_option maxRecDepth 100000 in
theorem rcomment_in (w : World) (hs : s = txt l) (hl : l.length ≤ 1000000) (hp : p ≤ l.length) {R : Int} (hR : R = (cm l p : Nat)) :
    Calls Tryz.prog 15 #[.string s, .int .i64 p] w fun e w' => e = .returned (.int .i64 R) ∧ w = w' := by
  have HS := Lib.hid hs
  have HR := Lib.hid hR
  have HSZ := Lib.hid (show s.size = l.length by rw [hs, txt_size])
  have hsz : s.size ≤ 1000000 := by rw [hs, txt_size]; exact hl
  have hx := txt_at hs (k := p)
  obtain ⟨y, HY⟩ : ∃ y, Hid (y = bt l p) := ⟨_, rfl⟩
  rw [← HY.out] at hx
  have hps : p ≤ s.size := by rw [HSZ.out]; exact hp
  clear hs hR hl hp
  by_cases hlt : p < s.size
  · by_cases h35 : y = 35
    · have hpl : p < l.length := by rw [← HSZ.out]; exact hlt
      have HE := Lib.hid (show R = (endP plC l p : Nat) by rw [HR.out, cm, if_pos ⟨hpl, by rw [← HY.out]; exact h35⟩, endP_on (p := plC) hpl (by rw [← HY.out, h35]; decide)])
      subst h35
      clear hpl
      have dp0 : decide ((p : Int) < 0) = false := decide_eq_false (by omega)
      have np0 : ¬ (p : Int) < 0 := by omega
      have dp1 : decide (s.size ≤ p) = false := decide_eq_false (by omega)
      have np1 : ¬ s.size ≤ p := by omega
      go_enter Tryz.func15, Tryz.ntmps15
      go_wp2_with fail
      go_loop [1] (fun a => ∃ k : Nat, k ≤ s.size ∧ a = .int .i64 k ∧ Hid (endP plC l k = endP plC l p)) (fun a => s.size - (intOf a).toNat)
      case atStart => exact ⟨p, hps, rfl, Lib.hid rfl⟩
      case round =>
        obtain ⟨k, hk, rfl, HE1⟩ := hrel
        by_cases hlt : k < s.size
        · have hkl : k < l.length := by rw [← HSZ.out]; exact hlt
          have hx := txt_at HS.out (k := k)
          obtain ⟨z, HZ⟩ : ∃ z, Hid (z = bt l k) := ⟨_, rfl⟩
          rw [← HZ.out] at hx
          obtain ⟨v, HV⟩ : ∃ v, Hid (v = plI z) := ⟨_, rfl⟩
          have CP := Lib.hid (fun w => tplain_any z w)
          rw [← HV.out] at CP
          cases v with
          | false =>
            have HE2 := Lib.hid (show R = (k : Nat) by rw [HE.out, ← HE1.out, endP_no (by rw [← HZ.out, ← pl_is]; exact HV.out.symm)])
            clear hkl
            go_wp2_with fail
            refine (CP.out _).mono ?_
            rintro e w1 ⟨rfl, rfl⟩
            go_wp2_with fail
            go_ret
            exact ⟨ret_i HE2.out, rfl⟩
          | true =>
            have HE2 := Lib.hid (show endP plC l (k + 1) = endP plC l p by rw [← HE1.out, endP_on hkl (by rw [← HZ.out, ← pl_is]; exact HV.out.symm)])
            clear hkl
            go_wp2_with fail
            refine (CP.out _).mono ?_
            rintro e w1 ⟨rfl, rfl⟩
            go_wp2_with fail
            go_round
            case rel => exact ⟨k + 1, by omega, by go_num, HE2⟩
            case measure => simp [intOf]; omega
        · obtain rfl : k = s.size := by omega
          have HE2 := Lib.hid (show R = (s.size : Nat) by rw [HE.out, ← HE1.out, endP_far (by rw [HSZ.out]; exact Nat.le_refl _)])
          go_wp2_with fail
          go_ret
          exact ⟨ret_i HE2.out, rfl⟩
    · have HE := Lib.hid (show R = (p : Nat) by rw [HR.out, cm, if_neg (fun e => h35 (HY.out.trans e.2))])
      have d35 : (y != 35) = true := by simpa using h35
      clear h35
      go_enter Tryz.func15, Tryz.ntmps15
      go_wp2_with fail
      go_ret
      exact ⟨ret_i HE.out, rfl⟩
  · obtain rfl : p = s.size := by omega
    have HE := Lib.hid (show R = (s.size : Nat) by rw [HR.out, cm, if_neg (fun e => absurd e.1 (by rw [HSZ.out]; omega))])
    clear hlt
    go_enter Tryz.func15, Tryz.ntmps15
    go_wp2_with fail
    go_ret
    exact ⟨ret_i HE.out, rfl⟩
end
end Tv
end Go.Proofs.YtbeefjhcbphiaaaGreatDoor
/- The document's gap. -/
namespace Go.Proofs.YtbeefjhcbphiaaaGreatDoor
open Go.RowKit
namespace Tv
open Ty (WR1 KR Ky Bs blK endP endP_on endP_no endP_far endP_ge endP_le ret_b ret_i ret_s)

theorem bt_far {l : Bs} {p : Nat} (h : l.length ≤ p) : bt l p ≠ 10 ∧ bt l p ≠ 13 := by
  constructor
  · intro e; have := bt_in e (by decide); omega
  · intro e; have := bt_in e (by decide); omega
theorem far_still {l : Bs} {k : Nat} (h : l.length ≤ k) : cm l (endP blK l k) = k := by
  rw [endP_far h, cm, if_neg (fun e => absurd e.1 (by omega))]
section
variable {l : Bs} {s : ByteArray} {p : Nat}
set_option maxHeartbeats 4000000 in
set_option maxRecDepth 100000 in
theorem rgap_in (w : World) (hs : s = txt l) (hl : l.length ≤ 1000000) (hp : p ≤ l.length) :
    Calls Tryz.prog 14 #[.string s, .int .i64 p] w fun e w' => e = .returned (gpv (gapD l p)) ∧ Below w.heap.size w w' := by
  obtain ⟨V, hV⟩ : ∃ V, V = gpv (gapD l p) := ⟨_, rfl⟩
  rw [← hV]
  have HSZ := Lib.hid (show s.size = l.length by rw [hs, txt_size])
  have hsz : s.size ≤ 1000000 := by rw [hs, txt_size]; exact hl
  have HS := Lib.hid hs
  have HL := Lib.hid hl
  have HFC := Lib.hid (FC.new w)
  have HV := Lib.hid hV
  have HP := Lib.hid hp
  clear hs hl hp hV
  go_enter Tryz.func14, Tryz.ntmps14
  go_upto_region 1 with fail
  obtain ⟨W, hW⟩ : ∃ W, w.alloc ftO = W := ⟨_, rfl⟩
  rw [hW] at HFC ⊢
  have HBW := Lib.hid (HFC.out.bel W (Below.refl _ _))
  have d0 := HFC.out.c0
  have d1 := HFC.out.c1
  have e0 := HFC.out.f0
  have e1 := HFC.out.f1
  clear hW
  go_loop [1] (fun a => ∃ k : Nat, a = .int .i64 (k : Nat) ∧ k ≤ s.size ∧ Hid (V = gpv (gapD l k))) (fun a => 1000001 - (intOf a).toNat)
  case atStart => exact ⟨p, rfl, by have := HP.out; have := HSZ.out; omega, HV⟩
  case round =>
    obtain ⟨k, rfl, hk, HVK⟩ := hrel
    by_cases hlt : k < s.size
    · have hkl : k < l.length := by rw [← HSZ.out]; exact hlt
      have CF := Lib.hid (fun w => feed_any (l := l) k w HS.out (by omega) HL.out)
      by_cases h10 : bt l k = 10
      · have HF : fdI l k = 1 := by rw [fdI, if_pos ⟨hkl, h10⟩]
        rw [HF] at CF
        have N := Lib.hid (show V = gpv (gapD l (k + 1)) by rw [HVK.out, gapD_10 h10])
        clear hkl h10 HF
        go_wp2_with fail
        refine (CF.out _).mono ?_
        rintro e w1 ⟨rfl, rfl⟩
        go_wp2_with fail
        go_round
        case rel => exact ⟨k + 1, by go_num, by omega, N⟩
        case measure => simp [intOf]; omega
      · by_cases h13 : bt l k = 13
        · by_cases h14 : bt l (k + 1) = 10
          · have hk1 := bt_in h14 (by decide)
            have HF : fdI l k = 2 := by rw [fdI, if_neg (fun e => h10 e.2), if_pos ⟨hkl, h13⟩, if_pos ⟨hk1, h14⟩]
            rw [HF] at CF
            have hk2 : k + 2 ≤ s.size := by rw [HSZ.out]; omega
            have N := Lib.hid (show V = gpv (gapD l (k + 2)) by rw [HVK.out, gapD_13 h13 h14])
            clear hkl h10 h13 h14 HF hk1
            go_wp2_with fail
            refine (CF.out _).mono ?_
            rintro e w1 ⟨rfl, rfl⟩
            go_wp2_with fail
            go_round
            case rel => exact ⟨k + 2, by go_num, hk2, N⟩
            case measure => simp [intOf]; omega
          · have HF : fdI l k = -1 := by rw [fdI, if_neg (fun e => h10 e.2), if_pos ⟨hkl, h13⟩, if_neg (fun e => h14 e.2)]
            rw [HF] at CF
            have N := Lib.hid (show V = gpv (.bad (k + 1)) by rw [HVK.out, gapD_bad h13 h14])
            clear hkl h10 h13 h14 HF
            go_wp2_with fail
            refine (CF.out _).mono ?_
            rintro e w1 ⟨rfl, rfl⟩
            go_wp2_with fail
            refine bodyPost_ret (v := .tuple #[.int .i64 0, .agg #[.int .i64 3, .int .i64 ((k + 1 : Nat) : Int)]]) (by simp [results, Tryz.results14, go_sem, *]) rfl ?_
            exact ⟨by rw [N.out]; rfl, (HBW.out.setCell (Nat.le_refl _) _).setCell (Nat.le_refl _) _⟩
        · have HF : fdI l k = 0 := by rw [fdI, if_neg (fun e => h10 e.2), if_neg (fun e => h13 e.2)]
          rw [HF] at CF
          obtain ⟨q, hq⟩ : ∃ q, q = endP blK l k := ⟨_, rfl⟩
          have hql : q ≤ l.length := by rw [hq]; exact endP_le _ _ _ (Nat.le_of_lt hkl)
          have hkq : k ≤ q := by rw [hq]; exact endP_ge ..
          obtain ⟨c, hc⟩ : ∃ c, c = cm l q := ⟨_, rfl⟩
          have hcl : c ≤ l.length := by rw [hc]; exact cm_le l hql
          have hqc : q ≤ c := by rw [hc]; exact cm_ge ..
          have CB := Lib.hid (fun w => rblanks_in w HS.out HL.out (Nat.le_of_lt hkl) (R := (q : Nat)) (by rw [hq]))
          have CC := Lib.hid (fun w => rcomment_in w HS.out HL.out hql (R := (c : Nat)) (by rw [hc]))
          have hcs : c ≤ s.size := by rw [HSZ.out]; exact hcl
          have hkc : k ≤ c := Nat.le_trans hkq hqc
          by_cases hck : c = k
          · subst hck
            have N := Lib.hid (show V = gpv (.ok c) by rw [HVK.out, gapD_stop (Nat.le_of_lt hkl) (by rw [← hq, ← hc]) h10 h13])
            clear hkl h10 h13 HF hq hql hkq hc hcl hqc
            go_wp2_with fail
            refine (CF.out _).mono ?_
            rintro e w1 ⟨rfl, rfl⟩
            go_wp2_with fail
            refine (CB.out _).mono ?_
            rintro e w1 ⟨rfl, rfl⟩
            go_wp2_with fail
            refine (CC.out _).mono ?_
            rintro e w1 ⟨rfl, rfl⟩
            go_wp2_with fail
            refine bodyPost_ret (v := .tuple #[.int .i64 (c : Nat), .agg #[.int .i64 0, .int .i64 0]]) (by simp [results, Tryz.results14, go_sem, *]) rfl ?_
            exact ⟨by rw [N.out]; rfl, (HBW.out.setCell (Nat.le_refl _) _).setCell (Nat.le_refl _) _⟩
          · have N := Lib.hid (show V = gpv (gapD l c) by rw [HVK.out, gapD_on (Nat.le_of_lt hkl), ← hq, ← hc])
            have hne : ¬ (c : Int) = k := by omega
            have dne : ((c : Int) == k) = false := by simpa using hne
            have hgt : k < c := by omega
            clear hkl h10 h13 HF hq hql hkq hc hcl hqc
            go_wp2_with fail
            refine (CF.out _).mono ?_
            rintro e w1 ⟨rfl, rfl⟩
            go_wp2_with fail
            refine (CB.out _).mono ?_
            rintro e w1 ⟨rfl, rfl⟩
            go_wp2_with fail
            refine (CC.out _).mono ?_
            rintro e w1 ⟨rfl, rfl⟩
            go_wp2_with fail
            go_round
            case rel => exact ⟨c, rfl, hcs, N⟩
            case measure => simp [intOf]; omega
    · obtain rfl : k = s.size := by omega
      have N := Lib.hid (show V = gpv (.ok s.size) by
        have h := Nat.le_of_eq HSZ.out.symm
        rw [HVK.out, gapD_stop (Nat.le_of_eq HSZ.out) (far_still h) (bt_far h).1 (bt_far h).2])
      go_wp2_with fail
      refine bodyPost_ret (v := .tuple #[.int .i64 (s.size : Nat), .agg #[.int .i64 0, .int .i64 0]]) (by simp [results, Tryz.results14, go_sem, *]) rfl ?_
      exact ⟨by rw [N.out]; rfl, (HBW.out.setCell (Nat.le_refl _) _).setCell (Nat.le_refl _) _⟩
end
end Tv
end Go.Proofs.YtbeefjhcbphiaaaGreatDoor
/- Places that are none in the text: nothing is read there. -/
namespace Go.Proofs.YtbeefjhcbphiaaaGreatDoor
open Go.RowKit
namespace Tv
open Ty (WR1 KR Ky Bs blK endP ret_b ret_i ret_s)

/-- A place that is none. -/
def Off (s : ByteArray) (y : Int) : Prop := y < 0 ∨ (s.size : Int) < y
section
variable {s : ByteArray} {y : Int}
set_option maxHeartbeats 2000000 in
set_option maxRecDepth 100000 in
theorem past_out (w : World) (h : Off s y) :
    Calls Tryz.prog 61 #[.string s, .int .i64 y, .func (.func 62) #[] #[]] w fun e w' => e = .returned (.int .i64 y) ∧ w = w' := by
  rcases h with h | h
  · have h1 : ¬ 0 ≤ y := by omega
    clear h
    go_enter Tryz.func61, Tryz.ntmps61
    go_wp2_with fail
    go_loop [1] (fun a => a = .int .i64 y) (fun _ => 0)
    case atStart => exact rfl
    case round =>
      obtain rfl := hrel
      go_wp2_with fail
      go_ret
      exact ⟨rfl, rfl⟩
  · have h1 : 0 ≤ y := by omega
    have h2 : ¬ y < s.size := by omega
    clear h
    go_enter Tryz.func61, Tryz.ntmps61
    go_wp2_with fail
    go_loop [1] (fun a => a = .int .i64 y) (fun _ => 0)
    case atStart => exact rfl
    case round =>
      obtain rfl := hrel
      go_wp2_with fail
      go_ret
      exact ⟨rfl, rfl⟩
set_option maxHeartbeats 2000000 in
theorem blanks_out (w : World) (h : Off s y) :
    Calls Tryz.prog 33 #[.string s, .int .i64 y] w fun e w' => e = .returned (.int .i64 y) ∧ w = w' := by
  have C1 := Lib.hid (fun w => past_out w h)
  clear h
  go_enter Tryz.func33, Tryz.ntmps33
  go_wp2_with fail
  refine (C1.out _).mono ?_
  rintro en w1 ⟨rfl, rfl⟩
  go_wp2_with fail
  go_ret
  exact ⟨rfl, rfl⟩
theorem stands_out (w : World) (h : Off s y) (t : ByteArray) :
    Calls Tryz.prog 31 #[.string s, .int .i64 y, .string t] w fun e w' => e = .returned (.bool false) ∧ w = w' := by
  rcases h with h | h
  · exact stands_low w h
  · exact stands_high w h
set_option maxHeartbeats 2000000 in
theorem comment_out (w : World) (h : Off s y) :
    Calls Tryz.prog 12 #[.string s, .int .i64 y] w fun e w' => e = .returned (.tuple #[.int .i64 y, .agg #[.int .i64 0, .int .i64 0]]) ∧ Below w.heap.size w w' := by
  have HFC := Lib.hid (FC.new w)
  have HST := Lib.hid (fun w => stands_out w h ⟨#[35]⟩)
  clear h
  go_enter Tryz.func12, Tryz.ntmps12
  go_upto_region 1 with fail
  obtain ⟨W, hW⟩ : ∃ W, w.alloc ftO = W := ⟨_, rfl⟩
  rw [hW] at HFC ⊢
  have HBW := Lib.hid (HFC.out.bel W (Below.refl _ _))
  have d0 := HFC.out.c0
  have d1 := HFC.out.c1
  have e0 := HFC.out.f0
  have e1 := HFC.out.f1
  clear hW
  go_wp2_with fail
  refine (HST.out _).mono ?_
  rintro e w1 ⟨rfl, rfl⟩
  go_wp2_with fail
  refine bodyPost_ret (v := .tuple #[.int .i64 y, .agg #[.int .i64 0, .int .i64 0]]) (by simp [results, Tryz.results12, go_sem, *]) rfl ?_
  exact ⟨rfl, (HBW.out.setCell (Nat.le_refl _) _).setCell (Nat.le_refl _) _⟩
set_option maxHeartbeats 4000000 in
set_option maxRecDepth 100000 in
theorem gap_out (w : World) (h : Off s y) :
    Calls Tryz.prog 13 #[.string s, .int .i64 y] w fun e w' => e = .returned (.tuple #[.int .i64 y, .agg #[.int .i64 0, .int .i64 0]]) ∧ Below w.heap.size w w' := by
  have HFC := Lib.hid (FC.new w)
  have CB := Lib.hid (fun w => blanks_out w h)
  have CC := Lib.hid (fun w => comment_out w h)
  have HST := Lib.hid (fun w t => stands_out w h t)
  clear h
  go_enter Tryz.func13, Tryz.ntmps13
  go_upto_region 1 with fail
  obtain ⟨W, hW⟩ : ∃ W, w.alloc ftO = W := ⟨_, rfl⟩
  rw [hW] at HFC ⊢
  clear hW
  go_wp2_with fail
  go_loopw [4] (fun a wr => a = .int .i64 y ∧ wr = W) (fun _ _ => 0)
  case atStart => exact ⟨rfl, rfl⟩
  case round =>
    obtain ⟨rfl, hwr⟩ := hrel
    subst hwr
    go_wp2_with fail
    refine (CB.out _).mono ?_
    rintro e w1 ⟨rfl, rfl⟩
    go_wp2_with fail
    refine (CC.out _).mono ?_
    rintro e w2 ⟨rfl, hb2⟩
    have d0 := cell_old hb2 HFC.out.lt HFC.out.c0
    have d1 := cell_old hb2 HFC.out.lt HFC.out.c1
    have e0 := free_old hb2 HFC.out.lt HFC.out.f0
    have e1 := free_old hb2 HFC.out.lt HFC.out.f1
    have HBW := Lib.hid (HFC.out.bel _ hb2)
    clear hb2
    go_wp2_with fail
    refine (HST.out _ _).mono ?_
    rintro e w3 ⟨rfl, rfl⟩
    go_wp2_with fail
    refine (HST.out _ _).mono ?_
    rintro e w3 ⟨rfl, rfl⟩
    go_wp2_with fail
    refine (HST.out _ _).mono ?_
    rintro e w3 ⟨rfl, rfl⟩
    go_wp2_with fail
    refine bodyPost_ret (v := .tuple #[.int .i64 y, .agg #[.int .i64 0, .int .i64 0]]) (by simp [results, Tryz.results13, go_sem, *]) rfl ?_
    exact ⟨rfl, (HBW.out.setCell (Nat.le_refl _) _).setCell (Nat.le_refl _) _⟩
set_option maxHeartbeats 2000000 in
theorem rcomment_out (w : World) (h : Off s y) :
    Calls Tryz.prog 15 #[.string s, .int .i64 y] w fun e w' => e = .returned (.int .i64 y) ∧ w = w' := by
  rcases h with h | h
  · go_enter Tryz.func15, Tryz.ntmps15
    go_wp2_with fail
    go_ret
    exact ⟨rfl, rfl⟩
  · have h1 : ¬ y < 0 := by omega
    have h2 : (s.size : Int) ≤ y := by omega
    clear h
    go_enter Tryz.func15, Tryz.ntmps15
    go_wp2_with fail
    go_ret
    exact ⟨rfl, rfl⟩
set_option maxHeartbeats 2000000 in
set_option maxRecDepth 100000 in
theorem rgap_out (w : World) (h : Off s y) :
    Calls Tryz.prog 14 #[.string s, .int .i64 y] w fun e w' => e = .returned (.tuple #[.int .i64 y, .agg #[.int .i64 0, .int .i64 0]]) ∧ Below w.heap.size w w' := by
  have HFC := Lib.hid (FC.new w)
  rcases h with h | h
  · have h1 : ¬ 0 ≤ y := by omega
    clear h
    go_enter Tryz.func14, Tryz.ntmps14
    go_upto_region 1 with fail
    obtain ⟨W, hW⟩ : ∃ W, w.alloc ftO = W := ⟨_, rfl⟩
    rw [hW] at HFC ⊢
    have HBW := Lib.hid (HFC.out.bel W (Below.refl _ _))
    have d0 := HFC.out.c0
    have d1 := HFC.out.c1
    have e0 := HFC.out.f0
    have e1 := HFC.out.f1
    clear hW
    go_loop [1] (fun a => a = .int .i64 y) (fun _ => 0)
    case atStart => exact rfl
    case round =>
      obtain rfl := hrel
      go_wp2_with fail
      refine bodyPost_ret (v := .tuple #[.int .i64 y, .agg #[.int .i64 0, .int .i64 0]]) (by simp [results, Tryz.results14, go_sem, *]) rfl ?_
      exact ⟨rfl, (HBW.out.setCell (Nat.le_refl _) _).setCell (Nat.le_refl _) _⟩
  · have h1 : 0 ≤ y := by omega
    have h2 : ¬ y < s.size := by omega
    clear h
    go_enter Tryz.func14, Tryz.ntmps14
    go_upto_region 1 with fail
    obtain ⟨W, hW⟩ : ∃ W, w.alloc ftO = W := ⟨_, rfl⟩
    rw [hW] at HFC ⊢
    have HBW := Lib.hid (HFC.out.bel W (Below.refl _ _))
    have d0 := HFC.out.c0
    have d1 := HFC.out.c1
    have e0 := HFC.out.f0
    have e1 := HFC.out.f1
    clear hW
    go_loop [1] (fun a => a = .int .i64 y) (fun _ => 0)
    case atStart => exact rfl
    case round =>
      obtain rfl := hrel
      go_wp2_with fail
      refine bodyPost_ret (v := .tuple #[.int .i64 y, .agg #[.int .i64 0, .int .i64 0]]) (by simp [results, Tryz.results14, go_sem, *]) rfl ?_
      exact ⟨rfl, (HBW.out.setCell (Nat.le_refl _) _).setCell (Nat.le_refl _) _⟩
end
end Tv
end Go.Proofs.YtbeefjhcbphiaaaGreatDoor
