/- The law JtokensRead's helpers: a token is the document's; all are; a twin; whether it is as it was. -/
import Derived.Test.YtfnahondlcbjnaaWd
namespace Go.Proofs.Ytfnahondlcbjnaa
open Go.RowKit
namespace Jk

theorem same_is {k i j : Int} (k0 : 0 ≤ k) (k1 : k ≤ 255) (w : World) : Calls Try.prog 13 #[ltV k i j, rtV k i j] w fun e w' => e = .returned (.bool true) ∧ Below w.heap.size w w' := by
  go_enter Try.func13, Try.ntmps13
  go_wp2_with fail
  go_ret
  exact ⟨rfl, ((Below.refl _ _).alloc (Nat.le_refl _) _).alloc (by simp) _⟩
abbrev TyR : TypeId := 40
set_option maxHeartbeats 4000000 in
set_option maxRecDepth 100000 in
theorem sames_is {w : World} {b1 b2 : Nat} {A A' : Option Addr} {N c c' : Nat} {ts : List Tok} (h1 : TkR w b1 .u8 TyL A N ts) (h2 : TkR w b2 .i64 TyR A' N ts) (hk : ∀ (i : Nat) (t : Tok), ts[i]? = some t → t.1 ≤ 4) (h5 : N ≤ 5000) (hc : N ≤ c) (hc' : N ≤ c') :
    Calls Try.prog 12 #[.slice A N c, .slice A' N c'] w fun e w' => e = .returned (.bool true) ∧ Below w.heap.size w w' := by
  have H1 := Lib.hid h1
  have H2 := Lib.hid h2
  clear h1 h2
  go_enter Try.func12, Try.ntmps12
  go_wp2_with fail
  go_loopw [5] (fun s wr => ∃ i : Nat, i ≤ N ∧ s = .int .i64 i ∧ Hid (Below w.heap.size w wr)) (fun s _ => N - (intOf s).toNat)
  case atStart => exact ⟨0, Nat.zero_le _, rfl, Lib.hid (Below.refl _ _)⟩
  case round =>
    obtain ⟨i, hi, rfl, HW⟩ := hrel
    by_cases hlt : i < N
    · obtain ⟨g1, rfl, _, hx⟩ := (H1.out.below HW.out (Nat.le_refl _)).at_ (by omega)
      obtain ⟨g2, rfl, _, hy⟩ := (H2.out.below HW.out (Nat.le_refl _)).at_ (by omega)
      have hl : i < ts.length := by rw [← H1.out.1]; exact hlt
      obtain ⟨⟨k, p, q⟩, ht⟩ : ∃ t : Tok, ts[i]? = some t := ⟨_, List.getElem?_eq_getElem hl⟩
      obtain ⟨x0, x1, x2⟩ := hx i _ ht
      obtain ⟨y0, y1, y2⟩ := hy i _ ht
      simp only at x0 x1 x2 y0 y1 y2
      have hkk := hk i _ ht
      simp only at hkk
      clear hx hy ht hl
      go_upto_region 6 with fail
      go_region_with (go_at_call 13; refine (same_is (by omega) (by omega) _).mono ?_; rintro e w2 ⟨rfl, hb2⟩)
      all_goals
        go_wp2_with fail
        go_roundw
        case rel => exact ⟨i + 1, by omega, by go_num, Lib.hid (by first | exact below_tr HW.out hb2 | exact below_tr HW.out.drew hb2 | exact below_tr HW.out.drew.drew hb2)⟩
        case measure => simp [intOf]; omega
    · obtain rfl : i = N := by omega
      go_wp2_with fail
      go_ret
      exact ⟨rfl, HW.out⟩
/-- The marks behind a twin. -/
def mark3 : List UInt8 := [167, 167, 167]

def TwinPost (w : World) (l : List UInt8) (n : Nat) (e : Ending) (w' : World) : Prop :=
  e = .returned (.slice (some ⟨w.heap.size, 0, none⟩) n (n + 3)) ∧ Byt w' w'.heap.size (some ⟨w.heap.size, 0, none⟩) (l ++ mark3) ∧ Below w.heap.size w w' ∧ w.heap.size < w'.heap.size

set_option maxHeartbeats 1000000 in
theorem twin_any {l : List UInt8} {A : Option Addr} {n c : Nat} {w : World} (ha : ArgB w A n c l) (hs : n ≤ 65536) :
    Calls Try.prog 7 #[.slice A n c] w (TwinPost w l n) := by
  obtain ⟨hn, hnc, hcm, hA, hnil⟩ := ha
  have Hn := Lib.hid hn
  have Hnil := Lib.hid hnil
  clear hn hnil
  obtain ⟨i0, hi, hz0, hz1, hz2⟩ := info_parts (show (Try.prog.info? 5).map (fun i => (i.zero, i.size, i.bytes)) = some (some (.int .u8 0), 1, 1) by kernel_rfl)
  go_enter Try.func7, Try.ntmps7
  go_wp2_with (first
    | (at_make; refine wpList_make_own _ rfl _ _ 22 rfl w.heap.size 5 i0 (.int .u8 0) 1 Try.underlying22 hi hz0 hz1 .i64 .i64 _ (n + 3) rfl rfl (by simp) (by rw [hz2]; omega) (by unfold maxLen; omega) (Nat.le_refl _) ?_; intro w1 hown1 hg1; have hb1 : Below w.heap.size w w1 := (Below.refl _ _).grown hg1 (Nat.le_refl _) (fun _ h => by cases h))
    | (at_builtin; refine wpList_append_fits_any _ rfl (.tmp 8) (.tmp 9) 22 rfl w.heap.size 5 i0 1 Try.underlying22 hi hz1 w.heap.size 0 (n + 3) [] rfl hown1 A n c (bytV l) rfl (by have := Hn.out; rw [bytV_len]; omega) (fun h => ⟨by subst h; have := byt_none hA; have h2 := Hn.out; rw [this] at h2; exact h2, Hnil.out h⟩) (fun ad h => by subst h; exact bytV_cells (hA.below hb1)) (bytV_one l) (by omega) ?_; intro w2 hown2 hg2; simp only [Nat.zero_add, List.nil_append] at hown2)
    | (at_builtin; refine wpList_append_fits _ rfl (.tmp 11) (.tmp 12) 22 rfl w.heap.size 5 i0 1 Try.underlying22 hi hz1 w.heap.size n (n + 3) (bytV l) rfl (hown2.alloc _) ⟨w2.heap.size, 0, none⟩ 3 3 (bytV mark3) rfl rfl (cells_new _ _ rfl) (bytV_one mark3) (by omega) ?_; intro w3 hown3 hg3))
  have hb2 := hb1.grown hg2 hb1.size (fun _ h => by cases h; exact Nat.le_refl _)
  have hb3 := (hb2.alloc hb2.size _).grown hg3 (by have := hb2.size; simp; omega) (fun _ h => by cases h; exact Nat.le_refl _)
  have h3 : w3.ownsRow w.heap.size 5 1 (.slice (some ⟨w.heap.size, 0, none⟩) (n + 3) (n + 3)) (n + 3) (bytV (l ++ mark3)) := by simpa [bytV] using hown3
  obtain ⟨A3, c3, e3, hx1, hx2, hx3, hB3, hx4⟩ := own_form h3
  have hlt := (h3.lt _ rfl).2
  obtain rfl : A3 = some ⟨w.heap.size, 0, none⟩ := by injection e3 with e _ _; exact e.symm
  clear hx1 hx2 hx3 hx4 e3 hown1 hg1 hb1 hown2 hg2 hb2 hown3 hg3 h3
  go_wp2
  go_ret
  exact ⟨rfl, hB3, hb3, hlt⟩

theorem tks_kd {l : List UInt8} : ∀ (m i j : Nat) (t : Tok), l.length - i ≤ m → (tks l i).1[j]? = some t → t.1 ≤ 4
  | m, i, j, t, hm, h => by
    by_cases hl : i < l.length
    · cases hx : nx (l.drop i) with
      | bad n => rw [tks_bad hl hx] at h; simp at h
      | tok k' n =>
        have ht := tk_of hx
        have hn := tk_len ht
        rw [List.length_drop] at hn
        rw [tks_tok ht] at h
        cases j with
        | zero =>
          simp only [List.getElem?_cons_zero, Option.some.injEq] at h
          subst h
          exact tk_kind ht
        | succ j =>
          rw [List.getElem?_cons_succ] at h
          cases m with
          | zero => omega
          | succ m => exact tks_kd m (i + n) j t (by omega) h
    · rw [tks_end (by omega)] at h; simp at h
set_option maxHeartbeats 4000000 in
theorem left_any {l : List UInt8} {B B' g : Nat} {A : Option Addr} (n c : Nat) {w : World} (hn : n = l.length) (hT : Byt w B (some ⟨g, 0, none⟩) (l ++ mark3)) (hA : Byt w B' A l) (hs : n ≤ 65536) :
    Calls Try.prog 14 #[.slice (some ⟨g, 0, none⟩) n (n + 3), .slice A n c] w fun e w' => e = .returned (.bool true) ∧ w = w' := by
  have hT1 : Byt w B (some ⟨g, 0, none⟩) l := by have := hT.take l.length; simpa using this
  have hlen : (l ++ mark3).length = n + 3 := by rw [hn]; simp [mark3]
  have v1 := conv_bytes (l := l) (w := w) n (n + 3) hn hT1
  have v2 := conv_bytes (l := l) (w := w) n c hn hA
  obtain ⟨U, hU⟩ : ∃ U, U = txt l := ⟨_, rfl⟩
  rw [← hU] at v1 v2
  obtain ⟨g', off', e, _, hc⟩ := hT.at_ (k := 0) (by omega)
  injection e with e
  injection e with e1 e2
  subst e1; subst e2
  have hk : ∀ m, m < 3 → w.cell? ⟨g, n + m, none⟩ = some (.int .u8 167) := fun m hm => by
    have := hc (n + m) (by omega)
    rw [Nat.zero_add] at this
    rw [this, bt_app, if_neg (by omega), show n + m - l.length = m by omega]
    match m, hm with
    | 0, _ => rfl
    | 1, _ => rfl
    | 2, _ => rfl
  have HK := Lib.hid hk
  clear hn hc hlen hT hA hT1 hk hU
  go_enter Try.func14, Try.ntmps14
  go_wp2_with fail
  go_loop [6] (fun s => ∃ m : Nat, m ≤ 3 ∧ s = .int .i64 ((n : Int) + m)) (fun s => n + 3 - (intOf s).toNat)
  case atStart => exact ⟨0, by omega, by simp⟩
  case round =>
    obtain ⟨m, hm, rfl⟩ := hrel
    by_cases hlt : m < 3
    · have hcell := HK.out m hlt
      go_wp2_with fail
      go_round
      case rel => exact ⟨m + 1, by omega, by go_num⟩
      case measure => simp [intOf]; omega
    · obtain rfl : m = 3 := by omega
      go_wp2_with fail
      go_ret
      exact ⟨by simp, rfl⟩
theorem Byt.front {w : World} {B : Nat} {A : Option Addr} {l r : List UInt8} (h : Byt w B A (l ++ r)) : Byt w B A l := by have := h.take l.length; simpa using this
end Jk
end Go.Proofs.Ytfnahondlcbjnaa
