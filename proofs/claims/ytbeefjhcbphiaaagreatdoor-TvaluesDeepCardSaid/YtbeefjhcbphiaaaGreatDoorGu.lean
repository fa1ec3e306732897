/- The law TvaluesDeep, walked. -/
import Derived.Test.YtbeefjhcbphiaaaGreatDoorGt
import Derived.Test.YtbeefjhcbphiaaaGreatDoorGq
import Derived.Deep.CutRange
import Derived.Test.YtbeefjhcbphiaaaGreatDoorGr
namespace Go.Proofs.YtbeefjhcbphiaaaGreatDoor
open Go.RowKit
namespace Tv
open Ty (WR1 KR Ky Bs blK endP)
open Lib (repeatL)

theorem rep_is {q : Bs} {b S : ByteArray} {x : Int} (n : Nat) (hn : n ≤ 300) (hb : b = txt q) (hq : q.length ≤ 3) (hx : x = n) (hS : S = txt (repeatL q n)) (w : World) :
    Calls Tryz.prog 22 #[.string b, .int .i64 x] w fun e w' => e = .returned (.string S) ∧ Below w.heap.size w w' := by
  subst hx hS hb
  refine (Tryz.strings_Repeat (txt q) n w (by omega) (by
    rw [txt_size]
    have := Nat.mul_le_mul hq hn
    omega)).mono ?_
  rintro e w' ⟨rfl, hb⟩
  exact ⟨by rw [show (txt q).data.toList = q by simp [txt]]; rfl, hb⟩
/-- What the law asks of a text: read it is a tree of n + 1 nodes, or it fails at a place. -/
structure Dp (S : ByteArray) (n k : Nat) (bad : Nat) : Prop where
  ok : k + n ≤ 256 → ∀ w, Fl.AllT w → ∀ N : Nat, N = n + 1 → Calls Tryz.prog 9 #[.string S, .int .i64 0, .int .i64 (k : Nat)] w fun e w' => ∃ A, e = .returned (.tuple #[.agg #[.slice A N N, .int .i64 0], .int .i64 (S.size : Nat), .agg #[.int .i64 0, .int .i64 0]]) ∧ Below w.heap.size w w'
  no : 256 < k + n → ∀ w, Fl.AllT w → ∀ y : Int, y = (bad : Nat) → Calls Tryz.prog 20 #[.string S, .int .i64 0, .int .i64 (k : Nat), .int .i64 4, .int .i64 y] w fun e w' => e = .returned (.bool true) ∧ Below w.heap.size w w'
theorem dp_of {l : Bs} {S : ByteArray} {n k bad : Nat} (hS : S = txt l) (hl : l.length ≤ 50000) (h : Simple l) (h1 : k + n ≤ 256 → ∃ s, vk l k = .ok s ∧ s.a = l.length ∧ s.X.length = n + 1) (h2 : 256 < k + n → vk l k = .bad 4 bad) : Dp S n k bad :=
  ⟨fun hk w hT N hN => by
    have := read_ok (y := (k : Nat)) w hT h hS hl (by omega) (h1 hk)
    rw [show S.size = l.length by rw [hS, txt_size], hN]
    exact this, fun hk w hT y hy => fails_k (z := (k : Nat)) w (read_bad w hT h hS hl (by omega) (h2 hk)) rfl hy⟩
theorem dp_L {n k : Nat} {S : ByteArray} (h0 : 0 < n) (hn : n < 300) (hS : S = txt (LL n)) : Dp S n k (256 - k) := dp_of hS (by rw [LL_len]; omega) (LL_simple n) (LL_ok h0) (LL_bad h0)
theorem dp_T {n k : Nat} {S : ByteArray} (h0 : 0 < n) (hn : n < 300) (hS : S = txt (TL n)) : Dp S n k (3 * (256 - k)) := dp_of hS (by rw [TL_len]; omega) (TL_simple n) (TL_ok h0) (TL_bad h0)
theorem dp_W {n r k : Nat} {S : ByteArray} (h0 : 0 < n) (hn : n < 300) (hr : r = n - 1) (hS : S = txt (WL r)) : Dp S n k (2 * (256 - k) - 1) := by
  obtain rfl : n = r + 1 := by omega
  exact dp_of hS (by rw [WL_len]; omega) (WL_simple r) (fun h => WL_ok (by omega)) (fun h => WL_bad (by omega))
set_option maxHeartbeats 8000000 in
set_option maxRecDepth 100000 in
theorem deep_law {m a : Int} {n k : Nat} (w : World) (hT : Fl.AllT w) (hm : 0 ≤ m ∧ m < 65536) (ha : 0 ≤ a ∧ a < 65536) (hn : m % 300 = n) (hk : a % 300 = k) :
    Calls Tryz.prog 6 #[.int .u16 m, .int .u16 a] w fun e w' => e = .returned (.bool true) ∧ Below w.heap.size w w' := by
  have hn3 : n < 300 := by omega
  have hk3 : k < 300 := by omega
  have tn : m.tmod 300 = n := by rw [Int.tmod_eq_emod_of_nonneg hm.1]; exact hn
  have tk : a.tmod 300 = k := by rw [Int.tmod_eq_emod_of_nonneg ha.1]; exact hk
  obtain ⟨r, hr⟩ : ∃ r, r = n - 1 := ⟨_, rfl⟩
  have hmr : max ((n : Int) - 1) 0 = (r : Nat) := by omega
  obtain ⟨b, hb⟩ : ∃ b, b = 256 - k := ⟨_, rfl⟩
  have hmb : max (256 - (k : Int)) 0 = (b : Nat) := by omega
  obtain ⟨A1, hA1⟩ : ∃ x, x = txt (repeatL [91] n) := ⟨_, rfl⟩
  obtain ⟨A2, hA2⟩ : ∃ x, x = txt (repeatL [93] n) := ⟨_, rfl⟩
  obtain ⟨B1, hB1⟩ : ∃ x, x = txt (repeatL [123, 97, 61] n) := ⟨_, rfl⟩
  obtain ⟨B2, hB2⟩ : ∃ x, x = txt (repeatL [125] n) := ⟨_, rfl⟩
  obtain ⟨C1, hC1⟩ : ∃ x, x = txt (repeatL [97, 46] r) := ⟨_, rfl⟩
  obtain ⟨A3, hA3⟩ : ∃ x, A1 ++ ByteArray.mk #[49] = x := ⟨_, rfl⟩
  obtain ⟨SL, hSL⟩ : ∃ x, A3 ++ A2 = x := ⟨_, rfl⟩
  obtain ⟨B3, hB3⟩ : ∃ x, B1 ++ ByteArray.mk #[49] = x := ⟨_, rfl⟩
  obtain ⟨ST, hST⟩ : ∃ x, B3 ++ B2 = x := ⟨_, rfl⟩
  obtain ⟨C3, hC3⟩ : ∃ x, ByteArray.mk #[123] ++ C1 = x := ⟨_, rfl⟩
  obtain ⟨SW, hSW⟩ : ∃ x, C3 ++ ByteArray.mk #[97, 61, 49, 125] = x := ⟨_, rfl⟩
  have eL : SL = txt (LL n) := by rw [← hSL, ← hA3, hA1, hA2]; show (txt _ ++ txt [49]) ++ txt _ = _; rw [txt_app, txt_app, List.append_assoc]; rfl
  have eT : ST = txt (TL n) := by rw [← hST, ← hB3, hB1, hB2]; show (txt _ ++ txt [49]) ++ txt _ = _; rw [txt_app, txt_app, List.append_assoc]; rfl
  have eW : SW = txt (WL r) := by rw [← hSW, ← hC3, hC1]; show (txt [123] ++ txt _) ++ txt [97, 61, 49, 125] = _; rw [txt_app, txt_app, List.append_assoc]; rfl
  have zA1 : A1.size ≤ 1000 := by rw [hA1, txt_size, rp_len]; simp; omega
  have zA2 : A2.size ≤ 1000 := by rw [hA2, txt_size, rp_len]; simp; omega
  have zB1 : B1.size ≤ 1000 := by rw [hB1, txt_size, rp_len]; simp; omega
  have zB2 : B2.size ≤ 1000 := by rw [hB2, txt_size, rp_len]; simp; omega
  have zC1 : C1.size ≤ 1000 := by rw [hC1, txt_size, rp_len]; simp; omega
  have zA3 : A3.size ≤ 1001 := by rw [← hA3, ByteArray.size_append]; show _ + 1 ≤ _; omega
  have zB3 : B3.size ≤ 1001 := by rw [← hB3, ByteArray.size_append]; show _ + 1 ≤ _; omega
  have zC3 : C3.size ≤ 1001 := by rw [← hC3, ByteArray.size_append]; show 1 + _ ≤ _; omega
  have zL : SL.size ≤ 2001 := by rw [← hSL, ByteArray.size_append]; omega
  have zT : ST.size ≤ 2001 := by rw [← hST, ByteArray.size_append]; omega
  have zW : SW.size ≤ 2001 := by rw [← hSW, ByteArray.size_append]; show _ + 4 ≤ _; omega
  have FA1 := Lib.hid (fun w => rep_is (q := [91]) (b := ⟨#[91]⟩) (x := (n : Int)) n (by omega) rfl (by decide) rfl hA1 w)
  have FA2 := Lib.hid (fun w => rep_is (q := [93]) (b := ⟨#[93]⟩) (x := (n : Int)) n (by omega) rfl (by decide) rfl hA2 w)
  have FB1 := Lib.hid (fun w => rep_is (q := [123, 97, 61]) (b := ⟨#[123, 97, 61]⟩) (x := (n : Int)) n (by omega) rfl (by decide) rfl hB1 w)
  have FB2 := Lib.hid (fun w => rep_is (q := [125]) (b := ⟨#[125]⟩) (x := (n : Int)) n (by omega) rfl (by decide) rfl hB2 w)
  have FC1 := Lib.hid (fun w => rep_is (q := [97, 46]) (b := ⟨#[97, 46]⟩) (x := (r : Int)) r (by omega) rfl (by decide) rfl hC1 w)
  have DL := Lib.hid (fun h0 : 0 < n => dp_L (k := k) h0 hn3 eL)
  have DT := Lib.hid (fun h0 : 0 < n => dp_T (k := k) h0 hn3 eT)
  have DW := Lib.hid (fun h0 : 0 < n => dp_W (k := k) h0 hn3 hr eW)
  have HB := Lib.hid hb
  have HT := Lib.hid hT
  have HR := Lib.hid hr
  obtain ⟨N1, hN1⟩ : ∃ N1 : Nat, N1 = n + 1 := ⟨_, rfl⟩
  have HN1 := Lib.hid hN1
  have hN2 : (n : Int) + 1 = (N1 : Nat) := by omega
  clear hN1 hA1 hA2 hB1 hB2 hC1 eL eT eW hT hr hb
  go_enter Tryz.func6, Tryz.ntmps6
  go_wp2_with fail
  refine (FA1.out _).mono ?_
  rintro e w1 ⟨rfl, hb1⟩
  have H1 := Lib.hid hb1
  clear hb1
  go_wp2_with fail
  refine (FA2.out _).mono ?_
  rintro e w2 ⟨rfl, hb2⟩
  have H2 := Lib.hid (below_tr H1.out hb2)
  clear hb2
  go_wp2_with fail
  refine (FB1.out _).mono ?_
  rintro e w3 ⟨rfl, hb3⟩
  have H3 := Lib.hid (below_tr H2.out hb3)
  clear hb3
  go_wp2_with fail
  refine (FB2.out _).mono ?_
  rintro e w4 ⟨rfl, hb4⟩
  have H4 := Lib.hid (below_tr H3.out hb4)
  clear hb4
  go_wp2_with fail
  refine (FC1.out _).mono ?_
  rintro e w5 ⟨rfl, hb5⟩
  have H5 := Lib.hid (below_tr H4.out hb5)
  have HT5 := Lib.hid (HT.out.below H5.out)
  clear hb5 FA1 FA2 FB1 FB2 FC1 H1 H2 H3 H4
  go_upto_region 7 with fail
  have HT6 := Lib.hid (fun (V : World) (h : Below w5.heap.size w5 V) => HT5.out.below h)
  by_cases h0 : n = 0
  · subst h0
    clear DL DT DW
    by_cases hk2 : k ≤ 256
    · have e1 : ¬ (256 : Int) < (k : Int) := by omega
      have e2 : (k : Int) ≤ 256 := by omega
      go_wp2_with fail
      refine (lives_any HT5.out).mono ?_
      rintro e w6 ⟨rfl, hb6⟩
      have HF := Lib.hid (below_tr H5.out hb6)
      clear hb6
      go_wp2_with fail
      go_ret
      exact ⟨rfl, HF.out⟩
    · have e1 : (256 : Int) < (k : Int) := by omega
      have e2 : ¬ (k : Int) ≤ 256 := by omega
      go_wp2_with fail
      refine (lives_any HT5.out).mono ?_
      rintro e w6 ⟨rfl, hb6⟩
      have HF := Lib.hid (below_tr H5.out hb6)
      clear hb6
      go_wp2_with fail
      go_ret
      exact ⟨rfl, HF.out⟩
  · have hp : 0 < n := by omega
    have HL := Lib.hid (DL.out hp)
    have HTt := Lib.hid (DT.out hp)
    have HW := Lib.hid (DW.out hp)
    have e0 : ¬ (n : Int) = 0 := by omega
    clear DL DT DW
    by_cases hd : k + n ≤ 256
    · have e1 : ¬ (256 : Int) < (n : Int) + (k : Int) := by omega
      have RL := Lib.hid (fun w h => HL.out.ok hd w h N1 HN1.out)
      have RT := Lib.hid (fun w h => HTt.out.ok hd w h N1 HN1.out)
      have RW := Lib.hid (fun w h => HW.out.ok hd w h N1 HN1.out)
      clear HL HTt HW hd h0 hp
      go_upto_region 12 with fail
      obtain ⟨g, hg⟩ : ∃ g, g = w5.heap.size := ⟨_, rfl⟩
      obtain ⟨W6, hW6⟩ : ∃ V, V = w5.alloc (.cells #[.string SL, .string ST, .string SW] 9) := ⟨_, rfl⟩
      have hb6 : Below w5.heap.size w5 W6 := by rw [hW6]; exact (Below.refl _ _).alloc (Nat.le_refl _) _
      have hh6 : W6.heap[g]? = some (.cells #[.string SL, .string ST, .string SW] 9) := by rw [hW6, hg]; exact heap_alloc_new _ _
      have c0 : W6.cell? ⟨g, 0, none⟩ = some (.string SL) := by simp [World.cell?, hh6]
      have c1 : W6.cell? ⟨g, 1, none⟩ = some (.string ST) := by simp [World.cell?, hh6]
      have c2 : W6.cell? ⟨g, 2, none⟩ = some (.string SW) := by simp [World.cell?, hh6]
      rw [← hW6, ← hg]
      have HC0 := Lib.hid c0
      have HC1 := Lib.hid c1
      have HC2 := Lib.hid c2
      have HB6 := Lib.hid (below_tr H5.out hb6)
      have HT7 := Lib.hid (HT5.out.below hb6)
      clear c0 c1 c2 hh6 hb6 hW6 hg H5 HT5 HT6 HT
      go_wp2_with fail
      go_loopw [13] (fun x wr => ∃ j : Nat, j ≤ 3 ∧ x = .int .i64 j ∧ Hid (Below W6.heap.size W6 wr)) (fun x _ => 3 - (intOf x).toNat)
      case atStart => exact ⟨0, by omega, rfl, Lib.hid (Below.refl _ _)⟩
      case round =>
        obtain ⟨j, hj, rfl, HBR⟩ := hrel
        by_cases hlt : j < 3
        · obtain ⟨Q, hc, HQ, hz⟩ : ∃ Q, W6.cell? ⟨g, j, none⟩ = some (.string Q) ∧ Hid (∀ w, Fl.AllT w → Calls Tryz.prog 9 #[.string Q, .int .i64 0, .int .i64 (k : Nat)] w fun e w' => ∃ A, e = .returned (.tuple #[.agg #[.slice A N1 N1, .int .i64 0], .int .i64 (Q.size : Nat), .agg #[.int .i64 0, .int .i64 0]]) ∧ Below w.heap.size w w') ∧ Q.size ≤ 2001 := by
            rcases (show j = 0 ∨ j = 1 ∨ j = 2 by omega) with rfl | rfl | rfl
            · exact ⟨SL, HC0.out, Lib.hid RL.out, zL⟩
            · exact ⟨ST, HC1.out, Lib.hid RT.out, zT⟩
            · exact ⟨SW, HC2.out, Lib.hid RW.out, zW⟩
          have HTr := Lib.hid (HT7.out.below HBR.out)
          have HCQ := Lib.hid hc
          have hc1 := cell_old HBR.out (lt_blk2 hc) hc
          clear hc
          go_wp2_with fail
          refine (HQ.out _ HTr.out).mono ?_
          rintro e w7 ⟨A, rfl, hb7⟩
          have HB7 := Lib.hid (below_tr HBR.out hb7)
          clear hb7 hc1
          go_upto_region 16 with fail
          have HP := Lib.hid (PB.start (w := w7) (sv := .slice A N1 N1) (c := 0) (a := 0))
          obtain ⟨V, hV⟩ : ∃ V, V = (w7.alloc (trV (.slice A N1 N1))).alloc (tgO (.slice A N1 N1) 0 0) := ⟨_, rfl⟩
          rw [← hV] at HP ⊢
          obtain ⟨p0, p1, p2, p3⟩ := HP.out.cells
          have HBV := Lib.hid (below_tr HB7.out HP.out.below)
          have hc2 := cell_old HBV.out (lt_blk2 HCQ.out) HCQ.out
          clear hV
          go_wp2_with fail
          go_roundw
          case rel => exact ⟨j + 1, by omega, by go_num, HBV⟩
          case measure => simp [intOf]; omega
        · obtain rfl : j = 3 := by omega
          have HTr := Lib.hid (HT7.out.below HBR.out)
          have HBZ := Lib.hid (below_tr HB6.out HBR.out)
          go_wp2_with fail
          refine (lives_any HTr.out).mono ?_
          rintro e w8 ⟨rfl, hb8⟩
          have HF := Lib.hid (below_tr HBZ.out hb8)
          clear hb8
          go_wp2_with fail
          go_ret
          exact ⟨rfl, HF.out⟩
    · have e1 : (256 : Int) < (n : Int) + (k : Int) := by omega
      have hd2 : 256 < k + n := by omega
      have NL := Lib.hid (HL.out.no hd2)
      have NT := Lib.hid (HTt.out.no hd2)
      have NW := Lib.hid (HW.out.no hd2)
      clear HL HTt HW hd hd2 h0 hp
      by_cases hb0 : b = 0
      · subst hb0
        go_wp2_with fail
        refine (NL.out _ HT5.out _ (by have := HB.out; omega)).mono ?_
        rintro e w6 ⟨rfl, hb6⟩
        have H6 := Lib.hid (below_tr H5.out hb6)
        have HT7 := Lib.hid (HT6.out _ hb6)
        have HS6 := Lib.hid hb6
        clear hb6
        go_wp2_with fail
        refine (NT.out _ HT7.out _ (by have := HB.out; omega)).mono ?_
        rintro e w7 ⟨rfl, hb7⟩
        have H7 := Lib.hid (below_tr H6.out hb7)
        have HS7 := Lib.hid (below_tr HS6.out hb7)
        have HT8 := Lib.hid (HT6.out _ HS7.out)
        clear hb7
        go_wp2_with fail
        refine (NW.out _ HT8.out _ (by have := HB.out; omega)).mono ?_
        rintro e w8 ⟨rfl, hb8⟩
        have H8 := Lib.hid (below_tr H7.out hb8)
        have HT9 := Lib.hid (HT6.out _ (below_tr HS7.out hb8))
        clear hb8
        go_wp2_with fail
        refine (lives_any HT9.out).mono ?_
        rintro e w9 ⟨rfl, hb9⟩
        have HF := Lib.hid (below_tr H8.out hb9)
        clear hb9
        go_wp2_with fail
        go_ret
        exact ⟨rfl, HF.out⟩
      · have e3 : ¬ (b : Int) = 0 := by omega
        go_wp2_with fail
        refine (NL.out _ HT5.out _ (by have := HB.out; omega)).mono ?_
        rintro e w6 ⟨rfl, hb6⟩
        have H6 := Lib.hid (below_tr H5.out hb6)
        have HT7 := Lib.hid (HT6.out _ hb6)
        have HS6 := Lib.hid hb6
        clear hb6
        go_wp2_with fail
        refine (NT.out _ HT7.out _ (by have := HB.out; omega)).mono ?_
        rintro e w7 ⟨rfl, hb7⟩
        have H7 := Lib.hid (below_tr H6.out hb7)
        have HS7 := Lib.hid (below_tr HS6.out hb7)
        have HT8 := Lib.hid (HT6.out _ HS7.out)
        clear hb7
        go_wp2_with fail
        refine (NW.out _ HT8.out _ (by have := HB.out; omega)).mono ?_
        rintro e w8 ⟨rfl, hb8⟩
        have H8 := Lib.hid (below_tr H7.out hb8)
        have HT9 := Lib.hid (HT6.out _ (below_tr HS7.out hb8))
        clear hb8
        go_wp2_with fail
        refine (lives_any HT9.out).mono ?_
        rintro e w9 ⟨rfl, hb9⟩
        have HF := Lib.hid (below_tr H8.out hb9)
        clear hb9
        go_wp2_with fail
        go_ret
        exact ⟨rfl, HF.out⟩
end Tv
end Go.Proofs.YtbeefjhcbphiaaaGreatDoor
/- The law TvaluesDeep as its row asks it. -/
namespace Go.Proofs.YtbeefjhcbphiaaaGreatDoor
open Go.RowKit
namespace Tv

theorem deepW_any {m a : Int} (m0 : 0 ≤ m) (m1 : m ≤ 65535) (a0 : 0 ≤ a) (a1 : a ≤ 65535) (w : World) (h : Fl.AllT w) :
    Calls Tryz.prog 6 #[.int .u16 m, .int .u16 a] w fun e w' => e = .returned (.bool true) ∧ Below w.heap.size w w' := by
  obtain ⟨n, hn⟩ := Int.eq_ofNat_of_zero_le (show 0 ≤ m % 300 by omega)
  obtain ⟨k, hk⟩ := Int.eq_ofNat_of_zero_le (show 0 ≤ a % 300 by omega)
  exact deep_law w h ⟨m0, by omega⟩ ⟨a0, by omega⟩ hn hk
end Tv
end Go.Proofs.YtbeefjhcbphiaaaGreatDoor
