/- The law Utf8sLines, walked: it answers true, and nothing that was there is turned. -/
import Derived.Test.YtllnnogdpagioaaDoorLinesM
import Derived.Test.YtllnnogdpagioaaDoorJoin
namespace Go.Proofs.YtllnnogdpagioaaDoor
open Go.RowKit

theorem lawlines_long {l : List UInt8} {A : Option Addr} {n c : Nat} {w : World} (ha : ArgB w A n c l) (hT : Tab w) (h : 500 < n) :
    Calls Tryd.prog 8 #[.slice A n c] w fun e w' => e = .returned (.bool true) ∧ Below w.heap.size w w' := by
  obtain ⟨_, h1, h2, _⟩ := ha
  unfold maxLen at h2
  have HT := Lib.hid hT
  clear hT
  have h' : (500 : Int) < n := by omega
  go_enter Tryd.func8, Tryd.ntmps8
  go_wp2_with (go_at_call 9; refine (lives_tab HT.out).mono ?_; rintro e w' ⟨rfl, hb⟩)
  go_ret
  exact ⟨rfl, hb⟩

/-- What holds at each round's head. -/
def LRel (l : List UInt8) (k : Nat) (L K R : Int) : Prop :=
  L = 1 + (nlTo l k : Int) ∧ K ≤ 1 + (colAt l k : Int) ∧ 1 + (colAt l k : Int) ≤ K + 1 ∧ R = (rnTo l k : Int)
theorem colAt_le (l : List UInt8) (k : Nat) : colAt l k ≤ k := by have := colF_le l k (lst l k); unfold lst at this; unfold colAt; omega
set_option maxHeartbeats 8000000 in
set_option maxRecDepth 100000 in
theorem lawlines_ok {l : List UInt8} {A : Option Addr} {n c : Nat} {w : World} (ha : ArgB w A n c l) (hT : Tab w) (h : n ≤ 500) (hok : scn l = l.length) :
    Calls Tryd.prog 8 #[.slice A n c] w fun e w' => e = .returned (.bool true) ∧ Below w.heap.size w w' := by
  have HT := Lib.hid hT
  obtain ⟨hn, hnc, hcm, hA, _⟩ := ha
  have hcm' := hcm
  unfold maxLen at hcm'
  have Hn := Lib.hid hn
  have HO := Lib.hid hok
  have h' : ¬ (500 : Int) < n := by omega
  have h1 := hT.2.2
  obtain ⟨z, HC⟩ : ∃ z : Int, Hid (z = chkAt l) := ⟨_, rfl⟩
  have HP := Lib.hid (show true = chkOk l by simp [chkOk, hok])
  have R0 : LRel l 0 1 1 0 := ⟨rfl, by omega, by have := colAt_le l 0; omega, rfl⟩
  clear hT hn hok
  go_enter Tryd.func8, Tryd.ntmps8
  go_wp2_with (go_at_call 11; refine (check_is (x := z) (p := true) n c Hn.out hnc hA hcm HC.out HP.out).mono ?_; rintro e w' ⟨rfl, rfl⟩)
  go_loopw [3, 4, 7, 8] (fun s t r i wr => ∃ (k : Nat) (L K R : Int), k ≤ n ∧ i = .int .i64 k ∧ s = .int .i64 L ∧ t = .int .i64 K ∧ r = .int .i64 R ∧ LRel l k L K R ∧ 1 ≤ L ∧ L ≤ 600 ∧ 0 ≤ K ∧ K ≤ 600 ∧ 0 ≤ R ∧ R ≤ 600 ∧ Below w.heap.size w wr) (fun _ _ _ i _ => n - (intOf i).toNat)
  case atStart => exact ⟨0, 1, 1, 0, Nat.zero_le _, rfl, rfl, rfl, rfl, R0, by omega, by omega, by omega, by omega, by omega, by omega, Below.refl _ _⟩
  case round =>
    obtain ⟨k, L, K, R, hk, rfl, rfl, rfl, rfl, hL, hL1, hL2, hK1, hK2, hR1, hR2, hb⟩ := hrel
    clear R0
    by_cases hlt : k < n
    · have hkl : k < l.length := by have := Hn.out; omega
      obtain ⟨e1, e2, e3, e4⟩ := hL
      have hnl := nlTo_le l k
      have hnl2 := nlTo_le l (k + 1)
      have hcl := colAt_le l k
      have hrl := rnTo_le l k
      have hrl2 := rnTo_le l (k + 1)
      obtain ⟨C, hC⟩ : ∃ C : Int, C = 1 + (colAt l k : Int) := ⟨_, rfl⟩
      have hC0 : 1 ≤ C := by omega
      have hC1 : C ≤ 600 := by omega
      have hC2 : K ≤ C := by omega
      have hC3 : C ≤ K + 1 := by omega
      have hAw := hA.below hb
      have hbs := hb.size
      obtain ⟨b, off, hAe, hbB, hc⟩ := hAw.at_ hkl
      have hck := hc k hkl
      subst hAe
      have d0 := bt_lo l k
      have d1 := bt_hi l k
      have a192 := and192 (bt l k) d0 d1
      have HL := Lib.hid e1
      have HCC := Lib.hid hC
      have HRR := Lib.hid e4
      clear e1 e4 hc
      by_cases h10 : bt l k = 10
      · have E := col_10 h10
        have HX := Lib.hid (show L + 1 = 1 + (nlTo l (k + 1) : Int) by have := HL.out; have := E.1; omega)
        have HY := Lib.hid (show (1 : Int) = 1 + (colAt l (k + 1) : Int) by have := E.2; omega)
        have HN := Lib.hid (show LRel l (k + 1) (L + 1) 1 R from ⟨HX.out, by omega, by have := HY.out; omega, by rw [HRR.out]; simp [rnTo, h10]⟩)
        have HLE := Lib.hid (show L + 1 ≤ 600 by have := HX.out; omega)
        clear E hC e2 e3
        go_wp2_with fail
        refine (place_is (x := L) (y := C) n c k _ rfl Hn.out hnc (hA.below hb) hbs hcm (by omega) (by omega) HL.out HCC.out).mono ?_
        rintro e w1 ⟨rfl, hb1⟩
        have hb2 := hb.trans (hb1.mono hbs)
        have hbs2 := hb2.size
        have hck2 : w1.cell? ⟨b, off + k, none⟩ = some (.int .u8 (bt l k)) := (hb1.cell (p := ⟨b, off + k, none⟩) (by show b < _; omega)).trans hck
        clear hb1 hck
        go_wp2_with fail
        refine (place_is (x := L + 1) (y := 1) n c (k + 1) _ (by omega) Hn.out hnc (hA.below hb2) hbs2 hcm (by omega) (by omega) HX.out HY.out).mono ?_
        rintro e w2 ⟨rfl, hb3⟩
        have hb4 := hb2.trans (hb3.mono hbs2)
        have hck3 : w2.cell? ⟨b, off + k, none⟩ = some (.int .u8 (bt l k)) := (hb3.cell (p := ⟨b, off + k, none⟩) (by show b < _; omega)).trans hck2
        clear hb3 hck2
        rw [h10] at hck3
        clear a192 d0 d1 h10
        go_wp2
        go_roundw
        case rel => exact ⟨k + 1, L + 1, 1, R, by omega, by go_num, rfl, rfl, rfl, HN.out, by omega, HLE.out, by omega, by omega, hR1, hR2, hb4⟩
        case measure => simp [intOf]; omega
      · by_cases g1 : bt l k < 128
        ·
          have hw : wth (bt l k) 128 191 = false := by simp [wth]; omega
          have q1 : (bt l k / 64 * 64 == 128) = false := by simp; omega
          have HX := Lib.hid (show L = 1 + (nlTo l (k + 1) : Int) by have := HL.out; have := (col_else h10).1; omega)
          have HY := Lib.hid (show C + 1 = 1 + (colAt l (k + 1) : Int) by have := hit_line HO.out hkl; rw [hw] at this; have h2 := (col_else h10).2; rw [this] at h2; simp at h2; have := HCC.out; omega)
          have HN := Lib.hid (show LRel l (k + 1) L C (R + 1) from ⟨HX.out, by have := HY.out; omega, by have := HY.out; omega, by rw [HRR.out]; simp [rnTo, h10, hw]⟩)
          have HRE := Lib.hid (show (R + 1) ≤ 600 by have := HN.out.2.2.2; omega)
          have hn10 : (bt l k == 10) = false := by simp; exact h10
          clear hC e2 e3 h10
          go_wp2_with fail
          refine (place_is (x := L) (y := C) n c k _ rfl Hn.out hnc (hA.below hb) hbs hcm (by omega) (by omega) HL.out HCC.out).mono ?_
          rintro e w1 ⟨rfl, hb1⟩
          have hb2 := hb.trans (hb1.mono hbs)
          have hbs2 := hb2.size
          have hck2 : w1.cell? ⟨b, off + k, none⟩ = some (.int .u8 (bt l k)) := (hb1.cell (p := ⟨b, off + k, none⟩) (by show b < _; omega)).trans hck
          clear hb1 hck
          go_wp2_with fail
          refine (place_is (x := L) (y := C + 1) n c (k + 1) _ (by omega) Hn.out hnc (hA.below hb2) hbs2 hcm (by omega) (by omega) HX.out HY.out).mono ?_
          rintro e w2 ⟨rfl, hb3⟩
          have hb4 := hb2.trans (hb3.mono hbs2)
          have hck3 : w2.cell? ⟨b, off + k, none⟩ = some (.int .u8 (bt l k)) := (hb3.cell (p := ⟨b, off + k, none⟩) (by show b < _; omega)).trans hck2
          clear hb3 hck2
          go_wp2
          go_roundw
          case rel => exact ⟨k + 1, L, C, (R + 1), by omega, by go_num, rfl, rfl, rfl, HN.out, hL1, hL2, by omega, hC1, by omega, HRE.out, hb4⟩
          case measure => simp [intOf]; omega
        · have g1' : 128 ≤ bt l k := by omega
          by_cases g2 : bt l k ≤ 191
          ·
            have hw : wth (bt l k) 128 191 = true := by simp [wth]; omega
            have q1 : bt l k / 64 * 64 = 128 := by omega
            rw [q1] at a192
            clear q1
            have HX := Lib.hid (show L = 1 + (nlTo l (k + 1) : Int) by have := HL.out; have := (col_else h10).1; omega)
            have HY := Lib.hid (show C = 1 + (colAt l (k + 1) : Int) by have := hit_line HO.out hkl; rw [hw] at this; have h2 := (col_else h10).2; rw [this] at h2; simp at h2; have := HCC.out; omega)
            have HN := Lib.hid (show LRel l (k + 1) L C R from ⟨HX.out, by have := HY.out; omega, by have := HY.out; omega, by rw [HRR.out]; simp [rnTo, hw]⟩)
            have HRE := Lib.hid (show R ≤ 600 by have := HN.out.2.2.2; omega)
            have hn10 : (bt l k == 10) = false := by simp; exact h10
            clear hC e2 e3 h10
            go_wp2_with fail
            refine (place_is (x := L) (y := C) n c k _ rfl Hn.out hnc (hA.below hb) hbs hcm (by omega) (by omega) HL.out HCC.out).mono ?_
            rintro e w1 ⟨rfl, hb1⟩
            have hb2 := hb.trans (hb1.mono hbs)
            have hbs2 := hb2.size
            have hck2 : w1.cell? ⟨b, off + k, none⟩ = some (.int .u8 (bt l k)) := (hb1.cell (p := ⟨b, off + k, none⟩) (by show b < _; omega)).trans hck
            clear hb1 hck
            go_wp2_with fail
            refine (place_is (x := L) (y := C) n c (k + 1) _ (by omega) Hn.out hnc (hA.below hb2) hbs2 hcm (by omega) (by omega) HX.out HY.out).mono ?_
            rintro e w2 ⟨rfl, hb3⟩
            have hb4 := hb2.trans (hb3.mono hbs2)
            have hck3 : w2.cell? ⟨b, off + k, none⟩ = some (.int .u8 (bt l k)) := (hb3.cell (p := ⟨b, off + k, none⟩) (by show b < _; omega)).trans hck2
            clear hb3 hck2
            go_wp2
            go_roundw
            case rel => exact ⟨k + 1, L, C, R, by omega, by go_num, rfl, rfl, rfl, HN.out, hL1, hL2, by omega, hC1, by omega, HRE.out, hb4⟩
            case measure => simp [intOf]; omega
          ·
            have hw : wth (bt l k) 128 191 = false := by simp [wth]; omega
            have q1 : (bt l k / 64 * 64 == 128) = false := by simp; omega
            have HX := Lib.hid (show L = 1 + (nlTo l (k + 1) : Int) by have := HL.out; have := (col_else h10).1; omega)
            have HY := Lib.hid (show C + 1 = 1 + (colAt l (k + 1) : Int) by have := hit_line HO.out hkl; rw [hw] at this; have h2 := (col_else h10).2; rw [this] at h2; simp at h2; have := HCC.out; omega)
            have HN := Lib.hid (show LRel l (k + 1) L C (R + 1) from ⟨HX.out, by have := HY.out; omega, by have := HY.out; omega, by rw [HRR.out]; simp [rnTo, h10, hw]⟩)
            have HRE := Lib.hid (show (R + 1) ≤ 600 by have := HN.out.2.2.2; omega)
            have hn10 : (bt l k == 10) = false := by simp; exact h10
            clear hC e2 e3 h10
            go_wp2_with fail
            refine (place_is (x := L) (y := C) n c k _ rfl Hn.out hnc (hA.below hb) hbs hcm (by omega) (by omega) HL.out HCC.out).mono ?_
            rintro e w1 ⟨rfl, hb1⟩
            have hb2 := hb.trans (hb1.mono hbs)
            have hbs2 := hb2.size
            have hck2 : w1.cell? ⟨b, off + k, none⟩ = some (.int .u8 (bt l k)) := (hb1.cell (p := ⟨b, off + k, none⟩) (by show b < _; omega)).trans hck
            clear hb1 hck
            go_wp2_with fail
            refine (place_is (x := L) (y := C + 1) n c (k + 1) _ (by omega) Hn.out hnc (hA.below hb2) hbs2 hcm (by omega) (by omega) HX.out HY.out).mono ?_
            rintro e w2 ⟨rfl, hb3⟩
            have hb4 := hb2.trans (hb3.mono hbs2)
            have hck3 : w2.cell? ⟨b, off + k, none⟩ = some (.int .u8 (bt l k)) := (hb3.cell (p := ⟨b, off + k, none⟩) (by show b < _; omega)).trans hck2
            clear hb3 hck2
            go_wp2
            go_roundw
            case rel => exact ⟨k + 1, L, C, (R + 1), by omega, by go_num, rfl, rfl, rfl, HN.out, hL1, hL2, by omega, hC1, by omega, HRE.out, hb4⟩
            case measure => simp [intOf]; omega
    · obtain rfl : n = k := by omega
      obtain ⟨e1, e2, e3, e4⟩ := hL
      obtain ⟨N, HN⟩ : ∃ N, Hid (N = (rns l).length) := ⟨_, rfl⟩
      have hq : ((N : Int) == R + L - 1) = true := by
        have := runes_lines HO.out
        have h2 := HN.out
        rw [← Hn.out] at this
        simp; omega
      have HT1 := Lib.hid (HT.out.below hb h1)
      have hbs := hb.size
      have hN : N ≤ 500 := by have := HN.out; have := rns_le l; have := scn_le l; have := Hn.out; omega
      have hAw := (hA.below hb).more hbs
      clear e1 e2 e3 e4
      go_wp2_with fail
      refine (runes_is n c wr.heap.size N Hn.out hnc hAw (Nat.le_refl _) hcm (by omega) HT1.out.1 (by have := HT1.out.2.2; omega) rfl rfl HN.out).mono ?_
      rintro e w1 ⟨rfl, _, hb1⟩
      have hb2 := hb.trans (hb1.mono hbs)
      have HT2 := Lib.hid (HT.out.below hb2 h1)
      clear hb1
      go_wp2_with fail
      refine (lives_tab HT2.out).mono ?_
      rintro e w2 ⟨rfl, hb3⟩
      go_wp2
      go_ret
      exact ⟨rfl, hb2.trans (hb3.mono hb2.size)⟩
set_option maxHeartbeats 8000000 in
set_option maxRecDepth 100000 in
theorem lawlines_bad {l : List UInt8} {A : Option Addr} {n c : Nat} {w : World} (ha : ArgB w A n c l) (hT : Tab w) (h : n ≤ 500) (hok : ¬ scn l = l.length) :
    Calls Tryd.prog 8 #[.slice A n c] w fun e w' => e = .returned (.bool true) ∧ Below w.heap.size w w' := by
  have HT := Lib.hid hT
  obtain ⟨hn, hnc, hcm, hA, _⟩ := ha
  have hcm' := hcm
  unfold maxLen at hcm'
  have Hn := Lib.hid hn
  have HO := Lib.hid hok
  have h' : ¬ (500 : Int) < n := by omega
  have h1 := hT.2.2
  obtain ⟨z, HC⟩ : ∃ z : Int, Hid (z = chkAt l) := ⟨_, rfl⟩
  have HP := Lib.hid (show false = chkOk l by simp [chkOk, hok])
  have R0 : LRel l 0 1 1 0 := ⟨rfl, by omega, by have := colAt_le l 0; omega, rfl⟩
  clear hT hn hok
  go_enter Tryd.func8, Tryd.ntmps8
  go_wp2_with (go_at_call 11; refine (check_is (x := z) (p := false) n c Hn.out hnc hA hcm HC.out HP.out).mono ?_; rintro e w' ⟨rfl, rfl⟩)
  go_loopw [3, 4, 7, 8] (fun s t r i wr => ∃ (k : Nat) (L K R : Int), k ≤ n ∧ i = .int .i64 k ∧ s = .int .i64 L ∧ t = .int .i64 K ∧ r = .int .i64 R ∧ LRel l k L K R ∧ 1 ≤ L ∧ L ≤ 600 ∧ 0 ≤ K ∧ K ≤ 600 ∧ 0 ≤ R ∧ R ≤ 600 ∧ Below w.heap.size w wr) (fun _ _ _ i _ => n - (intOf i).toNat)
  case atStart => exact ⟨0, 1, 1, 0, Nat.zero_le _, rfl, rfl, rfl, rfl, R0, by omega, by omega, by omega, by omega, by omega, by omega, Below.refl _ _⟩
  case round =>
    obtain ⟨k, L, K, R, hk, rfl, rfl, rfl, rfl, hL, hL1, hL2, hK1, hK2, hR1, hR2, hb⟩ := hrel
    clear R0
    by_cases hlt : k < n
    · have hkl : k < l.length := by have := Hn.out; omega
      obtain ⟨e1, e2, e3, e4⟩ := hL
      have hnl := nlTo_le l k
      have hnl2 := nlTo_le l (k + 1)
      have hcl := colAt_le l k
      have hrl := rnTo_le l k
      have hrl2 := rnTo_le l (k + 1)
      obtain ⟨C, hC⟩ : ∃ C : Int, C = 1 + (colAt l k : Int) := ⟨_, rfl⟩
      have hC0 : 1 ≤ C := by omega
      have hC1 : C ≤ 600 := by omega
      have hC2 : K ≤ C := by omega
      have hC3 : C ≤ K + 1 := by omega
      have hAw := hA.below hb
      have hbs := hb.size
      obtain ⟨b, off, hAe, hbB, hc⟩ := hAw.at_ hkl
      have hck := hc k hkl
      subst hAe
      have d0 := bt_lo l k
      have d1 := bt_hi l k
      have a192 := and192 (bt l k) d0 d1
      have HL := Lib.hid e1
      have HCC := Lib.hid hC
      have HRR := Lib.hid e4
      clear e1 e4 hc
      by_cases h10 : bt l k = 10
      · have E := col_10 h10
        have HX := Lib.hid (show L + 1 = 1 + (nlTo l (k + 1) : Int) by have := HL.out; have := E.1; omega)
        have HY := Lib.hid (show (1 : Int) = 1 + (colAt l (k + 1) : Int) by have := E.2; omega)
        have HN := Lib.hid (show LRel l (k + 1) (L + 1) 1 R from ⟨HX.out, by omega, by have := HY.out; omega, by rw [HRR.out]; simp [rnTo, h10]⟩)
        have HLE := Lib.hid (show L + 1 ≤ 600 by have := HX.out; omega)
        clear E hC e2 e3
        go_wp2_with fail
        refine (place_is (x := L) (y := C) n c k _ rfl Hn.out hnc (hA.below hb) hbs hcm (by omega) (by omega) HL.out HCC.out).mono ?_
        rintro e w1 ⟨rfl, hb1⟩
        have hb2 := hb.trans (hb1.mono hbs)
        have hbs2 := hb2.size
        have hck2 : w1.cell? ⟨b, off + k, none⟩ = some (.int .u8 (bt l k)) := (hb1.cell (p := ⟨b, off + k, none⟩) (by show b < _; omega)).trans hck
        clear hb1 hck
        go_wp2_with fail
        refine (place_is (x := L + 1) (y := 1) n c (k + 1) _ (by omega) Hn.out hnc (hA.below hb2) hbs2 hcm (by omega) (by omega) HX.out HY.out).mono ?_
        rintro e w2 ⟨rfl, hb3⟩
        have hb4 := hb2.trans (hb3.mono hbs2)
        have hck3 : w2.cell? ⟨b, off + k, none⟩ = some (.int .u8 (bt l k)) := (hb3.cell (p := ⟨b, off + k, none⟩) (by show b < _; omega)).trans hck2
        clear hb3 hck2
        rw [h10] at hck3
        clear a192 d0 d1 h10
        go_wp2
        go_roundw
        case rel => exact ⟨k + 1, L + 1, 1, R, by omega, by go_num, rfl, rfl, rfl, HN.out, by omega, HLE.out, by omega, by omega, hR1, hR2, hb4⟩
        case measure => simp [intOf]; omega
      · by_cases hh : hit l k (lst l k) = true
        · by_cases g : 128 ≤ bt l k ∧ bt l k ≤ 191
          · obtain ⟨g1', g2⟩ := g
            have hw : wth (bt l k) 128 191 = true := by simp [wth]; omega
            have q1 : bt l k / 64 * 64 = 128 := by omega
            rw [q1] at a192
            clear q1
            have HX := Lib.hid (show L = 1 + (nlTo l (k + 1) : Int) by have := HL.out; have := (col_else h10).1; omega)
            have HY := Lib.hid (show C + 1 = 1 + (colAt l (k + 1) : Int) by have h2 := (col_else h10).2; rw [hh] at h2; simp at h2; have := HCC.out; omega)
            have HN := Lib.hid (show LRel l (k + 1) L C R from ⟨HX.out, by have := HY.out; omega, by have := HY.out; omega, by rw [HRR.out]; simp [rnTo, hw]⟩)
            have HRE := Lib.hid (show R ≤ 600 by have := HN.out.2.2.2; omega)
            have hn10 : (bt l k == 10) = false := by simp; exact h10
            clear hC e2 e3 h10
            go_wp2_with fail
            refine (place_is (x := L) (y := C) n c k _ rfl Hn.out hnc (hA.below hb) hbs hcm (by omega) (by omega) HL.out HCC.out).mono ?_
            rintro e w1 ⟨rfl, hb1⟩
            have hb2 := hb.trans (hb1.mono hbs)
            have hbs2 := hb2.size
            have hck2 : w1.cell? ⟨b, off + k, none⟩ = some (.int .u8 (bt l k)) := (hb1.cell (p := ⟨b, off + k, none⟩) (by show b < _; omega)).trans hck
            clear hb1 hck
            go_wp2_with fail
            refine (place_is (x := L) (y := C + 1) n c (k + 1) _ (by omega) Hn.out hnc (hA.below hb2) hbs2 hcm (by omega) (by omega) HX.out HY.out).mono ?_
            rintro e w2 ⟨rfl, hb3⟩
            have hb4 := hb2.trans (hb3.mono hbs2)
            have hck3 : w2.cell? ⟨b, off + k, none⟩ = some (.int .u8 (bt l k)) := (hb3.cell (p := ⟨b, off + k, none⟩) (by show b < _; omega)).trans hck2
            clear hb3 hck2
            go_wp2
            go_roundw
            case rel => exact ⟨k + 1, L, C, R, by omega, by go_num, rfl, rfl, rfl, HN.out, hL1, hL2, by omega, hC1, by omega, HRE.out, hb4⟩
            case measure => simp [intOf]; omega
          ·
            have hw : wth (bt l k) 128 191 = false := by simp [wth]; omega
            have q1 : (bt l k / 64 * 64 == 128) = false := by simp; omega
            have HX := Lib.hid (show L = 1 + (nlTo l (k + 1) : Int) by have := HL.out; have := (col_else h10).1; omega)
            have HY := Lib.hid (show C + 1 = 1 + (colAt l (k + 1) : Int) by have h2 := (col_else h10).2; rw [hh] at h2; simp at h2; have := HCC.out; omega)
            have HN := Lib.hid (show LRel l (k + 1) L C (R + 1) from ⟨HX.out, by have := HY.out; omega, by have := HY.out; omega, by rw [HRR.out]; simp [rnTo, h10, hw]⟩)
            have HRE := Lib.hid (show (R + 1) ≤ 600 by have := HN.out.2.2.2; omega)
            have hn10 : (bt l k == 10) = false := by simp; exact h10
            clear hC e2 e3 h10
            go_wp2_with fail
            refine (place_is (x := L) (y := C) n c k _ rfl Hn.out hnc (hA.below hb) hbs hcm (by omega) (by omega) HL.out HCC.out).mono ?_
            rintro e w1 ⟨rfl, hb1⟩
            have hb2 := hb.trans (hb1.mono hbs)
            have hbs2 := hb2.size
            have hck2 : w1.cell? ⟨b, off + k, none⟩ = some (.int .u8 (bt l k)) := (hb1.cell (p := ⟨b, off + k, none⟩) (by show b < _; omega)).trans hck
            clear hb1 hck
            go_wp2_with fail
            refine (place_is (x := L) (y := C + 1) n c (k + 1) _ (by omega) Hn.out hnc (hA.below hb2) hbs2 hcm (by omega) (by omega) HX.out HY.out).mono ?_
            rintro e w2 ⟨rfl, hb3⟩
            have hb4 := hb2.trans (hb3.mono hbs2)
            have hck3 : w2.cell? ⟨b, off + k, none⟩ = some (.int .u8 (bt l k)) := (hb3.cell (p := ⟨b, off + k, none⟩) (by show b < _; omega)).trans hck2
            clear hb3 hck2
            go_wp2
            go_roundw
            case rel => exact ⟨k + 1, L, C, (R + 1), by omega, by go_num, rfl, rfl, rfl, HN.out, hL1, hL2, by omega, hC1, by omega, HRE.out, hb4⟩
            case measure => simp [intOf]; omega
        · have hh : hit l k (lst l k) = false := by simpa using hh
          by_cases g : 128 ≤ bt l k ∧ bt l k ≤ 191
          · obtain ⟨g1', g2⟩ := g
            have hw : wth (bt l k) 128 191 = true := by simp [wth]; omega
            have q1 : bt l k / 64 * 64 = 128 := by omega
            rw [q1] at a192
            clear q1
            have HX := Lib.hid (show L = 1 + (nlTo l (k + 1) : Int) by have := HL.out; have := (col_else h10).1; omega)
            have HY := Lib.hid (show C = 1 + (colAt l (k + 1) : Int) by have h2 := (col_else h10).2; rw [hh] at h2; simp at h2; have := HCC.out; omega)
            have HN := Lib.hid (show LRel l (k + 1) L C R from ⟨HX.out, by have := HY.out; omega, by have := HY.out; omega, by rw [HRR.out]; simp [rnTo, hw]⟩)
            have HRE := Lib.hid (show R ≤ 600 by have := HN.out.2.2.2; omega)
            have hn10 : (bt l k == 10) = false := by simp; exact h10
            clear hC e2 e3 h10
            go_wp2_with fail
            refine (place_is (x := L) (y := C) n c k _ rfl Hn.out hnc (hA.below hb) hbs hcm (by omega) (by omega) HL.out HCC.out).mono ?_
            rintro e w1 ⟨rfl, hb1⟩
            have hb2 := hb.trans (hb1.mono hbs)
            have hbs2 := hb2.size
            have hck2 : w1.cell? ⟨b, off + k, none⟩ = some (.int .u8 (bt l k)) := (hb1.cell (p := ⟨b, off + k, none⟩) (by show b < _; omega)).trans hck
            clear hb1 hck
            go_wp2_with fail
            refine (place_is (x := L) (y := C) n c (k + 1) _ (by omega) Hn.out hnc (hA.below hb2) hbs2 hcm (by omega) (by omega) HX.out HY.out).mono ?_
            rintro e w2 ⟨rfl, hb3⟩
            have hb4 := hb2.trans (hb3.mono hbs2)
            have hck3 : w2.cell? ⟨b, off + k, none⟩ = some (.int .u8 (bt l k)) := (hb3.cell (p := ⟨b, off + k, none⟩) (by show b < _; omega)).trans hck2
            clear hb3 hck2
            go_wp2
            go_roundw
            case rel => exact ⟨k + 1, L, C, R, by omega, by go_num, rfl, rfl, rfl, HN.out, hL1, hL2, by omega, hC1, by omega, HRE.out, hb4⟩
            case measure => simp [intOf]; omega
          ·
            have hw : wth (bt l k) 128 191 = false := by simp [wth]; omega
            have q1 : (bt l k / 64 * 64 == 128) = false := by simp; omega
            have HX := Lib.hid (show L = 1 + (nlTo l (k + 1) : Int) by have := HL.out; have := (col_else h10).1; omega)
            have HY := Lib.hid (show C = 1 + (colAt l (k + 1) : Int) by have h2 := (col_else h10).2; rw [hh] at h2; simp at h2; have := HCC.out; omega)
            have HN := Lib.hid (show LRel l (k + 1) L C (R + 1) from ⟨HX.out, by have := HY.out; omega, by have := HY.out; omega, by rw [HRR.out]; simp [rnTo, h10, hw]⟩)
            have HRE := Lib.hid (show (R + 1) ≤ 600 by have := HN.out.2.2.2; omega)
            have hn10 : (bt l k == 10) = false := by simp; exact h10
            clear hC e2 e3 h10
            go_wp2_with fail
            refine (place_is (x := L) (y := C) n c k _ rfl Hn.out hnc (hA.below hb) hbs hcm (by omega) (by omega) HL.out HCC.out).mono ?_
            rintro e w1 ⟨rfl, hb1⟩
            have hb2 := hb.trans (hb1.mono hbs)
            have hbs2 := hb2.size
            have hck2 : w1.cell? ⟨b, off + k, none⟩ = some (.int .u8 (bt l k)) := (hb1.cell (p := ⟨b, off + k, none⟩) (by show b < _; omega)).trans hck
            clear hb1 hck
            go_wp2_with fail
            refine (place_is (x := L) (y := C) n c (k + 1) _ (by omega) Hn.out hnc (hA.below hb2) hbs2 hcm (by omega) (by omega) HX.out HY.out).mono ?_
            rintro e w2 ⟨rfl, hb3⟩
            have hb4 := hb2.trans (hb3.mono hbs2)
            have hck3 : w2.cell? ⟨b, off + k, none⟩ = some (.int .u8 (bt l k)) := (hb3.cell (p := ⟨b, off + k, none⟩) (by show b < _; omega)).trans hck2
            clear hb3 hck2
            go_wp2
            go_roundw
            case rel => exact ⟨k + 1, L, C, (R + 1), by omega, by go_num, rfl, rfl, rfl, HN.out, hL1, hL2, by omega, hC1, by omega, HRE.out, hb4⟩
            case measure => simp [intOf]; omega
    · obtain rfl : n = k := by omega
      have HT1 := Lib.hid (HT.out.below hb h1)
      clear hL
      go_wp2_with fail
      refine (lives_tab HT1.out).mono ?_
      rintro e w2 ⟨rfl, hb3⟩
      go_wp2
      go_ret
      exact ⟨rfl, hb.trans (hb3.mono hb.size)⟩
/-- The law Utf8sLines. -/
theorem lawlines_any {l : List UInt8} {A : Option Addr} {n c : Nat} {w : World} (ha : ArgB w A n c l) (hT : Tab w) :
    Calls Tryd.prog 8 #[.slice A n c] w fun e w' => e = .returned (.bool true) ∧ Below w.heap.size w w' := by
  by_cases h : 500 < n
  · exact lawlines_long ha hT h
  by_cases hok : scn l = l.length
  · exact lawlines_ok ha hT (by omega) hok
  · exact lawlines_bad ha hT (by omega) hok
end Go.Proofs.YtllnnogdpagioaaDoor
