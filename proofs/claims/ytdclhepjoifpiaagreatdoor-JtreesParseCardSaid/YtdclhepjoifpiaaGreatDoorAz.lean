/- What landed: the next token, walked. -/
import Derived.Test.YtdclhepjoifpiaaGreatDoorAy
import Derived.Test.YtdclhepjoifpiaaGreatDoorVam
import Derived.Deep.RegionWith
namespace Go.Proofs.YtdclhepjoifpiaaGreatDoor
open Go.RowKit
namespace Jk
section
variable {l : List UInt8} {A : Option Addr}
set_option maxHeartbeats 8000000 in
set_option maxRecDepth 100000 in
theorem lnext_neg (n c : Nat) {x : Int} (w : World) (hx : x < 0) :
    Calls Tryz.prog 26 #[.slice A n c, .int .i64 x] w fun e w' => e = .returned (.tuple #[ltV 0 0 0, fvV 3 0]) ∧ Below w.heap.size w w' := by
  have F0 := Lib.hid (RL.start (w := w) (k := 0) (i := 0) (j := 0) (c := 3) (a := 0))
  go_enter Tryz.func26, Tryz.ntmps26
  go_wp2_with fail
  refine bodyPost_ret (v := .tuple #[ltV 0 0 0, fvV 3 0]) (by simp [results, Tryz.results26, go_sem, *]) rfl ?_
  exact ⟨rfl, F0.out.below⟩
set_option maxHeartbeats 16000000 in
set_option maxRecDepth 100000 in
theorem lnext_far (n c i : Nat) {B : Nat} {x : Int} (w : World) (hF : Forms) (hn : n = l.length) (hA : Byt w B A l) (hB : B ≤ w.heap.size) (hm : n ≤ 1000000) (hx : x = i) (hi : l.length ≤ i) :
    Calls Tryz.prog 26 #[.slice A n c, .int .i64 x] w fun e w' => e = .returned (.tuple #[ltV 0 0 0, fvV 3 x]) ∧ Below w.heap.size w w' := by
  have hb0 : bt l i = 0 := bt_far hi
  have HB0 := Lib.hid hb0
  have h0 : ¬ x < 0 := by omega
  have HF := Lib.hid hF
  have Hn := Lib.hid hn
  have HA := Lib.hid hA
  have HB := Lib.hid hB
  have HX := Lib.hid hx
  have F0 := Lib.hid (RL.start (w := w) (k := 0) (i := 0) (j := 0) (c := 0) (a := 0))
  clear hF hn hA hB hb0 hi hx
  go_enter Tryz.func26, Tryz.ntmps26
  go_wp2_with fail
  refine (forms_is _).mono ?_
  rintro e w1 ⟨rfl, hb1⟩
  have F1 := Lib.hid (F0.out.on hb1)
  clear hb1
  go_wp2_with fail
  go_loopw [6, 7, 8, 9, 15] (fun _ _ _ _ v wx => ∃ m : Nat, (m = 0 ∨ m = 1 ∨ m = 2 ∨ m = 3 ∨ m = 4 ∨ m = 5) ∧ v = .int .i64 m ∧ Hid (RL w wx 0 0 0 0 0)) (fun _ _ _ _ v _ => 5 - (intOf v).toNat)
  case atStart => exact ⟨0, .inl rfl, rfl, F1⟩
  case round =>
    obtain ⟨m, hm5, rfl, FW⟩ := hrel
    have sz := FW.out.below.size
    rcases hm5 with rfl | rfl | rfl | rfl | rfl | rfl
    · have hix := form_0 wr
      have FA := Lib.hid (FW.out.on (wy := wr.alloc (fmO ⟨#[32, 9, 10, 13]⟩ 57)) ((Below.refl _ _).alloc (Nat.le_refl _) _))
      go_wp2_with fail
      refine (stands_is n c i (v := false) _ HF.out.blanks Hn.out (HA.out.below ((FA.out.below).mono HB.out)) hm HX.out (by rw [HB0.out]; rfl)).mono ?_
      rintro e w' ⟨rfl, rfl⟩
      go_wp2_with fail
      go_roundw
      case rel => exact ⟨1, by simp, by go_num, FA⟩
      case measure => simp [intOf]
    · have hix := form_1 wr
      have FA := Lib.hid (FW.out.on (wy := wr.alloc (fmO ⟨#[123, 125, 91, 93, 44, 58]⟩ 58)) ((Below.refl _ _).alloc (Nat.le_refl _) _))
      go_wp2_with fail
      refine (stands_is n c i (v := false) _ HF.out.marks Hn.out (HA.out.below ((FA.out.below).mono HB.out)) hm HX.out (by rw [HB0.out]; rfl)).mono ?_
      rintro e w' ⟨rfl, rfl⟩
      go_wp2_with fail
      go_roundw
      case rel => exact ⟨2, by simp, by go_num, FA⟩
      case measure => simp [intOf]
    · have hix := form_2 wr
      have FA := Lib.hid (FW.out.on (wy := wr.alloc (fmO ⟨#[97, 98, 99, 100, 101, 102, 103, 104, 105, 106, 107, 108, 109, 110, 111, 112, 113, 114, 115, 116, 117, 118, 119, 120, 121, 122]⟩ 59)) ((Below.refl _ _).alloc (Nat.le_refl _) _))
      go_wp2_with fail
      refine (stands_is n c i (v := false) _ HF.out.letters Hn.out (HA.out.below ((FA.out.below).mono HB.out)) hm HX.out (by rw [HB0.out]; rfl)).mono ?_
      rintro e w' ⟨rfl, rfl⟩
      go_wp2_with fail
      go_roundw
      case rel => exact ⟨3, by simp, by go_num, FA⟩
      case measure => simp [intOf]
    · have hix := form_3 wr
      have FA := Lib.hid (FW.out.on (wy := wr.alloc (fmO ⟨#[45, 48, 49, 50, 51, 52, 53, 54, 55, 56, 57]⟩ 60)) ((Below.refl _ _).alloc (Nat.le_refl _) _))
      go_wp2_with fail
      refine (stands_is n c i (v := false) _ HF.out.nums Hn.out (HA.out.below ((FA.out.below).mono HB.out)) hm HX.out (by rw [HB0.out]; rfl)).mono ?_
      rintro e w' ⟨rfl, rfl⟩
      go_wp2_with fail
      go_roundw
      case rel => exact ⟨4, by simp, by go_num, FA⟩
      case measure => simp [intOf]
    · have hix := form_4 wr
      have FA := Lib.hid (FW.out.on (wy := wr.alloc (fmO ⟨#[34]⟩ 61)) ((Below.refl _ _).alloc (Nat.le_refl _) _))
      go_wp2_with fail
      refine (stands_is n c i (v := false) _ HF.out.quote Hn.out (HA.out.below ((FA.out.below).mono HB.out)) hm HX.out (by rw [HB0.out]; rfl)).mono ?_
      rintro e w' ⟨rfl, rfl⟩
      go_wp2_with fail
      go_roundw
      case rel => exact ⟨5, by simp, by go_num, FA⟩
      case measure => simp [intOf]
    · obtain ⟨⟨c0, c1, c2, c3, c4⟩, f0, f1, f2, f3, f4⟩ := FW.out.cells
      go_wp2_with fail
      refine bodyPost_ret (v := .tuple #[ltV 0 0 0, fvV 3 x]) (by simp [results, Tryz.results26, go_sem, *]) rfl ?_
      exact ⟨rfl, FW.out.set.below⟩
set_option maxHeartbeats 16000000 in
set_option maxRecDepth 100000 in
theorem lnext_in (n c i : Nat) {B : Nat} {x : Int} (w : World) (hF : Forms) (hn : n = l.length) (hnc : n ≤ c) (hc6 : c ≤ maxLen) (hA : Byt w B A l) (hB : B ≤ w.heap.size) (hm : n ≤ 1000000) (hx : x = i) (hi : i < l.length) :
    Calls Tryz.prog 26 #[.slice A n c, .int .i64 x] w fun e w' => e = .returned (lnA i (nx (l.drop i))) ∧ Below w.heap.size w w' := by
  subst hx
  have HF := Lib.hid hF
  have Hn := Lib.hid hn
  have HI := Lib.hid hi
  have HA := Lib.hid hA
  have HB := Lib.hid hB
  have hi6 : i ≤ 1000000 := by omega
  have E0 := Lib.hid (end0 (A := A) (c := c) hn hm hi hF)
  have E1 := Lib.hid (end1 (A := A) (c := c) hn hm hi)
  have E2 := Lib.hid (end2 (A := A) hn hm hi hF hnc hc6)
  have E3 := Lib.hid (end3 (A := A) (c := c) hn hm hi hF)
  have E4 := Lib.hid (end4 (A := A) (c := c) hn hm hi hF)
  have F0 := Lib.hid (RL.start (w := w) (k := 0) (i := 0) (j := 0) (c := 0) (a := 0))
  obtain ⟨b0, H0⟩ : ∃ b, Hid (b = spc (bt l i)) := ⟨_, rfl⟩
  obtain ⟨b1, H1⟩ : ∃ b, Hid (b = mrk (bt l i)) := ⟨_, rfl⟩
  obtain ⟨b2, H2⟩ : ∃ b, Hid (b = ltr (bt l i)) := ⟨_, rfl⟩
  obtain ⟨b3, H3⟩ : ∃ b, Hid (b = (decide (bt l i = 45) || dg (bt l i))) := ⟨_, rfl⟩
  obtain ⟨b4, H4⟩ : ∃ b, Hid (b = decide (bt l i = 34)) := ⟨_, rfl⟩
  clear hF hn hA hB hi hc6 hnc
  go_enter Tryz.func26, Tryz.ntmps26
  go_wp2_with fail
  refine (forms_is _).mono ?_
  rintro e w1 ⟨rfl, hb1⟩
  have F1 := Lib.hid (F0.out.on hb1)
  clear hb1
  go_wp2_with fail
  go_loopw [6, 7, 8, 9, 15] (fun _ _ _ _ v wx => ∃ m : Nat, (m = 0 ∨ m = 1 ∨ m = 2 ∨ m = 3 ∨ m = 4 ∨ m = 5) ∧ v = .int .i64 m ∧ Hid (RL w wx 0 0 0 0 0) ∧ Hid ((0 < m → b0 = false) ∧ (1 < m → b1 = false) ∧ (2 < m → b2 = false) ∧ (3 < m → b3 = false) ∧ (4 < m → b4 = false))) (fun _ _ _ _ v _ => 5 - (intOf v).toNat)
  case atStart => exact ⟨0, .inl rfl, rfl, F1, Lib.hid ⟨fun h => absurd h (by omega), fun h => absurd h (by omega), fun h => absurd h (by omega), fun h => absurd h (by omega), fun h => absurd h (by omega)⟩⟩
  case round =>
    obtain ⟨m, hm5, rfl, FW, NO⟩ := hrel
    have sz := FW.out.below.size
    rcases hm5 with rfl | rfl | rfl | rfl | rfl | rfl
    · have hix := form_0 wr
      have FA := Lib.hid (FW.out.on (wy := wr.alloc (fmO ⟨#[32, 9, 10, 13]⟩ 57)) ((Below.refl _ _).alloc (Nat.le_refl _) _))
      have C := Lib.hid (stands_is n c i (x := i) (v := b0) (wr.alloc (fmO ⟨#[32, 9, 10, 13]⟩ 57)) HF.out.blanks Hn.out (HA.out.below ((FA.out.below).mono HB.out)) hm rfl H0.out)
      have bkey : b0 = false ∨ b0 = true := by cases b0 <;> simp
      rcases bkey with rfl | rfl
      · have NO2 : Hid ((0 < 1 → false = false) ∧ (1 < 1 → b1 = false) ∧ (2 < 1 → b2 = false) ∧ (3 < 1 → b3 = false) ∧ (4 < 1 → b4 = false)) := Lib.hid ⟨fun _ => rfl, fun h => absurd h (by omega), fun h => absurd h (by omega), fun h => absurd h (by omega), fun h => absurd h (by omega)⟩
        go_wp2_with fail
        refine C.out.mono ?_
        rintro e w' ⟨rfl, rfl⟩
        go_wp2_with fail
        go_roundw
        case rel => exact ⟨1, by simp, by go_num, FA, NO2⟩
        case measure => simp [intOf]
      · have R := Lib.hid (nx_en0 H0.out.symm)
        obtain ⟨p, HP⟩ : ∃ p, Hid (p = en l i 0) := ⟨_, rfl⟩
        have EC := Lib.hid (E0.out (wr.alloc (fmO ⟨#[32, 9, 10, 13]⟩ 57)) B (HA.out.below ((FA.out.below).mono HB.out)))
        rw [← HP.out] at EC R
        obtain ⟨q, ok⟩ := p
        obtain ⟨⟨c0, c1, c2, c3, c4⟩, f0, f1, f2, f3, f4⟩ := FA.out.cells
        have okey : ok = false ∨ ok = true := by cases ok <;> simp
        rcases okey with rfl | rfl
        · go_wp2_with fail
          refine C.out.mono ?_
          rintro e w' ⟨rfl, rfl⟩
          go_wp2_with fail
          refine EC.out.mono ?_
          rintro e w' ⟨rfl, rfl⟩
          simp only [enV]
          go_wp2_with fail
          refine bodyPost_ret (v := .tuple #[ltV 0 0 0, fvV 3 q]) (by simp [results, Tryz.results26, go_sem, *]) rfl ?_
          exact ⟨by rw [R.out]; rfl, FA.out.set.below⟩
        · go_wp2_with fail
          refine C.out.mono ?_
          rintro e w' ⟨rfl, rfl⟩
          go_wp2_with fail
          refine EC.out.mono ?_
          rintro e w' ⟨rfl, rfl⟩
          simp only [enV]
          go_wp2_with fail
          refine bodyPost_ret (v := .tuple #[ltV 0 i q, fvV 0 0]) (by simp [results, Tryz.results26, go_sem, *]) rfl ?_
          exact ⟨by rw [R.out]; rfl, FA.out.set.below⟩
    · have hix := form_1 wr
      have FA := Lib.hid (FW.out.on (wy := wr.alloc (fmO ⟨#[123, 125, 91, 93, 44, 58]⟩ 58)) ((Below.refl _ _).alloc (Nat.le_refl _) _))
      have C := Lib.hid (stands_is n c i (x := i) (v := b1) (wr.alloc (fmO ⟨#[123, 125, 91, 93, 44, 58]⟩ 58)) HF.out.marks Hn.out (HA.out.below ((FA.out.below).mono HB.out)) hm rfl H1.out)
      have bkey : b1 = false ∨ b1 = true := by cases b1 <;> simp
      rcases bkey with rfl | rfl
      · have NO2 : Hid ((0 < 2 → b0 = false) ∧ (1 < 2 → false = false) ∧ (2 < 2 → b2 = false) ∧ (3 < 2 → b3 = false) ∧ (4 < 2 → b4 = false)) := Lib.hid ⟨fun _ => NO.out.1 (by omega), fun _ => rfl, fun h => absurd h (by omega), fun h => absurd h (by omega), fun h => absurd h (by omega)⟩
        go_wp2_with fail
        refine C.out.mono ?_
        rintro e w' ⟨rfl, rfl⟩
        go_wp2_with fail
        go_roundw
        case rel => exact ⟨2, by simp, by go_num, FA, NO2⟩
        case measure => simp [intOf]
      · have R := Lib.hid (nx_en1 H1.out.symm)
        obtain ⟨p, HP⟩ : ∃ p, Hid (p = en l i 1) := ⟨_, rfl⟩
        have EC := Lib.hid (E1.out (wr.alloc (fmO ⟨#[123, 125, 91, 93, 44, 58]⟩ 58)) B (HA.out.below ((FA.out.below).mono HB.out)))
        rw [← HP.out] at EC R
        obtain ⟨q, ok⟩ := p
        obtain ⟨⟨c0, c1, c2, c3, c4⟩, f0, f1, f2, f3, f4⟩ := FA.out.cells
        have okey : ok = false ∨ ok = true := by cases ok <;> simp
        rcases okey with rfl | rfl
        · go_wp2_with fail
          refine C.out.mono ?_
          rintro e w' ⟨rfl, rfl⟩
          go_wp2_with fail
          refine EC.out.mono ?_
          rintro e w' ⟨rfl, rfl⟩
          simp only [enV]
          go_wp2_with fail
          refine bodyPost_ret (v := .tuple #[ltV 0 0 0, fvV 3 q]) (by simp [results, Tryz.results26, go_sem, *]) rfl ?_
          exact ⟨by rw [R.out]; rfl, FA.out.set.below⟩
        · go_wp2_with fail
          refine C.out.mono ?_
          rintro e w' ⟨rfl, rfl⟩
          go_wp2_with fail
          refine EC.out.mono ?_
          rintro e w' ⟨rfl, rfl⟩
          simp only [enV]
          go_wp2_with fail
          refine bodyPost_ret (v := .tuple #[ltV 1 i q, fvV 0 0]) (by simp [results, Tryz.results26, go_sem, *]) rfl ?_
          exact ⟨by rw [R.out]; rfl, FA.out.set.below⟩
    · have hix := form_2 wr
      have FA := Lib.hid (FW.out.on (wy := wr.alloc (fmO ⟨#[97, 98, 99, 100, 101, 102, 103, 104, 105, 106, 107, 108, 109, 110, 111, 112, 113, 114, 115, 116, 117, 118, 119, 120, 121, 122]⟩ 59)) ((Below.refl _ _).alloc (Nat.le_refl _) _))
      have C := Lib.hid (stands_is n c i (x := i) (v := b2) (wr.alloc (fmO ⟨#[97, 98, 99, 100, 101, 102, 103, 104, 105, 106, 107, 108, 109, 110, 111, 112, 113, 114, 115, 116, 117, 118, 119, 120, 121, 122]⟩ 59)) HF.out.letters Hn.out (HA.out.below ((FA.out.below).mono HB.out)) hm rfl H2.out)
      have bkey : b2 = false ∨ b2 = true := by cases b2 <;> simp
      rcases bkey with rfl | rfl
      · have NO2 : Hid ((0 < 3 → b0 = false) ∧ (1 < 3 → b1 = false) ∧ (2 < 3 → false = false) ∧ (3 < 3 → b3 = false) ∧ (4 < 3 → b4 = false)) := Lib.hid ⟨fun _ => NO.out.1 (by omega), fun _ => NO.out.2.1 (by omega), fun _ => rfl, fun h => absurd h (by omega), fun h => absurd h (by omega)⟩
        go_wp2_with fail
        refine C.out.mono ?_
        rintro e w' ⟨rfl, rfl⟩
        go_wp2_with fail
        go_roundw
        case rel => exact ⟨3, by simp, by go_num, FA, NO2⟩
        case measure => simp [intOf]
      · have R := Lib.hid (nx_en2 H2.out.symm)
        obtain ⟨p, HP⟩ : ∃ p, Hid (p = en l i 2) := ⟨_, rfl⟩
        have EC := Lib.hid (E2.out (wr.alloc (fmO ⟨#[97, 98, 99, 100, 101, 102, 103, 104, 105, 106, 107, 108, 109, 110, 111, 112, 113, 114, 115, 116, 117, 118, 119, 120, 121, 122]⟩ 59)) B (HA.out.below ((FA.out.below).mono HB.out)))
        rw [← HP.out] at EC R
        obtain ⟨q, ok⟩ := p
        obtain ⟨⟨c0, c1, c2, c3, c4⟩, f0, f1, f2, f3, f4⟩ := FA.out.cells
        have okey : ok = false ∨ ok = true := by cases ok <;> simp
        rcases okey with rfl | rfl
        · go_wp2_with fail
          refine C.out.mono ?_
          rintro e w' ⟨rfl, rfl⟩
          go_wp2_with fail
          refine EC.out.mono ?_
          rintro e w' ⟨rfl, rfl⟩
          simp only [enV]
          go_wp2_with fail
          refine bodyPost_ret (v := .tuple #[ltV 0 0 0, fvV 3 q]) (by simp [results, Tryz.results26, go_sem, *]) rfl ?_
          exact ⟨by rw [R.out]; rfl, FA.out.set.below⟩
        · go_wp2_with fail
          refine C.out.mono ?_
          rintro e w' ⟨rfl, rfl⟩
          go_wp2_with fail
          refine EC.out.mono ?_
          rintro e w' ⟨rfl, rfl⟩
          simp only [enV]
          go_wp2_with fail
          refine bodyPost_ret (v := .tuple #[ltV 2 i q, fvV 0 0]) (by simp [results, Tryz.results26, go_sem, *]) rfl ?_
          exact ⟨by rw [R.out]; rfl, FA.out.set.below⟩
    · have hix := form_3 wr
      have FA := Lib.hid (FW.out.on (wy := wr.alloc (fmO ⟨#[45, 48, 49, 50, 51, 52, 53, 54, 55, 56, 57]⟩ 60)) ((Below.refl _ _).alloc (Nat.le_refl _) _))
      have C := Lib.hid (stands_is n c i (x := i) (v := b3) (wr.alloc (fmO ⟨#[45, 48, 49, 50, 51, 52, 53, 54, 55, 56, 57]⟩ 60)) HF.out.nums Hn.out (HA.out.below ((FA.out.below).mono HB.out)) hm rfl H3.out)
      have bkey : b3 = false ∨ b3 = true := by cases b3 <;> simp
      rcases bkey with rfl | rfl
      · have NO2 : Hid ((0 < 4 → b0 = false) ∧ (1 < 4 → b1 = false) ∧ (2 < 4 → b2 = false) ∧ (3 < 4 → false = false) ∧ (4 < 4 → b4 = false)) := Lib.hid ⟨fun _ => NO.out.1 (by omega), fun _ => NO.out.2.1 (by omega), fun _ => NO.out.2.2.1 (by omega), fun _ => rfl, fun h => absurd h (by omega)⟩
        go_wp2_with fail
        refine C.out.mono ?_
        rintro e w' ⟨rfl, rfl⟩
        go_wp2_with fail
        go_roundw
        case rel => exact ⟨4, by simp, by go_num, FA, NO2⟩
        case measure => simp [intOf]
      · have R := Lib.hid (nx_en3 H3.out.symm)
        obtain ⟨p, HP⟩ : ∃ p, Hid (p = en l i 3) := ⟨_, rfl⟩
        have EC := Lib.hid (E3.out (wr.alloc (fmO ⟨#[45, 48, 49, 50, 51, 52, 53, 54, 55, 56, 57]⟩ 60)) B (HA.out.below ((FA.out.below).mono HB.out)))
        rw [← HP.out] at EC R
        obtain ⟨q, ok⟩ := p
        obtain ⟨⟨c0, c1, c2, c3, c4⟩, f0, f1, f2, f3, f4⟩ := FA.out.cells
        have okey : ok = false ∨ ok = true := by cases ok <;> simp
        rcases okey with rfl | rfl
        · go_wp2_with fail
          refine C.out.mono ?_
          rintro e w' ⟨rfl, rfl⟩
          go_wp2_with fail
          refine EC.out.mono ?_
          rintro e w' ⟨rfl, rfl⟩
          simp only [enV]
          go_wp2_with fail
          refine bodyPost_ret (v := .tuple #[ltV 0 0 0, fvV 3 q]) (by simp [results, Tryz.results26, go_sem, *]) rfl ?_
          exact ⟨by rw [R.out]; rfl, FA.out.set.below⟩
        · go_wp2_with fail
          refine C.out.mono ?_
          rintro e w' ⟨rfl, rfl⟩
          go_wp2_with fail
          refine EC.out.mono ?_
          rintro e w' ⟨rfl, rfl⟩
          simp only [enV]
          go_wp2_with fail
          refine bodyPost_ret (v := .tuple #[ltV 3 i q, fvV 0 0]) (by simp [results, Tryz.results26, go_sem, *]) rfl ?_
          exact ⟨by rw [R.out]; rfl, FA.out.set.below⟩
    · have hix := form_4 wr
      have FA := Lib.hid (FW.out.on (wy := wr.alloc (fmO ⟨#[34]⟩ 61)) ((Below.refl _ _).alloc (Nat.le_refl _) _))
      have C := Lib.hid (stands_is n c i (x := i) (v := b4) (wr.alloc (fmO ⟨#[34]⟩ 61)) HF.out.quote Hn.out (HA.out.below ((FA.out.below).mono HB.out)) hm rfl H4.out)
      have bkey : b4 = false ∨ b4 = true := by cases b4 <;> simp
      rcases bkey with rfl | rfl
      · have NO2 : Hid ((0 < 5 → b0 = false) ∧ (1 < 5 → b1 = false) ∧ (2 < 5 → b2 = false) ∧ (3 < 5 → b3 = false) ∧ (4 < 5 → false = false)) := Lib.hid ⟨fun _ => NO.out.1 (by omega), fun _ => NO.out.2.1 (by omega), fun _ => NO.out.2.2.1 (by omega), fun _ => NO.out.2.2.2.1 (by omega), fun _ => rfl⟩
        go_wp2_with fail
        refine C.out.mono ?_
        rintro e w' ⟨rfl, rfl⟩
        go_wp2_with fail
        go_roundw
        case rel => exact ⟨5, by simp, by go_num, FA, NO2⟩
        case measure => simp [intOf]
      · have R := Lib.hid (nx_en4 HI.out H4.out.symm)
        obtain ⟨p, HP⟩ : ∃ p, Hid (p = en l i 4) := ⟨_, rfl⟩
        have EC := Lib.hid (E4.out (wr.alloc (fmO ⟨#[34]⟩ 61)) B (HA.out.below ((FA.out.below).mono HB.out)))
        rw [← HP.out] at EC R
        obtain ⟨q, ok⟩ := p
        obtain ⟨⟨c0, c1, c2, c3, c4⟩, f0, f1, f2, f3, f4⟩ := FA.out.cells
        have okey : ok = false ∨ ok = true := by cases ok <;> simp
        rcases okey with rfl | rfl
        · go_wp2_with fail
          refine C.out.mono ?_
          rintro e w' ⟨rfl, rfl⟩
          go_wp2_with fail
          refine EC.out.mono ?_
          rintro e w' ⟨rfl, rfl⟩
          simp only [enV]
          go_wp2_with fail
          refine bodyPost_ret (v := .tuple #[ltV 0 0 0, fvV 3 q]) (by simp [results, Tryz.results26, go_sem, *]) rfl ?_
          exact ⟨by rw [R.out]; rfl, FA.out.set.below⟩
        · go_wp2_with fail
          refine C.out.mono ?_
          rintro e w' ⟨rfl, rfl⟩
          go_wp2_with fail
          refine EC.out.mono ?_
          rintro e w' ⟨rfl, rfl⟩
          simp only [enV]
          go_wp2_with fail
          refine bodyPost_ret (v := .tuple #[ltV 4 i q, fvV 0 0]) (by simp [results, Tryz.results26, go_sem, *]) rfl ?_
          exact ⟨by rw [R.out]; rfl, FA.out.set.below⟩
    · have R := Lib.hid (nx_en5 (H0.out.symm.trans (NO.out.1 (by omega))) (H1.out.symm.trans (NO.out.2.1 (by omega))) (H2.out.symm.trans (NO.out.2.2.1 (by omega))) (H3.out.symm.trans (NO.out.2.2.2.1 (by omega))) (H4.out.symm.trans (NO.out.2.2.2.2 (by omega))))
      obtain ⟨⟨c0, c1, c2, c3, c4⟩, f0, f1, f2, f3, f4⟩ := FW.out.cells
      go_wp2_with fail
      refine bodyPost_ret (v := .tuple #[ltV 0 0 0, fvV 3 i]) (by simp [results, Tryz.results26, go_sem, *]) rfl ?_
      exact ⟨by rw [R.out], FW.out.set.below⟩
end
end Jk
end Go.Proofs.YtdclhepjoifpiaaGreatDoor
/- The document's Read: all tokens, and the first fault. -/
namespace Go.Proofs.YtdclhepjoifpiaaGreatDoor
open Go.RowKit
namespace Jk

/-- What Read leaves. -/
def RdP (kd : IntKind) (ty : TypeId) (w : World) (l : List UInt8) (e : Ending) (w' : World) : Prop :=
  ∃ v, e = .returned (.tuple #[v, ftV (tks l 0).2]) ∧ w'.ownsRow w.heap.size ty 3 v (tks l 0).1.length (tkL kd (tks l 0).1) ∧ Below w.heap.size w w'
/-- What holds at each round's head. -/
structure RR (kd : IntKind) (ty : TypeId) (w : World) (l : List UInt8) (i : Nat) (v : Value) (ts : List Tok) (wr : World) : Prop where
  all : tks l 0 = (ts ++ (tks l i).1, (tks l i).2)
  few : ts.length ≤ i
  own : wr.ownsRow (w.heap.size + 1) ty 3 v ts.length (tkL kd ts)
  fb : FB w wr 0 0
section
variable {kd : IntKind} {ty : TypeId} {w wr : World} {l : List UInt8} {i : Nat} {v : Value} {ts : List Tok}
theorem RR.start (h : FB w wr 0 0) : RR kd ty w l 0 (.slice none 0 0) [] wr := ⟨by simp, Nat.le_refl _, World.ownsRow_nil _ _ _ _, h⟩
theorem RR.next (h : RR kd ty w l i v ts wr) {k m : Nat} (ht : TK (l.drop i) k m) {v2 : Value} {w1 W2' w3 : World} {o o2 : Obj} {c a : Int} {news : List Value} (hb : Below wr.heap.size wr w1) (hw : W2 w1 W2' o c a)
    (hn : news = tkC kd (k, i, i + m)) (h5 : w3.ownsRow (w.heap.size + 1) ty 3 v2 (ts.length + 1) (tkL kd ts ++ news)) (h6 : (W2'.alloc o2).grownBy w3 v.ownBlock) : RR kd ty w l (i + m) v2 (ts ++ [(k, i, i + m)]) w3 := by
  obtain ⟨h1, h2, h3, h4⟩ := h
  subst hn
  have hm := (tk_len ht).1
  rw [tks_tok ht] at h1
  refine ⟨by rw [h1]; simp, by rw [List.length_append, List.length_singleton]; omega, ?_, ((((h4.on hb).on hw.below).alloc o2).grown h6 fun g e => (h3.lt g e).1)⟩
  rw [tkL_app, List.length_append, List.length_singleton]
  simpa [tkL] using h5
theorem RR.done (h : RR kd ty w l i v ts wr) (hi : l.length ≤ i) : tks l 0 = (ts, none) := by rw [h.all, tks_end hi, List.append_nil]
theorem RR.stop (h : RR kd ty w l i v ts wr) (hi : i < l.length) {m : Nat} (hx : nx (l.drop i) = .bad m) : tks l 0 = (ts, some (i + m)) := by rw [h.all, tks_bad hi hx, List.append_nil]
end
section
variable {l : List UInt8} {A : Option Addr}
set_option maxHeartbeats 8000000 in
set_option maxRecDepth 100000 in
theorem rread_is (n c : Nat) {B : Nat} (w : World) (hn : n = l.length) (hnc : n ≤ c) (hc6 : c ≤ maxLen) (hA : Byt w B A l) (hB : B ≤ w.heap.size) (hm : n ≤ 1000000) :
    Calls Tryz.prog 23 #[.slice A n c] w (RdP .i64 72 w l) := by
  obtain ⟨i4, hi, hz0, hz1, hz2⟩ := info_parts (show (Tryz.prog.info? 72).map (fun i => (i.zero, i.size, i.bytes)) = some (some (.agg #[.int .i64 0, .int .i64 0, .int .i64 0]), 3, 24) by kernel_rfl)
  have Hn := Lib.hid hn
  have HA := Lib.hid hA
  have HB := Lib.hid hB
  have HC := Lib.hid (And.intro hnc hc6)
  have HM := Lib.hid hm
  have F0 := Lib.hid (RR.start (kd := .i64) (ty := 72) (l := l) (FB.start (w := w) (c := 0) (a := 0)))
  clear hn hA hB hnc hc6
  go_enter Tryz.func23, Tryz.ntmps23
  go_wp2_with fail
  go_loopw [4, 5, 6, 7] (fun v s _ _ wr => ∃ (i : Nat) (ts : List Tok), i ≤ n ∧ s = .int .i64 i ∧ Hid (RR .i64 72 w l i v ts wr)) (fun _ s _ _ _ => n - (intOf s).toNat)
  case atStart => exact ⟨0, [], Nat.zero_le _, rfl, F0⟩
  case round =>
    obtain ⟨i, ts, hin, rfl, HR⟩ := hrel
    clear F0
    by_cases hlt : i < n
    · have HLT := Lib.hid (show i < l.length by rw [← Hn.out]; exact hlt)
      have C := Lib.hid (rnext_is (A := A) (B := B) n c i (x := i) wr Hn.out HC.out.1 HC.out.2 (HA.out.below (HR.out.fb.below.mono HB.out)) (Nat.le_trans HB.out HR.out.fb.below.size) hm rfl)
      obtain ⟨r, HRX⟩ : ∃ r, Hid (r = nx (l.drop i)) := ⟨_, rfl⟩
      rw [← HRX.out] at C
      go_wp2_with fail
      refine C.out.mono ?_
      rintro e w1 ⟨rfl, hb1⟩
      have HB1 := Lib.hid hb1
      clear hb1 C
      cases r with
      | bad m =>
        have HT := Lib.hid (HR.out.stop HLT.out HRX.out.symm)
        simp only [nxA]
        go_upto_region 6 with fail
        have HW := Lib.hid (W2.start (W := w1) (o := rtO 0 0 0) (c := 3) (a := (i : Int) + m))
        obtain ⟨W', hW'⟩ : ∃ W', W' = (w1.alloc (rtO 0 0 0)).alloc (fvO 3 ((i : Int) + m)) := ⟨_, rfl⟩
        rw [← hW'] at HW ⊢
        have FW := Lib.hid ((HR.out.fb.on HB1.out).on HW.out.below)
        have OW := Lib.hid (own_below (own_below HR.out.own HB1.out (Nat.le_refl _)) HW.out.below (Nat.le_refl _))
        obtain ⟨g0, g1⟩ := HW.out.faults
        obtain ⟨⟨c0, c1⟩, f0, f1⟩ := FW.out.cells
        clear hW'
        go_region
        go_wp2_with fail
        refine bodyPost_ret (v := .tuple #[u4, fvV 3 ((i : Int) + m)]) (by simp [results, Tryz.results23, go_sem, *]) rfl ?_
        refine ⟨u4, by rw [HT.out]; rfl, ?_, (FW.out.set.below).drew⟩
        rw [HT.out]
        exact (own_base (own_set (own_set OW.out (by simp)) (by simp)) (Nat.le_succ _)).drew
      | tok k m =>
        have HT := Lib.hid (tk_of HRX.out.symm)
        have hml : i + m ≤ n := by
          have h1 := (tk_len HT.out).2
          rw [List.length_drop, ← Hn.out] at h1
          omega
        have hm0 : 0 < m := (tk_len HT.out).1
        simp only [nxA]
        go_upto_region 7 with fail
        have HW := Lib.hid (W2.start (W := w1) (o := rtO k i ((i : Int) + m)) (c := 0) (a := 0))
        obtain ⟨W', hW'⟩ : ∃ W', W' = (w1.alloc (rtO k i ((i : Int) + m))).alloc (fvO 0 0) := ⟨_, rfl⟩
        rw [← hW'] at HW ⊢
        have OW := Lib.hid (own_below (own_below HR.out.own HB1.out (Nat.le_refl _)) HW.out.below (Nat.le_refl _))
        obtain ⟨t0, t1, t2⟩ := HW.out.toks
        have hts : ts.length ≤ 1000000 := Nat.le_trans HR.out.few (by omega)
        have hws : w.heap.size + 1 ≤ (W'.alloc (.cells #[.int .i64 k, .int .i64 i, .int .i64 ((i : Int) + m)] 72)).heap.size := by
          have h1 := HR.out.fb.lt
          have h2 := HB1.out.size
          have h3 := HW.out.size
          have h4 := (World.grownBy_alloc W' (.cells #[.int .i64 k, .int .i64 i, .int .i64 ((i : Int) + m)] 72) none).size
          omega
        have HT2 : Hid (∀ w2, (W'.alloc (.cells #[.int .i64 k, .int .i64 i, .int .i64 ((i : Int) + m)] 72)).grownBy w2 u4.ownBlock → w2.cell? ⟨w1.heap.size, 2, none⟩ = some (.int .i64 ((i : Int) + m))) := Lib.hid fun w2 hg => by
          refine hg.cell (a := ⟨w1.heap.size, 2, none⟩) (by rw [World.cell?_alloc_lt _ _ _ (by have := HW.out.size; simp; omega)]; exact t2) (fun e => ?_)
          have h1 := (HR.out.own.lt w1.heap.size e.symm).2
          have h2 := HB1.out.size
          omega
        clear hW'
        go_wp2_with (at_builtin; refine wpList_append_own _ rfl (.tmp 23) (.tmp 25) 66 rfl (w.heap.size + 1) 72 i4 (.agg #[.int .i64 0, .int .i64 0, .int .i64 0]) 3 24 Tryz.underlying66 hi hz0 hz1 hz2 rfl (by decide) _ ts.length (tkL .i64 ts) rfl (OW.out.alloc _) ⟨W'.heap.size, 0, none⟩ 1 1 [.int .i64 k, .int .i64 i, .int .i64 ((i : Int) + m)] rfl rfl (cells_new _ _ rfl) (one3 _ _ _ _) (by unfold maxLen; omega) (by omega) hws ?_; intro v2 w2 hown2 hg2 _; have cT := HT2.out _ hg2)
        have N := Lib.hid (HR.out.next HT.out HB1.out HW.out (news := [.int .i64 k, .int .i64 i, .int .i64 ((i : Int) + m)]) rfl hown2 hg2)
        clear hown2 hg2
        go_roundw
        case rel => exact ⟨i + m, _, hml, by go_num, N⟩
        case measure => simp [intOf]; omega
    · obtain rfl : i = n := by omega
      have HT := Lib.hid (HR.out.done (by rw [← Hn.out]; exact Nat.le_refl _))
      have OW := HR.out.own
      obtain ⟨⟨c0, c1⟩, f0, f1⟩ := HR.out.fb.cells
      go_wp2_with fail
      refine bodyPost_ret (v := .tuple #[u4, fvV 0 0]) (by simp [results, Tryz.results23, go_sem, *]) rfl ?_
      refine ⟨u4, by rw [HT.out]; rfl, ?_, HR.out.fb.set.below⟩
      rw [HT.out]
      exact own_base (own_set (own_set OW (by simp)) (by simp)) (Nat.le_succ _)
end
end Jk
end Go.Proofs.YtdclhepjoifpiaaGreatDoor
/- What landed: Read: all tokens, and the first fault. -/
namespace Go.Proofs.YtdclhepjoifpiaaGreatDoor
open Go.RowKit
namespace Jk

/-- A row of tokens to read: from its block's first cell on. -/
def TkR (w : World) (base : Nat) (kd : IntKind) (ty : TypeId) (A : Option Addr) (N : Nat) (ts : List Tok) : Prop :=
  N = ts.length ∧ (0 < N → ∃ (g : Nat) (cur : Array Value), A = some ⟨g, 0, none⟩ ∧ base ≤ g ∧ w.heap[g]? = some (.cells cur ty (0, 0)) ∧ N * 3 ≤ cur.size ∧ ∀ (j : Nat) (u : Value), (tkL kd ts)[j]? = some u → cur[j]? = some u)
section
variable {w w' : World} {base : Nat} {kd : IntKind} {ty : TypeId} {v : Value} {A : Option Addr} {N : Nat} {ts : List Tok}
theorem own_tk (h : w.ownsRow base ty 3 v ts.length (tkL kd ts)) : ∃ A N c, v = .slice A N c ∧ N ≤ c ∧ c ≤ maxLen ∧ (A = none → c = 0) ∧ TkR w base kd ty A N ts := by
  rcases h.2 with ⟨rfl, h0⟩ | ⟨g, cap, cur, rfl, hb, hg, hnc, hcm, hs, ht⟩
  · exact ⟨none, 0, 0, rfl, Nat.le_refl _, Nat.zero_le _, fun _ => rfl, h0.symm, fun h => absurd h (by omega)⟩
  · refine ⟨_, _, _, rfl, hnc, hcm, fun h => (by cases h), rfl, fun _ => ⟨g, cur, rfl, hb, hg, by rw [hs]; exact Nat.mul_le_mul_right _ hnc, fun j u hu => ?_⟩⟩
    rw [← ht, List.getElem?_take] at hu
    split at hu
    · rwa [Array.getElem?_toList] at hu
    · cases hu
theorem TkR.below (h : TkR w base kd ty A N ts) {B : Nat} (hb : Below B w w') (hB : w.heap.size ≤ B) : TkR w' base kd ty A N ts := ⟨h.1, fun h0 => by
  obtain ⟨g, cur, e, hbg, hg, r⟩ := h.2 h0
  exact ⟨g, cur, e, hbg, by rw [hb.block g (by have := lt_blk hg; omega)]; exact hg, r⟩⟩
theorem TkR.set (h : TkR w base kd ty A N ts) {p : Addr} {u : Value} (hp : p.block < base) : TkR (w.setCell p u) base kd ty A N ts := ⟨h.1, fun h0 => by
  obtain ⟨g, cur, e, hbg, hg, r⟩ := h.2 h0
  exact ⟨g, cur, e, hbg, by rw [heap_setCell_other w p g u (by omega)]; exact hg, r⟩⟩
theorem TkR.low (h : TkR w base kd ty A N ts) {b : Nat} (hb : b ≤ base) : TkR w b kd ty A N ts := ⟨h.1, fun h0 => by
  obtain ⟨g, cur, e, hbg, r⟩ := h.2 h0
  exact ⟨g, cur, e, by omega, r⟩⟩
theorem TkR.drew (h : TkR w base kd ty A N ts) : TkR w.drew base kd ty A N ts := h
/-- The cells of a token of it. -/
theorem TkR.at_ (h : TkR w base kd ty A N ts) (h0 : 0 < N) : ∃ g, A = some ⟨g, 0, none⟩ ∧ base ≤ g ∧ ∀ k t, ts[k]? = some t → w.cell? ⟨g, k * 3, none⟩ = some (.int kd (t.1 : Int)) ∧ w.cell? ⟨g, k * 3 + 1, none⟩ = some (.int .i64 (t.2.1 : Int)) ∧ w.cell? ⟨g, k * 3 + 2, none⟩ = some (.int .i64 (t.2.2 : Int)) := by
  obtain ⟨g, cur, e, hbg, hg, _, r⟩ := h.2 h0
  refine ⟨g, e, hbg, fun k t ht => ?_⟩
  obtain ⟨a, b, c⟩ := tkL_at kd ts k t ht
  refine ⟨?_, ?_, ?_⟩
  · rw [cell_of_row w g _ cur ty (0, 0) hg]; exact r _ _ a
  · rw [cell_of_row w g _ cur ty (0, 0) hg]; exact r _ _ b
  · rw [cell_of_row w g _ cur ty (0, 0) hg]; exact r _ _ c
theorem clip_is {c : Nat} (w : World) (hNc : N ≤ c) (hcm : c ≤ maxLen) (hnil : A = none → c = 0) :
    Calls Tryz.prog 27 #[.slice A N c] w fun e w' => e = .returned (.slice A N N) ∧ w = w' := by
  unfold maxLen at hcm
  cases A with
  | none =>
    obtain rfl := hnil rfl
    obtain rfl : N = 0 := by omega
    go_enter Tryz.func27, Tryz.ntmps27
    go_wp2_with fail
    go_ret
    exact ⟨rfl, rfl⟩
  | some a =>
    clear hnil
    go_enter Tryz.func27, Tryz.ntmps27
    go_wp2_with fail
    go_ret
    exact ⟨rfl, rfl⟩
end
/-- What Read leaves. -/
def RdL (kd : IntKind) (ty : TypeId) (w : World) (l : List UInt8) (e : Ending) (w' : World) : Prop :=
  ∃ A N c, e = .returned (.tuple #[.slice A N c, ftV (tks l 0).2]) ∧ N ≤ c ∧ c ≤ maxLen ∧ TkR w' w.heap.size kd ty A N (tks l 0).1 ∧ Below w.heap.size w w'
section
variable {l : List UInt8} {A : Option Addr}
set_option maxHeartbeats 8000000 in
set_option maxRecDepth 100000 in
theorem lread_is (n c : Nat) {B : Nat} (w : World) (hF : Forms) (hn : n = l.length) (hnc : n ≤ c) (hc6 : c ≤ maxLen) (hA : Byt w B A l) (hB : B ≤ w.heap.size) (hm : n ≤ 1000000) :
    Calls Tryz.prog 16 #[.slice A n c] w (RdL .u8 52 w l) := by
  obtain ⟨i4, hi, hz0, hz1, hz2⟩ := info_parts (show (Tryz.prog.info? 52).map (fun i => (i.zero, i.size, i.bytes)) = some (some (.agg #[.int .u8 0, .int .i64 0, .int .i64 0]), 3, 24) by kernel_rfl)
  have HF := Lib.hid hF
  have Hn := Lib.hid hn
  have HA := Lib.hid hA
  have HB := Lib.hid hB
  have HC := Lib.hid (And.intro hnc hc6)
  have HM := Lib.hid hm
  have F0 := Lib.hid (RR.start (kd := .u8) (ty := 52) (l := l) (FB.start (w := w) (c := 0) (a := 0)))
  clear hF hn hA hB hnc hc6
  go_enter Tryz.func16, Tryz.ntmps16
  go_wp2_with fail
  go_loopw [4, 5, 6, 7] (fun v s _ _ wr => ∃ (i : Nat) (ts : List Tok), i ≤ n ∧ s = .int .i64 i ∧ Hid (RR .u8 52 w l i v ts wr)) (fun _ s _ _ _ => n - (intOf s).toNat)
  case atStart => exact ⟨0, [], Nat.zero_le _, rfl, F0⟩
  case round =>
    obtain ⟨i, ts, hin, rfl, HR⟩ := hrel
    clear F0
    by_cases hlt : i < n
    · have HLT := Lib.hid (show i < l.length by rw [← Hn.out]; exact hlt)
      have C := Lib.hid (lnext_in (A := A) (B := B) n c i (x := i) wr HF.out Hn.out HC.out.1 HC.out.2 (HA.out.below (HR.out.fb.below.mono HB.out)) (Nat.le_trans HB.out HR.out.fb.below.size) hm rfl HLT.out)
      obtain ⟨r, HRX⟩ : ∃ r, Hid (r = nx (l.drop i)) := ⟨_, rfl⟩
      rw [← HRX.out] at C
      go_wp2_with fail
      refine C.out.mono ?_
      rintro e w1 ⟨rfl, hb1⟩
      have HB1 := Lib.hid hb1
      clear hb1 C
      cases r with
      | bad m =>
        have HT := Lib.hid (HR.out.stop HLT.out HRX.out.symm)
        simp only [lnA]
        go_upto_region 6 with fail
        have HW := Lib.hid (W2.start (W := w1) (o := ltO 0 0 0) (c := 3) (a := (i : Int) + m))
        obtain ⟨W', hW'⟩ : ∃ W', W' = (w1.alloc (ltO 0 0 0)).alloc (fvO 3 ((i : Int) + m)) := ⟨_, rfl⟩
        rw [← hW'] at HW ⊢
        have FW := Lib.hid ((HR.out.fb.on HB1.out).on HW.out.below)
        have OW := Lib.hid (own_below (own_below HR.out.own HB1.out (Nat.le_refl _)) HW.out.below (Nat.le_refl _))
        obtain ⟨g0, g1⟩ := HW.out.faults
        obtain ⟨⟨c0, c1⟩, f0, f1⟩ := FW.out.cells
        obtain ⟨A4, N4, c4, hu4, hNc4, hcm4, hnil4, TK4⟩ := own_tk OW.out
        have CL := Lib.hid (fun w => clip_is (A := A4) (N := N4) (c := c4) w hNc4 hcm4 hnil4)
        have TK := Lib.hid TK4
        have HCM := Lib.hid (Nat.le_trans hNc4 hcm4)
        clear hW' hcm4 hNc4 TK4
        subst hu4
        go_region_with (go_at_call 27; refine (CL.out _).mono ?_; rintro e w' ⟨rfl, rfl⟩)
        all_goals
          go_wp2_with fail
          refine bodyPost_ret (v := .tuple #[.slice A4 N4 N4, fvV 3 ((i : Int) + m)]) (by simp [results, Tryz.results16, go_sem, *]) rfl ?_
          refine ⟨A4, N4, N4, by rw [HT.out]; rfl, Nat.le_refl _, HCM.out, ?_, (FW.out.set.below).drew⟩
          rw [HT.out]
          exact (((TK.out.set (by simp)).set (by simp)).low (Nat.le_succ _)).drew
      | tok k m =>
        have HT := Lib.hid (tk_of HRX.out.symm)
        have hml : i + m ≤ n := by
          have h1 := (tk_len HT.out).2
          rw [List.length_drop, ← Hn.out] at h1
          omega
        have hm0 : 0 < m := (tk_len HT.out).1
        simp only [lnA]
        go_upto_region 7 with fail
        have HW := Lib.hid (W2.start (W := w1) (o := ltO k i ((i : Int) + m)) (c := 0) (a := 0))
        obtain ⟨W', hW'⟩ : ∃ W', W' = (w1.alloc (ltO k i ((i : Int) + m))).alloc (fvO 0 0) := ⟨_, rfl⟩
        rw [← hW'] at HW ⊢
        have OW := Lib.hid (own_below (own_below HR.out.own HB1.out (Nat.le_refl _)) HW.out.below (Nat.le_refl _))
        obtain ⟨t0, t1, t2⟩ := HW.out.toks
        have hts : ts.length ≤ 1000000 := Nat.le_trans HR.out.few (by omega)
        have hws : w.heap.size + 1 ≤ (W'.alloc (.cells #[.int .u8 k, .int .i64 i, .int .i64 ((i : Int) + m)] 52)).heap.size := by
          have h1 := HR.out.fb.lt
          have h2 := HB1.out.size
          have h3 := HW.out.size
          have h4 := (World.grownBy_alloc W' (.cells #[.int .u8 k, .int .i64 i, .int .i64 ((i : Int) + m)] 52) none).size
          omega
        have HT2 : Hid (∀ w2, (W'.alloc (.cells #[.int .u8 k, .int .i64 i, .int .i64 ((i : Int) + m)] 52)).grownBy w2 u4.ownBlock → w2.cell? ⟨w1.heap.size, 2, none⟩ = some (.int .i64 ((i : Int) + m))) := Lib.hid fun w2 hg => by
          refine hg.cell (a := ⟨w1.heap.size, 2, none⟩) (by rw [World.cell?_alloc_lt _ _ _ (by have := HW.out.size; simp; omega)]; exact t2) (fun e => ?_)
          have h1 := (HR.out.own.lt w1.heap.size e.symm).2
          have h2 := HB1.out.size
          omega
        clear hW'
        go_wp2_with (at_builtin; refine wpList_append_own _ rfl (.tmp 24) (.tmp 26) 47 rfl (w.heap.size + 1) 52 i4 (.agg #[.int .u8 0, .int .i64 0, .int .i64 0]) 3 24 Tryz.underlying47 hi hz0 hz1 hz2 rfl (by decide) _ ts.length (tkL .u8 ts) rfl (OW.out.alloc _) ⟨W'.heap.size, 0, none⟩ 1 1 [.int .u8 k, .int .i64 i, .int .i64 ((i : Int) + m)] rfl rfl (cells_new _ _ rfl) (one3 _ _ _ _) (by unfold maxLen; omega) (by omega) hws ?_; intro v2 w2 hown2 hg2 _; have cT := HT2.out _ hg2)
        have N := Lib.hid (HR.out.next HT.out HB1.out HW.out (news := [.int .u8 k, .int .i64 i, .int .i64 ((i : Int) + m)]) rfl hown2 hg2)
        clear hown2 hg2
        go_roundw
        case rel => exact ⟨i + m, _, hml, by go_num, N⟩
        case measure => simp [intOf]; omega
    · obtain rfl : i = n := by omega
      have HT := Lib.hid (HR.out.done (by rw [← Hn.out]; exact Nat.le_refl _))
      obtain ⟨A4, N4, c4, hu4, hNc4, hcm4, hnil4, TK4⟩ := own_tk HR.out.own
      have CL := Lib.hid (fun w => clip_is (A := A4) (N := N4) (c := c4) w hNc4 hcm4 hnil4)
      have TK := Lib.hid TK4
      have HCM := Lib.hid (Nat.le_trans hNc4 hcm4)
      clear hcm4 hNc4 TK4
      subst hu4
      obtain ⟨⟨c0, c1⟩, f0, f1⟩ := HR.out.fb.cells
      go_wp2_with fail
      refine (CL.out _).mono ?_
      rintro e w' ⟨rfl, rfl⟩
      go_wp2_with fail
      refine bodyPost_ret (v := .tuple #[.slice A4 N4 N4, fvV 0 0]) (by simp [results, Tryz.results16, go_sem, *]) rfl ?_
      refine ⟨A4, N4, N4, by rw [HT.out]; rfl, Nat.le_refl _, HCM.out, ?_, HR.out.fb.set.below⟩
      rw [HT.out]
      exact ((TK.out.set (by simp)).set (by simp)).low (Nat.le_succ _)
end
end Jk
end Go.Proofs.YtdclhepjoifpiaaGreatDoor
