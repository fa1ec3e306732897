/- What landed: the next token, walked. -/
import Derived.Test.YtfnahondlcbjnaaUh
namespace Go.Proofs.Ytfnahondlcbjnaa
open Go.RowKit
namespace Jk
section
variable {l : List UInt8} {A : Option Addr}
set_option maxHeartbeats 8000000 in
set_option maxRecDepth 100000 in
theorem lnext_neg (n c : Nat) {x : Int} (w : World) (hx : x < 0) :
    Calls Try.prog 10 #[.slice A n c, .int .i64 x] w fun e w' => e = .returned (.tuple #[ltV 0 0 0, fvV 3 0]) ∧ Below w.heap.size w w' := by
  have F0 := Lib.hid (RL.start (w := w) (k := 0) (i := 0) (j := 0) (c := 3) (a := 0))
  go_enter Try.func10, Try.ntmps10
  go_wp2_with fail
  refine bodyPost_ret (v := .tuple #[ltV 0 0 0, fvV 3 0]) (by simp [results, Try.results10, go_sem, *]) rfl ?_
  exact ⟨rfl, F0.out.below⟩
set_option maxHeartbeats 16000000 in
set_option maxRecDepth 100000 in
theorem lnext_far (n c i : Nat) {B : Nat} {x : Int} (w : World) (hF : Forms) (hn : n = l.length) (hA : Byt w B A l) (hB : B ≤ w.heap.size) (hm : n ≤ 1000000) (hx : x = i) (hi : l.length ≤ i) :
    Calls Try.prog 10 #[.slice A n c, .int .i64 x] w fun e w' => e = .returned (.tuple #[ltV 0 0 0, fvV 3 x]) ∧ Below w.heap.size w w' := by
  have hb0 : bt l i = 0 := bt_far hi
  have HB0 := Lib.hid hb0
  have h0 : ¬ x < 0 := by omega
  have HF := Lib.hid hF
  have Hn := Lib.hid hn
  have HA := Lib.hid hA
  have HB := Lib.hid hB
  have HX := Lib.hid hx
  have F0 := Lib.hid (RL.start (w := w) (k := 0) (i := 0) (j := 0) (c := 0) (a := 0))
  clear hF hn hA hB hb0 hi hx
  go_enter Try.func10, Try.ntmps10
  go_wp2_with fail
  refine (forms_is _).mono ?_
  rintro e w1 ⟨rfl, hb1⟩
  have F1 := Lib.hid (F0.out.on hb1)
  clear hb1
  go_wp2_with fail
  go_loopw [6, 7, 8, 9, 15] (fun _ _ _ _ v wx => ∃ m : Nat, (m = 0 ∨ m = 1 ∨ m = 2 ∨ m = 3 ∨ m = 4 ∨ m = 5) ∧ v = .int .i64 m ∧ Hid (RL w wx 0 0 0 0 0)) (fun _ _ _ _ v _ => 5 - (intOf v).toNat)
  case atStart => exact ⟨0, .inl rfl, rfl, F1⟩
  case round =>
    obtain ⟨m, hm5, rfl, FW⟩ := hrel
    have sz := FW.out.below.size
    rcases hm5 with rfl | rfl | rfl | rfl | rfl | rfl
    · have hix := form_0 wr
      have FA := Lib.hid (FW.out.on (wy := wr.alloc (fmO ⟨#[32, 9, 10, 13]⟩ 24)) ((Below.refl _ _).alloc (Nat.le_refl _) _))
      go_wp2_with fail
      refine (stands_is n c i (v := false) _ HF.out.blanks Hn.out (HA.out.below ((FA.out.below).mono HB.out)) hm HX.out (by rw [HB0.out]; rfl)).mono ?_
      rintro e w' ⟨rfl, rfl⟩
      go_wp2_with fail
      go_roundw
      case rel => exact ⟨1, by simp, by go_num, FA⟩
      case measure => simp [intOf]
    · have hix := form_1 wr
      have FA := Lib.hid (FW.out.on (wy := wr.alloc (fmO ⟨#[123, 125, 91, 93, 44, 58]⟩ 25)) ((Below.refl _ _).alloc (Nat.le_refl _) _))
      go_wp2_with fail
      refine (stands_is n c i (v := false) _ HF.out.marks Hn.out (HA.out.below ((FA.out.below).mono HB.out)) hm HX.out (by rw [HB0.out]; rfl)).mono ?_
      rintro e w' ⟨rfl, rfl⟩
      go_wp2_with fail
      go_roundw
      case rel => exact ⟨2, by simp, by go_num, FA⟩
      case measure => simp [intOf]
    · have hix := form_2 wr
      have FA := Lib.hid (FW.out.on (wy := wr.alloc (fmO ⟨#[97, 98, 99, 100, 101, 102, 103, 104, 105, 106, 107, 108, 109, 110, 111, 112, 113, 114, 115, 116, 117, 118, 119, 120, 121, 122]⟩ 26)) ((Below.refl _ _).alloc (Nat.le_refl _) _))
      go_wp2_with fail
      refine (stands_is n c i (v := false) _ HF.out.letters Hn.out (HA.out.below ((FA.out.below).mono HB.out)) hm HX.out (by rw [HB0.out]; rfl)).mono ?_
      rintro e w' ⟨rfl, rfl⟩
      go_wp2_with fail
      go_roundw
      case rel => exact ⟨3, by simp, by go_num, FA⟩
      case measure => simp [intOf]
    · have hix := form_3 wr
      have FA := Lib.hid (FW.out.on (wy := wr.alloc (fmO ⟨#[45, 48, 49, 50, 51, 52, 53, 54, 55, 56, 57]⟩ 27)) ((Below.refl _ _).alloc (Nat.le_refl _) _))
      go_wp2_with fail
      refine (stands_is n c i (v := false) _ HF.out.nums Hn.out (HA.out.below ((FA.out.below).mono HB.out)) hm HX.out (by rw [HB0.out]; rfl)).mono ?_
      rintro e w' ⟨rfl, rfl⟩
      go_wp2_with fail
      go_roundw
      case rel => exact ⟨4, by simp, by go_num, FA⟩
      case measure => simp [intOf]
    · have hix := form_4 wr
      have FA := Lib.hid (FW.out.on (wy := wr.alloc (fmO ⟨#[34]⟩ 28)) ((Below.refl _ _).alloc (Nat.le_refl _) _))
      go_wp2_with fail
      refine (stands_is n c i (v := false) _ HF.out.quote Hn.out (HA.out.below ((FA.out.below).mono HB.out)) hm HX.out (by rw [HB0.out]; rfl)).mono ?_
      rintro e w' ⟨rfl, rfl⟩
      go_wp2_with fail
      go_roundw
      case rel => exact ⟨5, by simp, by go_num, FA⟩
      case measure => simp [intOf]
    · obtain ⟨⟨c0, c1, c2, c3, c4⟩, f0, f1, f2, f3, f4⟩ := FW.out.cells
      go_wp2_with fail
      refine bodyPost_ret (v := .tuple #[ltV 0 0 0, fvV 3 x]) (by simp [results, Try.results10, go_sem, *]) rfl ?_
      exact ⟨rfl, FW.out.set.below⟩
set_option maxHeartbeats 16000000 in
set_option maxRecDepth 100000 in
theorem lnext_in (n c i : Nat) {B : Nat} {x : Int} (w : World) (hF : Forms) (hn : n = l.length) (hnc : n ≤ c) (hc6 : c ≤ maxLen) (hA : Byt w B A l) (hB : B ≤ w.heap.size) (hm : n ≤ 1000000) (hx : x = i) (hi : i < l.length) :
    Calls Try.prog 10 #[.slice A n c, .int .i64 x] w fun e w' => e = .returned (lnA i (nx (l.drop i))) ∧ Below w.heap.size w w' := by
  subst hx
  have HF := Lib.hid hF
  have Hn := Lib.hid hn
  have HI := Lib.hid hi
  have HA := Lib.hid hA
  have HB := Lib.hid hB
  have hi6 : i ≤ 1000000 := by omega
  have E0 := Lib.hid (end0 (A := A) (c := c) hn hm hi hF)
  have E1 := Lib.hid (end1 (A := A) (c := c) hn hm hi)
  have E2 := Lib.hid (end2 (A := A) hn hm hi hF hnc hc6)
  have E3 := Lib.hid (end3 (A := A) (c := c) hn hm hi hF)
  have E4 := Lib.hid (end4 (A := A) (c := c) hn hm hi hF)
  have F0 := Lib.hid (RL.start (w := w) (k := 0) (i := 0) (j := 0) (c := 0) (a := 0))
  obtain ⟨b0, H0⟩ : ∃ b, Hid (b = spc (bt l i)) := ⟨_, rfl⟩
  obtain ⟨b1, H1⟩ : ∃ b, Hid (b = mrk (bt l i)) := ⟨_, rfl⟩
  obtain ⟨b2, H2⟩ : ∃ b, Hid (b = ltr (bt l i)) := ⟨_, rfl⟩
  obtain ⟨b3, H3⟩ : ∃ b, Hid (b = (decide (bt l i = 45) || dg (bt l i))) := ⟨_, rfl⟩
  obtain ⟨b4, H4⟩ : ∃ b, Hid (b = decide (bt l i = 34)) := ⟨_, rfl⟩
  clear hF hn hA hB hi hc6 hnc
  go_enter Try.func10, Try.ntmps10
  go_wp2_with fail
  refine (forms_is _).mono ?_
  rintro e w1 ⟨rfl, hb1⟩
  have F1 := Lib.hid (F0.out.on hb1)
  clear hb1
  go_wp2_with fail
  go_loopw [6, 7, 8, 9, 15] (fun _ _ _ _ v wx => ∃ m : Nat, (m = 0 ∨ m = 1 ∨ m = 2 ∨ m = 3 ∨ m = 4 ∨ m = 5) ∧ v = .int .i64 m ∧ Hid (RL w wx 0 0 0 0 0) ∧ Hid ((0 < m → b0 = false) ∧ (1 < m → b1 = false) ∧ (2 < m → b2 = false) ∧ (3 < m → b3 = false) ∧ (4 < m → b4 = false))) (fun _ _ _ _ v _ => 5 - (intOf v).toNat)
  case atStart => exact ⟨0, .inl rfl, rfl, F1, Lib.hid ⟨fun h => absurd h (by omega), fun h => absurd h (by omega), fun h => absurd h (by omega), fun h => absurd h (by omega), fun h => absurd h (by omega)⟩⟩
  case round =>
    obtain ⟨m, hm5, rfl, FW, NO⟩ := hrel
    have sz := FW.out.below.size
    rcases hm5 with rfl | rfl | rfl | rfl | rfl | rfl
    · have hix := form_0 wr
      have FA := Lib.hid (FW.out.on (wy := wr.alloc (fmO ⟨#[32, 9, 10, 13]⟩ 24)) ((Below.refl _ _).alloc (Nat.le_refl _) _))
      have C := Lib.hid (stands_is n c i (x := i) (v := b0) (wr.alloc (fmO ⟨#[32, 9, 10, 13]⟩ 24)) HF.out.blanks Hn.out (HA.out.below ((FA.out.below).mono HB.out)) hm rfl H0.out)
      have bkey : b0 = false ∨ b0 = true := by cases b0 <;> simp
      rcases bkey with rfl | rfl
      · have NO2 : Hid ((0 < 1 → false = false) ∧ (1 < 1 → b1 = false) ∧ (2 < 1 → b2 = false) ∧ (3 < 1 → b3 = false) ∧ (4 < 1 → b4 = false)) := Lib.hid ⟨fun _ => rfl, fun h => absurd h (by omega), fun h => absurd h (by omega), fun h => absurd h (by omega), fun h => absurd h (by omega)⟩
        go_wp2_with fail
        refine C.out.mono ?_
        rintro e w' ⟨rfl, rfl⟩
        go_wp2_with fail
        go_roundw
        case rel => exact ⟨1, by simp, by go_num, FA, NO2⟩
        case measure => simp [intOf]
      · have R := Lib.hid (nx_en0 H0.out.symm)
        obtain ⟨p, HP⟩ : ∃ p, Hid (p = en l i 0) := ⟨_, rfl⟩
        have EC := Lib.hid (E0.out (wr.alloc (fmO ⟨#[32, 9, 10, 13]⟩ 24)) B (HA.out.below ((FA.out.below).mono HB.out)))
        rw [← HP.out] at EC R
        obtain ⟨q, ok⟩ := p
        obtain ⟨⟨c0, c1, c2, c3, c4⟩, f0, f1, f2, f3, f4⟩ := FA.out.cells
        have okey : ok = false ∨ ok = true := by cases ok <;> simp
        rcases okey with rfl | rfl
        · go_wp2_with fail
          refine C.out.mono ?_
          rintro e w' ⟨rfl, rfl⟩
          go_wp2_with fail
          refine EC.out.mono ?_
          rintro e w' ⟨rfl, rfl⟩
          simp only [enV]
          go_wp2_with fail
          refine bodyPost_ret (v := .tuple #[ltV 0 0 0, fvV 3 q]) (by simp [results, Try.results10, go_sem, *]) rfl ?_
          exact ⟨by rw [R.out]; rfl, FA.out.set.below⟩
        · go_wp2_with fail
          refine C.out.mono ?_
          rintro e w' ⟨rfl, rfl⟩
          go_wp2_with fail
          refine EC.out.mono ?_
          rintro e w' ⟨rfl, rfl⟩
          simp only [enV]
          go_wp2_with fail
          refine bodyPost_ret (v := .tuple #[ltV 0 i q, fvV 0 0]) (by simp [results, Try.results10, go_sem, *]) rfl ?_
          exact ⟨by rw [R.out]; rfl, FA.out.set.below⟩
    · have hix := form_1 wr
      have FA := Lib.hid (FW.out.on (wy := wr.alloc (fmO ⟨#[123, 125, 91, 93, 44, 58]⟩ 25)) ((Below.refl _ _).alloc (Nat.le_refl _) _))
      have C := Lib.hid (stands_is n c i (x := i) (v := b1) (wr.alloc (fmO ⟨#[123, 125, 91, 93, 44, 58]⟩ 25)) HF.out.marks Hn.out (HA.out.below ((FA.out.below).mono HB.out)) hm rfl H1.out)
      have bkey : b1 = false ∨ b1 = true := by cases b1 <;> simp
      rcases bkey with rfl | rfl
      · have NO2 : Hid ((0 < 2 → b0 = false) ∧ (1 < 2 → false = false) ∧ (2 < 2 → b2 = false) ∧ (3 < 2 → b3 = false) ∧ (4 < 2 → b4 = false)) := Lib.hid ⟨fun _ => NO.out.1 (by omega), fun _ => rfl, fun h => absurd h (by omega), fun h => absurd h (by omega), fun h => absurd h (by omega)⟩
        go_wp2_with fail
        refine C.out.mono ?_
        rintro e w' ⟨rfl, rfl⟩
        go_wp2_with fail
        go_roundw
        case rel => exact ⟨2, by simp, by go_num, FA, NO2⟩
        case measure => simp [intOf]
      · have R := Lib.hid (nx_en1 H1.out.symm)
        obtain ⟨p, HP⟩ : ∃ p, Hid (p = en l i 1) := ⟨_, rfl⟩
        have EC := Lib.hid (E1.out (wr.alloc (fmO ⟨#[123, 125, 91, 93, 44, 58]⟩ 25)) B (HA.out.below ((FA.out.below).mono HB.out)))
        rw [← HP.out] at EC R
        obtain ⟨q, ok⟩ := p
        obtain ⟨⟨c0, c1, c2, c3, c4⟩, f0, f1, f2, f3, f4⟩ := FA.out.cells
        have okey : ok = false ∨ ok = true := by cases ok <;> simp
        rcases okey with rfl | rfl
        · go_wp2_with fail
          refine C.out.mono ?_
          rintro e w' ⟨rfl, rfl⟩
          go_wp2_with fail
          refine EC.out.mono ?_
          rintro e w' ⟨rfl, rfl⟩
          simp only [enV]
          go_wp2_with fail
          refine bodyPost_ret (v := .tuple #[ltV 0 0 0, fvV 3 q]) (by simp [results, Try.results10, go_sem, *]) rfl ?_
          exact ⟨by rw [R.out]; rfl, FA.out.set.below⟩
        · go_wp2_with fail
          refine C.out.mono ?_
          rintro e w' ⟨rfl, rfl⟩
          go_wp2_with fail
          refine EC.out.mono ?_
          rintro e w' ⟨rfl, rfl⟩
          simp only [enV]
          go_wp2_with fail
          refine bodyPost_ret (v := .tuple #[ltV 1 i q, fvV 0 0]) (by simp [results, Try.results10, go_sem, *]) rfl ?_
          exact ⟨by rw [R.out]; rfl, FA.out.set.below⟩
    · have hix := form_2 wr
      have FA := Lib.hid (FW.out.on (wy := wr.alloc (fmO ⟨#[97, 98, 99, 100, 101, 102, 103, 104, 105, 106, 107, 108, 109, 110, 111, 112, 113, 114, 115, 116, 117, 118, 119, 120, 121, 122]⟩ 26)) ((Below.refl _ _).alloc (Nat.le_refl _) _))
      have C := Lib.hid (stands_is n c i (x := i) (v := b2) (wr.alloc (fmO ⟨#[97, 98, 99, 100, 101, 102, 103, 104, 105, 106, 107, 108, 109, 110, 111, 112, 113, 114, 115, 116, 117, 118, 119, 120, 121, 122]⟩ 26)) HF.out.letters Hn.out (HA.out.below ((FA.out.below).mono HB.out)) hm rfl H2.out)
      have bkey : b2 = false ∨ b2 = true := by cases b2 <;> simp
      rcases bkey with rfl | rfl
      · have NO2 : Hid ((0 < 3 → b0 = false) ∧ (1 < 3 → b1 = false) ∧ (2 < 3 → false = false) ∧ (3 < 3 → b3 = false) ∧ (4 < 3 → b4 = false)) := Lib.hid ⟨fun _ => NO.out.1 (by omega), fun _ => NO.out.2.1 (by omega), fun _ => rfl, fun h => absurd h (by omega), fun h => absurd h (by omega)⟩
        go_wp2_with fail
        refine C.out.mono ?_
        rintro e w' ⟨rfl, rfl⟩
        go_wp2_with fail
        go_roundw
        case rel => exact ⟨3, by simp, by go_num, FA, NO2⟩
        case measure => simp [intOf]
      · have R := Lib.hid (nx_en2 H2.out.symm)
        obtain ⟨p, HP⟩ : ∃ p, Hid (p = en l i 2) := ⟨_, rfl⟩
        have EC := Lib.hid (E2.out (wr.alloc (fmO ⟨#[97, 98, 99, 100, 101, 102, 103, 104, 105, 106, 107, 108, 109, 110, 111, 112, 113, 114, 115, 116, 117, 118, 119, 120, 121, 122]⟩ 26)) B (HA.out.below ((FA.out.below).mono HB.out)))
        rw [← HP.out] at EC R
        obtain ⟨q, ok⟩ := p
        obtain ⟨⟨c0, c1, c2, c3, c4⟩, f0, f1, f2, f3, f4⟩ := FA.out.cells
        have okey : ok = false ∨ ok = true := by cases ok <;> simp
        rcases okey with rfl | rfl
        · go_wp2_with fail
          refine C.out.mono ?_
          rintro e w' ⟨rfl, rfl⟩
          go_wp2_with fail
          refine EC.out.mono ?_
          rintro e w' ⟨rfl, rfl⟩
          simp only [enV]
          go_wp2_with fail
          refine bodyPost_ret (v := .tuple #[ltV 0 0 0, fvV 3 q]) (by simp [results, Try.results10, go_sem, *]) rfl ?_
          exact ⟨by rw [R.out]; rfl, FA.out.set.below⟩
        · go_wp2_with fail
          refine C.out.mono ?_
          rintro e w' ⟨rfl, rfl⟩
          go_wp2_with fail
          refine EC.out.mono ?_
          rintro e w' ⟨rfl, rfl⟩
          simp only [enV]
          go_wp2_with fail
          refine bodyPost_ret (v := .tuple #[ltV 2 i q, fvV 0 0]) (by simp [results, Try.results10, go_sem, *]) rfl ?_
          exact ⟨by rw [R.out]; rfl, FA.out.set.below⟩
    · have hix := form_3 wr
      have FA := Lib.hid (FW.out.on (wy := wr.alloc (fmO ⟨#[45, 48, 49, 50, 51, 52, 53, 54, 55, 56, 57]⟩ 27)) ((Below.refl _ _).alloc (Nat.le_refl _) _))
      have C := Lib.hid (stands_is n c i (x := i) (v := b3) (wr.alloc (fmO ⟨#[45, 48, 49, 50, 51, 52, 53, 54, 55, 56, 57]⟩ 27)) HF.out.nums Hn.out (HA.out.below ((FA.out.below).mono HB.out)) hm rfl H3.out)
      have bkey : b3 = false ∨ b3 = true := by cases b3 <;> simp
      rcases bkey with rfl | rfl
      · have NO2 : Hid ((0 < 4 → b0 = false) ∧ (1 < 4 → b1 = false) ∧ (2 < 4 → b2 = false) ∧ (3 < 4 → false = false) ∧ (4 < 4 → b4 = false)) := Lib.hid ⟨fun _ => NO.out.1 (by omega), fun _ => NO.out.2.1 (by omega), fun _ => NO.out.2.2.1 (by omega), fun _ => rfl, fun h => absurd h (by omega)⟩
        go_wp2_with fail
        refine C.out.mono ?_
        rintro e w' ⟨rfl, rfl⟩
        go_wp2_with fail
        go_roundw
        case rel => exact ⟨4, by simp, by go_num, FA, NO2⟩
        case measure => simp [intOf]
      · have R := Lib.hid (nx_en3 H3.out.symm)
        obtain ⟨p, HP⟩ : ∃ p, Hid (p = en l i 3) := ⟨_, rfl⟩
        have EC := Lib.hid (E3.out (wr.alloc (fmO ⟨#[45, 48, 49, 50, 51, 52, 53, 54, 55, 56, 57]⟩ 27)) B (HA.out.below ((FA.out.below).mono HB.out)))
        rw [← HP.out] at EC R
        obtain ⟨q, ok⟩ := p
        obtain ⟨⟨c0, c1, c2, c3, c4⟩, f0, f1, f2, f3, f4⟩ := FA.out.cells
        have okey : ok = false ∨ ok = true := by cases ok <;> simp
        rcases okey with rfl | rfl
        · go_wp2_with fail
          refine C.out.mono ?_
          rintro e w' ⟨rfl, rfl⟩
          go_wp2_with fail
          refine EC.out.mono ?_
          rintro e w' ⟨rfl, rfl⟩
          simp only [enV]
          go_wp2_with fail
          refine bodyPost_ret (v := .tuple #[ltV 0 0 0, fvV 3 q]) (by simp [results, Try.results10, go_sem, *]) rfl ?_
          exact ⟨by rw [R.out]; rfl, FA.out.set.below⟩
        · go_wp2_with fail
          refine C.out.mono ?_
          rintro e w' ⟨rfl, rfl⟩
          go_wp2_with fail
          refine EC.out.mono ?_
          rintro e w' ⟨rfl, rfl⟩
          simp only [enV]
          go_wp2_with fail
          refine bodyPost_ret (v := .tuple #[ltV 3 i q, fvV 0 0]) (by simp [results, Try.results10, go_sem, *]) rfl ?_
          exact ⟨by rw [R.out]; rfl, FA.out.set.below⟩
    · have hix := form_4 wr
      have FA := Lib.hid (FW.out.on (wy := wr.alloc (fmO ⟨#[34]⟩ 28)) ((Below.refl _ _).alloc (Nat.le_refl _) _))
      have C := Lib.hid (stands_is n c i (x := i) (v := b4) (wr.alloc (fmO ⟨#[34]⟩ 28)) HF.out.quote Hn.out (HA.out.below ((FA.out.below).mono HB.out)) hm rfl H4.out)
      have bkey : b4 = false ∨ b4 = true := by cases b4 <;> simp
      rcases bkey with rfl | rfl
      · have NO2 : Hid ((0 < 5 → b0 = false) ∧ (1 < 5 → b1 = false) ∧ (2 < 5 → b2 = false) ∧ (3 < 5 → b3 = false) ∧ (4 < 5 → false = false)) := Lib.hid ⟨fun _ => NO.out.1 (by omega), fun _ => NO.out.2.1 (by omega), fun _ => NO.out.2.2.1 (by omega), fun _ => NO.out.2.2.2.1 (by omega), fun _ => rfl⟩
        go_wp2_with fail
        refine C.out.mono ?_
        rintro e w' ⟨rfl, rfl⟩
        go_wp2_with fail
        go_roundw
        case rel => exact ⟨5, by simp, by go_num, FA, NO2⟩
        case measure => simp [intOf]
      · have R := Lib.hid (nx_en4 HI.out H4.out.symm)
        obtain ⟨p, HP⟩ : ∃ p, Hid (p = en l i 4) := ⟨_, rfl⟩
        have EC := Lib.hid (E4.out (wr.alloc (fmO ⟨#[34]⟩ 28)) B (HA.out.below ((FA.out.below).mono HB.out)))
        rw [← HP.out] at EC R
        obtain ⟨q, ok⟩ := p
        obtain ⟨⟨c0, c1, c2, c3, c4⟩, f0, f1, f2, f3, f4⟩ := FA.out.cells
        have okey : ok = false ∨ ok = true := by cases ok <;> simp
        rcases okey with rfl | rfl
        · go_wp2_with fail
          refine C.out.mono ?_
          rintro e w' ⟨rfl, rfl⟩
          go_wp2_with fail
          refine EC.out.mono ?_
          rintro e w' ⟨rfl, rfl⟩
          simp only [enV]
          go_wp2_with fail
          refine bodyPost_ret (v := .tuple #[ltV 0 0 0, fvV 3 q]) (by simp [results, Try.results10, go_sem, *]) rfl ?_
          exact ⟨by rw [R.out]; rfl, FA.out.set.below⟩
        · go_wp2_with fail
          refine C.out.mono ?_
          rintro e w' ⟨rfl, rfl⟩
          go_wp2_with fail
          refine EC.out.mono ?_
          rintro e w' ⟨rfl, rfl⟩
          simp only [enV]
          go_wp2_with fail
          refine bodyPost_ret (v := .tuple #[ltV 4 i q, fvV 0 0]) (by simp [results, Try.results10, go_sem, *]) rfl ?_
          exact ⟨by rw [R.out]; rfl, FA.out.set.below⟩
    · have R := Lib.hid (nx_en5 (H0.out.symm.trans (NO.out.1 (by omega))) (H1.out.symm.trans (NO.out.2.1 (by omega))) (H2.out.symm.trans (NO.out.2.2.1 (by omega))) (H3.out.symm.trans (NO.out.2.2.2.1 (by omega))) (H4.out.symm.trans (NO.out.2.2.2.2 (by omega))))
      obtain ⟨⟨c0, c1, c2, c3, c4⟩, f0, f1, f2, f3, f4⟩ := FW.out.cells
      go_wp2_with fail
      refine bodyPost_ret (v := .tuple #[ltV 0 0 0, fvV 3 i]) (by simp [results, Try.results10, go_sem, *]) rfl ?_
      exact ⟨by rw [R.out], FW.out.set.below⟩
end
end Jk
end Go.Proofs.Ytfnahondlcbjnaa
