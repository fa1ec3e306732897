/- The document's next token: letters, up to where the word is cut out. -/
import Derived.Test.YtfnahondlcbjnaaTh
import Derived.Test.YtfnahondlcbjnaaConv
import Derived.Lib.Strings
namespace Go.Proofs.Ytfnahondlcbjnaa
open Go.RowKit
namespace Jk

/-- The letters of a place, as a text. -/
theorem word_cut {l : List UInt8} {i : Nat} : (l.drop i).take (rw ltr (l.drop i)) = (l.take (i + rw ltr (l.drop i))).drop i := by
  rw [List.drop_take, Nat.add_sub_cancel_left]
theorem cut_two {w : World} {B : Nat} {b off : Nat} {l : List UInt8} (hA : Byt w B (some ⟨b, off, none⟩) l) {i j : Nat} (hi : i ≤ j) (hj : j ≤ l.length) : Byt w B (some ⟨b, off + i, none⟩) ((l.take j).drop i) :=
  (hA.take j).cutAt (by rw [List.length_take]; omega)
section
variable {l : List UInt8} {A : Option Addr}
set_option maxHeartbeats 8000000 in
set_option maxRecDepth 100000 in
theorem rnext_word (n c i : Nat) {B : Nat} {x : Int} (w : World) (hn : n = l.length) (hnc : n ≤ c) (_hc6 : c ≤ maxLen) (hA : Byt w B A l) (hB : B ≤ w.heap.size) (hm : n ≤ 1000000) (hx : x = i) (hi : ltr (bt l i) = true) :
    Calls Try.prog 11 #[.slice A n c, .int .i64 x] w fun e w' => e = .returned (nxA i (nx (l.drop i))) ∧ Below w.heap.size w w' := by
  have hm0 := ltr_v.1 hi
  have hil : i < l.length := bt_in (by omega)
  unfold maxLen at _hc6
  have E := Lib.hid (show nxA i (nx (l.drop i)) = nxA i (if words ((l.drop i).take (rw ltr (l.drop i))) = true then .tok 2 (rw ltr (l.drop i)) else .bad 0) by
    rw [nx_letter (by rw [bt_drop, Nat.add_zero]; exact hi)])
  have HA := Lib.hid (byt_two hA hB (rtO 0 0 0) (fvO 0 0))
  obtain ⟨b, off, rfl, hb, hc⟩ := hA.at_ hil
  have k0 := hc i hil
  have hbw : b < w.heap.size := by omega
  obtain ⟨d, hd⟩ : ∃ d, d = bt l i := ⟨_, rfl⟩
  rw [← hd] at k0 hi hm0
  obtain ⟨hlo, hhi⟩ := hm0
  have S := Lib.hid (fun w => rsp_is (c := d) (b := false) w (by rw [spc_no]; omega))
  have k1 : ((w.alloc (rtO 0 0 0)).alloc (fvO 0 0)).cell? ⟨b, off + i, none⟩ = some (.int .u8 d) := by
    rw [World.cell?_alloc_lt _ _ _ (by simp; omega), World.cell?_alloc_lt _ _ _ (by simpa using hbw)]; exact k0
  have h0 : ¬ x < 0 := by omega
  have h1 : ¬ (n : Int) ≤ x := by omega
  have hin : i < n := by omega
  have q1 : (d == 123) = false := by simp; omega
  have q2 : (d == 125) = false := by simp; omega
  have q3 : (d == 91) = false := by simp; omega
  have q4 : (d == 93) = false := by simp; omega
  have q5 : (d == 44) = false := by simp; omega
  have q6 : (d == 58) = false := by simp; omega
  subst hx
  have Hn := Lib.hid hn
  clear hn hA hB hi hil hc hd k0 hb
  go_enter Try.func11, Try.ntmps11
  go_wp2_with (go_at_call 19; refine (S.out _).mono ?_; rintro e w' ⟨rfl, rfl⟩)
  go_loop [7] (fun v => ∃ j : Nat, v = .int .i64 j ∧ i ≤ j ∧ j ≤ n ∧ j + rw ltr (l.drop j) = i + rw ltr (l.drop i)) (fun v => n - (intOf v).toNat)
  case atStart => exact ⟨i, rfl, Nat.le_refl _, by omega, rfl⟩
  case round =>
    obtain ⟨j, rfl, hij, hj, hs⟩ := hrel
    have HS := Lib.hid hs
    clear hs
    have G := Lib.hid (rw_at (p := ltr) ltr0 (l := l) (k := j))
    obtain ⟨d2, Hb⟩ : ∃ b, Hid (b = bt l j) := ⟨_, rfl⟩
    by_cases hd : ltr d2 = true
    · have hlt : j < n := by
        have : j < l.length := bt_in (by rw [← Hb.out]; have := ltr_v.1 hd; omega)
        have := Hn.out; omega
      have e : rw ltr (l.drop j) = rw ltr (l.drop (j + 1)) + 1 := by rw [G.out, ← Hb.out, if_pos hd]
      have E2 := Lib.hid e
      obtain ⟨hd1, hd2⟩ := ltr_v.1 hd
      clear e hd
      go_wp2_with (go_at_call 20; refine (rat_is n c j (v := d2) _ Hn.out HA.out rfl Hb.out).mono ?_; rintro e w' ⟨rfl, rfl⟩)
      go_round
      case rel => exact ⟨j + 1, by go_num, by omega, by omega, by have := HS.out; have := E2.out; omega⟩
      case measure => simp [intOf]; omega
    · have hd' : ¬ (97 ≤ d2 ∧ d2 ≤ 122) := fun g => hd (ltr_v.2 g)
      have e : rw ltr (l.drop j) = 0 := by rw [G.out, ← Hb.out, ltr_no hd']; rfl
      have hj2 : i + rw ltr (l.drop i) = j := by have := HS.out; omega
      have E := E.out
      rw [word_cut, hj2, show rw ltr (l.drop i) = j - i by omega] at E
      obtain ⟨t, ht⟩ : ∃ t, t = (l.take j).drop i := ⟨_, rfl⟩
      have hcv := conv_bytes (l := (l.take j).drop i) (w := (w.alloc (rtO 0 0 0)).alloc (fvO 0 0)) (j - i) (c - i) (by have := Hn.out; simp; omega) (cut_two HA.out hij (by have := Hn.out; omega))
      rw [← ht] at E hcv
      clear ht
      have hcase : (97 ≤ d2 ∧ ¬ d2 ≤ 122) ∨ ¬ 97 ≤ d2 := by omega
      have HD : Hid (¬ (97 ≤ d2 ∧ d2 ≤ 122)) := Lib.hid hd'
      clear hd hd' e
      by_cases hw : words t = true
      · rw [if_pos hw] at E
        have E := Lib.hid E
        have hv : t = [116, 114, 117, 101] ∨ t = [102, 97, 108, 115, 101] ∨ t = [110, 117, 108, 108] := by simpa [words] using hw
        clear hw
        have F0 := Lib.hid (RS.start (w := w) (k := 2) (i := i) (j := j) (c := 0) (a := 0))
        rcases hv with rfl | rfl | rfl <;> rcases hcase with ⟨g1, g2⟩ | g1
        all_goals
          simp only [txt] at hcv
          go_wp2_with (go_at_call 20; refine (rat_is n c j (v := d2) _ Hn.out HA.out rfl Hb.out).mono ?_; rintro e w' ⟨rfl, rfl⟩)
          refine bodyPost_ret (v := .tuple #[rtV 2 i j, fvV 0 0]) (by simp [results, Try.results11, go_sem, *]) rfl ?_
          exact ⟨by (try rw [E.out]); simp only [nxA]; rw [show i + (j - i) = j by omega]; rfl, F0.out.below⟩
      · have hv : ¬ (t = [116, 114, 117, 101] ∨ t = [102, 97, 108, 115, 101] ∨ t = [110, 117, 108, 108]) := by simpa [words] using hw
        rw [if_neg hw] at E
        have E := Lib.hid E
        clear hw
        obtain ⟨U, hU⟩ : ∃ U, U = txt t := ⟨_, rfl⟩
        have hne : ∀ m : List UInt8, t ≠ m → ¬ U.toList = m := fun m hm => by
          rw [hU, Lib.toList_data]
          exact hm
        have u1 := hne _ (fun e => hv (.inl e))
        have u2 := hne _ (fun e => hv (.inr (.inl e)))
        have u3 := hne _ (fun e => hv (.inr (.inr e)))
        rw [← hU] at hcv
        clear hU hne hv
        have F0 := Lib.hid (RS.start (w := w) (k := 0) (i := 0) (j := 0) (c := 0) (a := 0))
        rcases hcase with ⟨g1, g2⟩ | g1
        all_goals
          go_wp2_with first
            | (go_at_call 20; refine (rat_is n c j (v := d2) _ Hn.out HA.out rfl Hb.out).mono ?_; rintro e w' ⟨rfl, rfl⟩)
          refine (rsyn_is _ _).mono ?_
          rintro e w1 ⟨rfl, hb⟩
          have F1 := Lib.hid (F0.out.on hb)
          clear hb
          obtain ⟨⟨c0, c1, c2, c3, c4⟩, f0, f1, f2, f3, f4⟩ := F1.out.cells
          go_wp2_with fail
          refine bodyPost_ret (v := .tuple #[rtV 0 0 0, fvV 3 i]) (by simp [results, Try.results11, go_sem, *]) rfl ?_
          exact ⟨by (try rw [E.out]); simp only [nxA, Nat.add_zero], F1.out.set.below⟩
          all_goals
            have hq : ((!U.toList == [116, 114, 117, 101]) = false ∨ (!U.toList == [102, 97, 108, 115, 101]) = false) ∨ (!U.toList == [110, 117, 108, 108]) = false := by assumption
            rcases hq with (hq | hq) | hq <;> rw [Bool.not_eq_false', beq_iff_eq] at hq
            · exact absurd hq u1
            · exact absurd hq u2
            · exact absurd hq u3
end
end Jk
end Go.Proofs.Ytfnahondlcbjnaa
