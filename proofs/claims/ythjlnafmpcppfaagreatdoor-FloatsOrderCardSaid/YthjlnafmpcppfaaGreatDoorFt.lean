/- The law FloatsMarks, walked. -/
import Derived.Test.YthjlnafmpcppfaaGreatDoorFs
import Derived.Deep.RegionHeld3
namespace Go.Proofs.YthjlnafmpcppfaaGreatDoor
open Go.RowKit
namespace Fl

set_option maxHeartbeats 8000000 in
set_option maxRecDepth 100000 in
theorem marks_any (s : ByteArray) {x : Int} (x0 : 0 ≤ x) (x1 : x ≤ 65535) (w : World) (hT : AllT w) : Calls Tryz.prog 6 #[.string s, .int .u16 x] w fun e w' => e = .returned (.bool true) ∧ Below w.heap.size w w' := by
  have HL := Lib.hid flives_any
  have HB0 := Lib.hid (Below.refl w.heap.size w)
  have HT := Lib.hid hT
  clear hT
  by_cases h1 : s.size ≤ 300
  · by_cases h0 : s.size = 0
    · go_enter Tryz.func6, Tryz.ntmps6
      go_wp2_with fail
      refine (HL.out _ (HT.out.below HB0.out)).mono ?_
      rintro e w1 ⟨rfl, hb⟩
      have HB1 := Lib.hid (II.below_tr HB0.out hb)
      clear hb
      go_wp2_with fail
      go_ret
      exact ⟨rfl, HB1.out⟩
    · obtain ⟨l, hl⟩ : ∃ l, l = s.data.toList := ⟨_, rfl⟩
      have hs : s = txt l := by rw [hl]; exact as_txt s
      have zs : s.size = l.length := by rw [hs, txt_size]
      have la : l.length ≤ 300 := by omega
      clear hl
      obtain ⟨i, hi⟩ : ∃ i : Nat, (i : Int) = x % ((s.size : Int) + 1) := ⟨(x % ((s.size : Int) + 1)).toNat, by have := Int.emod_nonneg x (show (s.size : Int) + 1 ≠ 0 by omega); omega⟩
      have hile : i ≤ s.size := by have := Int.emod_lt_of_pos x (show (0 : Int) < (s.size : Int) + 1 by omega); omega
      obtain ⟨T, hTT⟩ : ∃ T, T = txt (rdF l).1 := ⟨_, rfl⟩
      obtain ⟨c, hc⟩ : ∃ c, c = (rdF l).2 := ⟨_, rfl⟩
      have C1 := Lib.hid (fun w h => fread_is (l := l) w hs (by omega) h)
      rw [← hTT, ← hc] at C1
      obtain ⟨P, hP⟩ : ∃ P, P = s.extract 0 i ++ ⟨#[95]⟩ ++ s.extract i s.size := ⟨_, rfl⟩
      have C2 := Lib.hid (fun w h => fread_is (l := ins l i) (s := P) w (by
        rw [hP, hs, txt_take, txt_drop, show (⟨#[95]⟩ : ByteArray) = txt [95] from rfl, txt_app, txt_app]; congr 1; simp [ins]) (by unfold ins; simp; omega) h)
      have hins := rdF_ins (l := l) (i := i) (by omega)
      obtain ⟨U, hU⟩ : ∃ U, U = txt (rdF (ins l i)).1 := ⟨_, rfl⟩
      obtain ⟨d, hd⟩ : ∃ d, d = (rdF (ins l i)).2 := ⟨_, rfl⟩
      rw [← hU, ← hd] at C2
      have EY := Lib.hid (show btw l i = true → U = T ∧ d = c from fun h => by rw [hU, hd, hins, if_pos h, hTT, hc]; exact ⟨rfl, rfl⟩)
      have EN := Lib.hid (show btw l i = false → U = ⟨#[]⟩ ∧ d = 3 from fun h => by rw [hU, hd, hins, if_neg (by rw [h]; simp)]; exact ⟨rfl, rfl⟩)
      have EW := Lib.hid (show c = 3 → T = ⟨#[]⟩ from fun h => by rw [hTT, rdF_wrong (by rw [← hc, h]; decide)]; rfl)
      clear hins hU hd
      have h0' : ((s.size : Int) == 0) = false := by simpa using h0
      have HS := Lib.hid hs
      have HII := Lib.hid hi
      have HTT := Lib.hid hTT
      have HC := Lib.hid hc
      have HZ := Lib.hid zs
      clear hs la hi hTT hc h0 zs
      go_enter Tryz.func6, Tryz.ntmps6
      go_wp2_with fail
      refine (C1.out _ (HT.out.below HB0.out)).mono ?_
      rintro e w1 ⟨rfl, hb⟩
      have HB1 := Lib.hid (II.below_tr HB0.out hb)
      clear hb
      go_upto_region 5 with fail
      rw [← HII.out]
      obtain ⟨a, ha⟩ : ∃ a, s.extract 0 i = a := ⟨_, rfl⟩
      obtain ⟨d0, hd0⟩ : ∃ d, s.extract i s.size = d := ⟨_, rfl⟩
      obtain ⟨b, hb0⟩ : ∃ b, a ++ (⟨#[95]⟩ : ByteArray) = b := ⟨_, rfl⟩
      have hP' : b ++ d0 = P := by rw [← hb0, ← ha, ← hd0]; exact hP.symm
      have za : a.size ≤ 300 := by rw [← ha, ByteArray.size_extract]; omega
      have zd : d0.size ≤ 300 := by rw [← hd0, ByteArray.size_extract]; omega
      have zb : b.size ≤ 301 := by
        rw [← hb0, ByteArray.size_append]
        have : (⟨#[95]⟩ : ByteArray).size = 1 := rfl
        omega
      have n1 : ¬ (9223372036854775807 < a.size + 1) := by omega
      have n1' : ¬ (9223372036854775806 < a.size) := by omega
      have n2 : ¬ (9223372036854775807 < b.size + d0.size) := by omega
      clear hP
      have hB1 := HB1.out
      go_region_held3 (fun wx => Below w.heap.size w wx)
        (((try go_split_ands); first | assumption | exact Below.drew (by assumption) | (exact II.below_tr (by assumption) hb)))
        (((try go_split_ands); go_at_call 9; refine (C2.out _ (HT.out.below (by assumption))).mono ?_; rintro e w1 ⟨rfl, hb⟩))
      rename_i hB2
      have HB2 := Lib.hid hB2
      clear hB2 hP' C1 C2 n1 n1' n2 ha hd0 hb0 za zd zb
      go_upto_region 6 with fail
      go_cut [10] (fun v wx => v = .bool (btw l i) ∧ Below w.heap.size w wx)
      case first =>
        clear EY EN EW
        by_cases i0 : i = 0
        · have E := Lib.hid (show btw l i = false by rw [i0]; rfl)
          subst i0
          go_wp2_with fail
          go_meet
          exact ⟨by rw [E.out], HB2.out⟩
        · obtain ⟨j, rfl⟩ : ∃ j, i = j + 1 := ⟨i - 1, by omega⟩
          have hx := txt_at HS.out (k := j)
          obtain ⟨y, hy⟩ : ∃ y, y = bt l j := ⟨_, rfl⟩
          rw [← hy] at hx
          have hjs : j < s.size := by omega
          by_cases hlt : j + 1 < s.size
          · have hx2 := txt_at HS.out (k := j + 1)
            obtain ⟨z, hz⟩ : ∃ z, z = bt l (j + 1) := ⟨_, rfl⟩
            rw [← hz] at hx2
            have E0 := Lib.hid (show btw l (j + 1) = (nmr y && nmr z) by unfold btw; rw [Nat.add_sub_cancel, ← hy, ← hz]; simp)
            clear hy hz i0 HII
            by_cases g1 : 48 ≤ y
            · by_cases g2 : y ≤ 57
              · by_cases g3 : 48 ≤ z
                · by_cases g4 : z ≤ 57
                  · have E := Lib.hid (show btw l (j + 1) = true by rw [E0.out]; simp [nmr, g1, g2, g3, g4])
                    go_wp2_with fail
                    go_meet
                    exact ⟨by rw [E.out], HB2.out⟩
                  · have E := Lib.hid (show btw l (j + 1) = false by rw [E0.out, nmr_no (c := z) (by omega)]; simp)
                    go_wp2_with fail
                    go_meet
                    exact ⟨by rw [E.out], HB2.out⟩
                · have E := Lib.hid (show btw l (j + 1) = false by rw [E0.out, nmr_no (c := z) (by omega)]; simp)
                  go_wp2_with fail
                  go_meet
                  exact ⟨by rw [E.out], HB2.out⟩
              · have E := Lib.hid (show btw l (j + 1) = false by rw [E0.out, nmr_no (c := y) (by omega)]; simp)
                go_wp2_with fail
                go_meet
                exact ⟨by rw [E.out], HB2.out⟩
            · have E := Lib.hid (show btw l (j + 1) = false by rw [E0.out, nmr_no (c := y) (by omega)]; simp)
              go_wp2_with fail
              go_meet
              exact ⟨by rw [E.out], HB2.out⟩
          · have E := Lib.hid (show btw l (j + 1) = false by unfold btw; rw [bt_far (k := j + 1) (by have := HZ.out; omega)]; simp [nmr])
            clear hy i0 HII
            go_wp2_with fail
            go_meet
            exact ⟨by rw [E.out], HB2.out⟩
      case rest =>
        obtain ⟨rfl, hb⟩ := hcut
        have HB3 := Lib.hid hb
        clear hb HII
        by_cases h3 : c = 3
        · have E := Lib.hid (EW.out h3)
          rw [E.out]
          subst h3
          clear EY EN EW
          go_wp2_with fail
          refine (HL.out _ (HT.out.below HB3.out)).mono ?_
          rintro e w4 ⟨rfl, hb⟩
          have HB4 := Lib.hid (II.below_tr HB3.out hb)
          clear hb
          go_wp2_with fail
          go_ret
          exact ⟨rfl, HB4.out⟩
        · have h3' : (c == 3) = false := by simpa using h3
          clear h3 EW
          cases hbt : btw l i
          · have E := Lib.hid (EN.out hbt)
            rw [E.out.1, E.out.2]
            clear EY EN hbt
            go_wp2_with fail
            refine (HL.out _ (HT.out.below HB3.out)).mono ?_
            rintro e w4 ⟨rfl, hb⟩
            have HB4 := Lib.hid (II.below_tr HB3.out hb)
            clear hb
            go_wp2_with fail
            go_ret
            exact ⟨rfl, HB4.out⟩
          · have E := Lib.hid (EY.out hbt)
            rw [E.out.1, E.out.2]
            clear EY EN hbt
            go_wp2_with fail
            refine (HL.out _ (HT.out.below HB3.out)).mono ?_
            rintro e w4 ⟨rfl, hb⟩
            have HB4 := Lib.hid (II.below_tr HB3.out hb)
            clear hb
            go_wp2_with fail
            go_ret
            exact ⟨rfl, HB4.out⟩
  · go_enter Tryz.func6, Tryz.ntmps6
    go_wp2_with fail
    refine (HL.out _ (HT.out.below HB0.out)).mono ?_
    rintro e w1 ⟨rfl, hb⟩
    have HB1 := Lib.hid (II.below_tr HB0.out hb)
    clear hb
    go_wp2_with fail
    go_ret
    exact ⟨rfl, HB1.out⟩
end Fl
end Go.Proofs.YthjlnafmpcppfaaGreatDoor
