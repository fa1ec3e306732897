/- The law QuotesCut, walked. -/
import Derived.Test.YtilokhbhkbikiaaDoorLawLives
namespace Go.Proofs.YtilokhbhkbikiaaDoor
open Go.RowKit

theorem below_tr {w w1 w2 : World} (h : Below w.heap.size w w1) (k : Below w1.heap.size w1 w2) : Below w.heap.size w w2 := h.trans (k.mono h.size)
theorem flB_bad {r : Qu.Res} {hf : Bool} {a : Nat} (h : r = .bad hf a) : flB r (if hf = true then 6 else 3) (a : Int) = true := by rw [h, flB]; simp
set_option maxHeartbeats 8000000 in
set_option maxRecDepth 100000 in
theorem lawcut_any (s m : ByteArray) (w : World) (hT : Tab w) : Calls Tryd.prog 7 #[.string s, .string m] w fun e w' => e = .returned (.bool true) ∧ Below w.heap.size w w' := by
  have HL := Lib.hid lives_any
  have HT := Lib.hid hT
  clear hT
  by_cases h : s.size ≤ 300
  · by_cases h2 : m.size ≤ 300
    · obtain ⟨l, hl⟩ : ∃ l, l = s.data.toList := ⟨_, rfl⟩
      obtain ⟨k, hk⟩ : ∃ k, k = m.data.toList := ⟨_, rfl⟩
      have HS := Lib.hid (show s = txt l by rw [hl]; exact as_txt s)
      have HM := Lib.hid (show m = txt k by rw [hk]; exact as_txt m)
      have HZ := Lib.hid (show s.size = l.length by rw [hl, as_len])
      have HLN := Lib.hid (show l.length ≤ 300 by rw [hl, as_len]; exact h)
      have HKN := Lib.hid (show k.length ≤ 300 by rw [hk, as_len]; exact h2)
      have HSM := Lib.hid (show s ++ m = txt (l ++ k) by rw [← txt_app, hl, hk, ← as_txt s, ← as_txt m])
      have G0 := Lib.hid (show decide ((300 : Int) < (s.size : Int)) = false from decide_eq_false (by omega))
      have G1 := Lib.hid (show decide ((300 : Int) < (m.size : Int)) = false from decide_eq_false (by omega))
      obtain ⟨r, hr⟩ : ∃ r, r = Qu.rdq l := ⟨_, rfl⟩
      have HR := Lib.hid hr
      clear hl hk hr
      go_enter Tryd.func7, Tryd.ntmps7
      go_wp2_with fail
      refine (qread_is _ HS.out (by have := HLN.out; omega) HR.out HT.out).mono ?_
      rintro e w1 ⟨rfl, hb⟩
      cases r with
      | ok t =>
        obtain ⟨S, hS⟩ : ∃ S, txt t = S := ⟨_, rfl⟩
        rw [rval, hS]
        clear hS
        have HB1 := Lib.hid (hb.alloc hb.size (.cells #[.int .i64 0, .int .i64 0] 26))
        clear hb
        go_wp2_with fail
        rw [G0.out, G1.out, Bool.or_self]
        go_loopw [7] (fun v wr => ∃ j : Nat, j ≤ s.size ∧ v = .int .i64 j ∧ Below w.heap.size w wr) (fun v _ => s.size - (intOf v).toNat)
        case atStart => exact ⟨0, Nat.zero_le _, rfl, HB1.out⟩
        case round =>
          obtain ⟨j, hj, rfl, hbr⟩ := hrel
          have HBR := Lib.hid hbr
          clear hbr
          by_cases hlt : j < s.size
          · have HX := Lib.hid (show s.extract 0 j = txt (l.take j) by rw [HS.out, txt_cut]; rfl)
            have hc := Qu.rdq_cut HR.out.symm (i := j) (by rw [← HZ.out]; exact hlt)
            obtain ⟨q, hq⟩ : ∃ q, q = Qu.rdq (l.take j) := ⟨_, rfl⟩
            rw [← hq] at hc
            have HQ := Lib.hid hq
            clear hq
            go_wp2_with fail
            refine (qread_is _ HX.out (by have := HLN.out; simp; omega) HQ.out (HT.out.below HBR.out)).mono ?_
            rintro e w2 ⟨rfl, hb⟩
            have HB2 := Lib.hid (below_tr HBR.out hb)
            clear hb
            rcases hc with rfl | ⟨a, rfl, ha1, ha2⟩
            · rw [rval]
              go_wp2_with fail
              go_roundw
              case rel => exact ⟨j + 1, by omega, by go_num, HB2.out.alloc HB2.out.size _⟩
              case measure => simp [intOf]; omega
            · rw [rval]
              have e1 : ¬ (j : Int) ≤ a := by omega
              have e2 : ¬ (12 : Int) ≤ (j : Int) - a := by omega
              go_wp2_with fail
              go_roundw
              case rel => exact ⟨j + 1, by omega, by go_num, HB2.out.alloc HB2.out.size _⟩
              case measure => simp [intOf]; omega
          · obtain rfl : j = s.size := by omega
            clear hlt
            by_cases hm : k = []
            · have hme : m.toList.isEmpty = true := by rw [empty_txt HM.out]; simp [hm]
              go_wp2_with fail
              refine (HL.out _ (HT.out.below HBR.out)).mono ?_
              rintro e w2 ⟨rfl, hb⟩
              have HB2 := Lib.hid (below_tr HBR.out hb)
              clear hb
              go_wp2_with fail
              go_ret
              exact ⟨rfl, HB2.out⟩
            · have hme : m.toList.isEmpty = false := by rw [empty_txt HM.out]; simp [hm]
              have HFL := Lib.hid (show true = flB (Qu.rdq (l ++ k)) 3 (s.size : Int) by rw [HZ.out]; exact (flB_bad (Qu.rdq_behind HR.out.symm hm)).symm)
              clear hm
              go_wp2_with fail
              refine (fault_any 3 _ _ HSM.out (by have := HLN.out; have := HKN.out; simp; omega) (by omega) HFL.out (HT.out.below HBR.out)).mono ?_
              rintro e w2 ⟨rfl, hb⟩
              have HB2 := Lib.hid (below_tr HBR.out hb)
              clear hb
              go_wp2_with fail
              refine (HL.out _ (HT.out.below HB2.out)).mono ?_
              rintro e w3 ⟨rfl, hb⟩
              have HB3 := Lib.hid (below_tr HB2.out hb)
              clear hb
              go_wp2_with fail
              go_ret
              exact ⟨rfl, HB3.out⟩
      | bad hf a =>
        rw [rval]
        obtain ⟨hm1, hm2⟩ := Qu.rdq_more HR.out.symm
        have HFL := Lib.hid (show a + 12 < l.length → true = flB (Qu.rdq (l ++ k)) (if hf = true then 6 else 3) (a : Int) from fun h => (flB_bad (hm2 k h)).symm)
        have ha : (a : Int) ≤ s.size := by rw [HZ.out]; omega
        have ha2 : ¬ (s.size : Int) < a := by omega
        clear hm1 hm2
        cases hf
        · by_cases hn : (a : Int) + 12 < s.size
          · have HFL2 := Lib.hid (HFL.out (by have := HZ.out; omega))
            have HB1 := Lib.hid (hb.alloc hb.size (.cells #[.int .i64 3, .int .i64 a] 26))
            clear hb
            go_wp2_with fail
            refine (fault_any 3 _ _ HSM.out (by have := HLN.out; have := HKN.out; simp; omega) (by omega) HFL2.out (HT.out.below HB1.out)).mono ?_
            rintro e w2 ⟨rfl, hb⟩
            have HB2 := Lib.hid (below_tr HB1.out hb)
            clear hb
            go_wp2_with fail
            refine (HL.out _ (HT.out.below HB2.out)).mono ?_
            rintro e w3 ⟨rfl, hb⟩
            have HB3 := Lib.hid (below_tr HB2.out hb)
            clear hb
            go_wp2_with fail
            go_ret
            exact ⟨rfl, HB3.out⟩
          · have HB1 := Lib.hid (hb.alloc hb.size (.cells #[.int .i64 3, .int .i64 a] 26))
            clear hb
            go_wp2_with fail
            refine (HL.out _ (HT.out.below HB1.out)).mono ?_
            rintro e w2 ⟨rfl, hb⟩
            have HB2 := Lib.hid (below_tr HB1.out hb)
            clear hb
            go_wp2_with fail
            go_ret
            exact ⟨rfl, HB2.out⟩
        · by_cases hn : (a : Int) + 12 < s.size
          · have HFL2 := Lib.hid (HFL.out (by have := HZ.out; omega))
            have HB1 := Lib.hid (hb.alloc hb.size (.cells #[.int .i64 6, .int .i64 a] 26))
            clear hb
            go_wp2_with fail
            refine (fault_any 6 _ _ HSM.out (by have := HLN.out; have := HKN.out; simp; omega) (by omega) HFL2.out (HT.out.below HB1.out)).mono ?_
            rintro e w2 ⟨rfl, hb⟩
            have HB2 := Lib.hid (below_tr HB1.out hb)
            clear hb
            go_wp2_with fail
            refine (HL.out _ (HT.out.below HB2.out)).mono ?_
            rintro e w3 ⟨rfl, hb⟩
            have HB3 := Lib.hid (below_tr HB2.out hb)
            clear hb
            go_wp2_with fail
            go_ret
            exact ⟨rfl, HB3.out⟩
          · have HB1 := Lib.hid (hb.alloc hb.size (.cells #[.int .i64 6, .int .i64 a] 26))
            clear hb
            go_wp2_with fail
            refine (HL.out _ (HT.out.below HB1.out)).mono ?_
            rintro e w2 ⟨rfl, hb⟩
            have HB2 := Lib.hid (below_tr HB1.out hb)
            clear hb
            go_wp2_with fail
            go_ret
            exact ⟨rfl, HB2.out⟩
    · have h3 : (300 : Int) < m.size := by omega
      go_enter Tryd.func7, Tryd.ntmps7
      go_wp2_with fail
      refine (HL.out _ HT.out).mono ?_
      rintro e w1 ⟨rfl, hb⟩
      have HB1 := Lib.hid hb
      clear hb
      go_wp2_with fail
      go_ret
      exact ⟨rfl, HB1.out⟩
  · have h3 : (300 : Int) < s.size := by omega
    go_enter Tryd.func7, Tryd.ntmps7
    go_wp2_with fail
    refine (HL.out _ HT.out).mono ?_
    rintro e w1 ⟨rfl, hb⟩
    have HB1 := Lib.hid hb
    clear hb
    go_wp2_with fail
    go_ret
    exact ⟨rfl, HB1.out⟩
end Go.Proofs.YtilokhbhkbikiaaDoor
