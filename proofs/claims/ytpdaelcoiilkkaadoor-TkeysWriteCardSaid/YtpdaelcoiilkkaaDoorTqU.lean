/- The marks that may be a long string's end (TOML). -/
import Derived.Test.YtpdaelcoiilkkaaDoorTqQ
import Derived.StillTailTactics
namespace Go.Proofs.YtpdaelcoiilkkaaDoor
open Go.RowKit

section
variable {W w : World} {b : Nat} {K : Kd} {s : ByteArray} {p : Nat} {t l : List UInt8}
set_option maxHeartbeats 4000000 in
set_option maxRecDepth 100000 in
theorem tended_any (h : TR W b K s w p t) (hs : s = txt l) (hl : l.length ≤ 1000000) (hp : p ≤ l.length) (ht : t.length ≤ 4 * p) {B : Bool} {P : Nat} {u : List UInt8} (hB : B = decide (3 ≤ mk5 K.q l p)) (hP : P = p + mk5 K.q l p) (hu : u = t ++ List.replicate (if 3 ≤ mk5 K.q l p then mk5 K.q l p - 3 else mk5 K.q l p) K.q) :
    Calls Tryd.prog 84 #[.pointer (some ⟨b, 0, none⟩)] w fun e w' => e = .returned (.bool B) ∧ TR W b K s w' (P : Int) u := by
  obtain ⟨i0, hi, hz0, hz1, hz2⟩ := info_parts (show (Tryd.prog.info? 5).map (fun i => (i.zero, i.size, i.bytes)) = some (some (.int .u8 0), 1, 1) by kernel_rfl)
  have R0 := h
  have HS := Lib.hid hs
  have HL := Lib.hid hl
  have HP := Lib.hid hp
  have HT := Lib.hid ht
  have HBB := Lib.hid hB
  have HPP := Lib.hid hP
  have HUU := Lib.hid hu
  clear hs hl hp ht h hB hP hu
  go_enter Tryd.func84, Tryd.ntmps84
  go_wp2_with fail
  go_loopw [3] (fun v wr => ∃ k : Nat, k ≤ 5 ∧ p + k ≤ l.length ∧ v = .int .i64 k ∧ Tq.rnl K.q (l.drop p) = k + Tq.rnl K.q (l.drop (p + k)) ∧ TR W b K s wr ((p + k : Nat) : Int) t) (fun v _ => 5 - (intOf v).toNat)
  case atStart => exact ⟨0, by omega, HP.out, rfl, by simp, R0⟩
  case round =>
    obtain ⟨k, hk, hpk, rfl, hrn, R⟩ := hrel
    clear R0
    have HR := Lib.hid R
    have HRN := Lib.hid hrn
    have HPK := Lib.hid hpk
    obtain ⟨_, _, v, h3, _⟩ := R
    obtain ⟨c0, c1, c2, c3, cf⟩ := td_cells h3
    clear h3 cf c0 c1 c3 hrn hpk
    by_cases h5 : k < 5
    · cases htk : tkC l (p + k) K.m
      · have HTK := Lib.hid htk
        have HM := Lib.hid (show mk5 K.q l p = k by rw [mk5, HRN.out, rnl_tkC, ← K.hm, if_neg (by rw [htk]; decide)]; omega)
        have hk5 : (k : Int) < 5 := by omega
        clear htk
        go_wp2_with fail
        refine wp_region_still_tail 11 (by kernel_rfl) (by kernel_rfl) ?_
        have HRd := Lib.hid HR.out.drew
        change wpStill _ _ wr.drew (fun a' => wpList _ _ _ _ a' wr.drew) _ _
        generalize wr.drew = wz at HRd ⊢
        obtain ⟨_, _, vz, hz3, _⟩ := HRd.out
        obtain ⟨_, _, e2, _, _⟩ := td_cells hz3
        clear hz3 c2
        simp only [List.take_succ_cons, List.take_zero, List.drop_succ_cons, List.drop_zero]
        repeat still_step
        refine wpStill_nil ?_
        go_wp2_with fail
        refine (ttake_n K.m HRd.out HS.out HL.out HPK.out HTK.out).mono ?_
        rintro e w4 ⟨rfl, R4⟩
        have HX := Lib.hid R4
        clear R4 hk5
        by_cases h3 : 3 ≤ k
        · obtain rfl : B = true := by rw [HBB.out, HM.out]; simp [h3]
          obtain ⟨N, HNN⟩ : ∃ N : Nat, Hid (N = k - 3) := ⟨_, rfl⟩
          have HN := Lib.hid (show (P = p + k ∧ u = t ++ List.replicate N K.q) by rw [HPP.out, HUU.out, HM.out, if_pos h3, HNN.out]; exact ⟨rfl, rfl⟩)
          have HK5 := Lib.hid (show N ≤ 5 by have := HNN.out; omega)
          have hk3 : 3 ≤ (k : Int) := by omega
          have HNI := Lib.hid (show (k : Int) - 3 = N by have := HNN.out; omega)
          have hki : (k : Int) ≤ 5 := by omega
          go_wp2_with fail
          go_loopw [26] (fun v wr => ∃ j : Nat, j ≤ N ∧ v = .int .i64 j ∧ TR W b K s wr ((p + k : Nat) : Int) (t ++ List.replicate j K.q)) (fun v _ => N - (intOf v).toNat)
          case atStart => exact ⟨0, Nat.zero_le _, rfl, by rw [List.replicate_zero, List.append_nil]; exact HX.out⟩
          case round =>
            obtain ⟨j, hj, rfl, R⟩ := hrel
            have HRR := Lib.hid R
            by_cases hjn : j < N
            · have HJ := Lib.hid hjn
              obtain ⟨v, RV1⟩ := R.rv
              have HV := Lib.hid RV1
              have HA := Lib.hid ((RV1.alloc (.cells #[.int .u8 K.m] 5)).drew)
              have HB := Lib.hid (byt_one (w := wr) K.q K.m K.hm _ rfl)
              obtain ⟨c0, c1, c2, c3, cf⟩ := RV1.cells
              have f2 := cf 3
              have ca := (RV1.alloc (.cells #[.int .u8 K.m] 5)).cells.2.2.2.1
              have hlen : (t ++ List.replicate j K.q).length ≤ 4000005 := by have := HT.out; have := HP.out; have := HL.out; have := HK5.out; simp; omega
              have hjI : (j : Int) < ((k : Int) - 3) := by have := HJ.out; have := HNI.out; omega
              clear cf RV1 R c0 c1 hjn
              go_wp2_with fail
              go_region_law (first
                | (refine tstep_app rfl (.tmp 33) (.tmp 39) 49 rfl W.heap.size 5 i0 (.int .u8 0) 1 Tryd.underlying49 hi hz0 hz1 hz2 rfl v (t ++ List.replicate j K.q).length (bytV (t ++ List.replicate j K.q)) rfl HA.out.2.2.2 (some ⟨wr.heap.size, 0, none⟩) 1 1 _ [K.q] rfl rfl HB.out (fun h => by cases h) (by unfold maxLen; omega) (by omega) HA.out.1.size ?_; intro v' w5 hown5 hg5; obtain ⟨⟨A', n', cp', rfl⟩, h5, R5⟩ := TV.text HA.out hown5 hg5; obtain ⟨c0', c1', c2', c3', cf'⟩ := td_cells h5; have f2' := cf' 3; clear cf' h5 hown5 hg5 c2'))
              all_goals (have HR5 := Lib.hid R5; clear R5)
              all_goals go_wp2_with fail
              all_goals go_roundw
              all_goals first
                | exact ⟨j + 1, HJ.out, by go_num, by have := HR5.out; rwa [List.append_assoc, show List.replicate j K.q ++ [K.q] = List.replicate (j + 1) K.q from List.replicate_succ'.symm] at this⟩
                | (have := HJ.out; simp [intOf]; omega)
            · have hjI : ¬ (j : Int) < ((k : Int) - 3) := by have := HNI.out; omega
              have HJ := Lib.hid (show j = N by omega)
              clear R hjn
              go_wp2_with fail
              go_ret
              exact ⟨rfl, by have := HRR.out; rw [HJ.out] at this; rw [HN.out.1, HN.out.2]; exact this⟩
        · obtain rfl : B = false := by rw [HBB.out, HM.out]; simp [h3]
          obtain ⟨N, HNN⟩ : ∃ N : Nat, Hid (N = k) := ⟨_, rfl⟩
          have HN := Lib.hid (show (P = p + k ∧ u = t ++ List.replicate N K.q) by rw [HPP.out, HUU.out, HM.out, if_neg h3, HNN.out]; exact ⟨rfl, rfl⟩)
          have HK5 := Lib.hid (show N ≤ 5 by have := HNN.out; omega)
          have hk3 : ¬ 3 ≤ (k : Int) := by omega
          have HNI := Lib.hid (show (k : Int) = N by have := HNN.out; omega)
          have hki : (k : Int) ≤ 5 := by omega
          go_wp2_with fail
          go_loopw [26] (fun v wr => ∃ j : Nat, j ≤ N ∧ v = .int .i64 j ∧ TR W b K s wr ((p + k : Nat) : Int) (t ++ List.replicate j K.q)) (fun v _ => N - (intOf v).toNat)
          case atStart => exact ⟨0, Nat.zero_le _, rfl, by rw [List.replicate_zero, List.append_nil]; exact HX.out⟩
          case round =>
            obtain ⟨j, hj, rfl, R⟩ := hrel
            have HRR := Lib.hid R
            by_cases hjn : j < N
            · have HJ := Lib.hid hjn
              obtain ⟨v, RV1⟩ := R.rv
              have HV := Lib.hid RV1
              have HA := Lib.hid ((RV1.alloc (.cells #[.int .u8 K.m] 5)).drew)
              have HB := Lib.hid (byt_one (w := wr) K.q K.m K.hm _ rfl)
              obtain ⟨c0, c1, c2, c3, cf⟩ := RV1.cells
              have f2 := cf 3
              have ca := (RV1.alloc (.cells #[.int .u8 K.m] 5)).cells.2.2.2.1
              have hlen : (t ++ List.replicate j K.q).length ≤ 4000005 := by have := HT.out; have := HP.out; have := HL.out; have := HK5.out; simp; omega
              have hjI : (j : Int) < (k : Int) := by have := HJ.out; have := HNI.out; omega
              clear cf RV1 R c0 c1 hjn
              go_wp2_with fail
              go_region_law (first
                | (refine tstep_app rfl (.tmp 33) (.tmp 39) 49 rfl W.heap.size 5 i0 (.int .u8 0) 1 Tryd.underlying49 hi hz0 hz1 hz2 rfl v (t ++ List.replicate j K.q).length (bytV (t ++ List.replicate j K.q)) rfl HA.out.2.2.2 (some ⟨wr.heap.size, 0, none⟩) 1 1 _ [K.q] rfl rfl HB.out (fun h => by cases h) (by unfold maxLen; omega) (by omega) HA.out.1.size ?_; intro v' w5 hown5 hg5; obtain ⟨⟨A', n', cp', rfl⟩, h5, R5⟩ := TV.text HA.out hown5 hg5; obtain ⟨c0', c1', c2', c3', cf'⟩ := td_cells h5; have f2' := cf' 3; clear cf' h5 hown5 hg5 c2'))
              all_goals (have HR5 := Lib.hid R5; clear R5)
              all_goals go_wp2_with fail
              all_goals go_roundw
              all_goals first
                | exact ⟨j + 1, HJ.out, by go_num, by have := HR5.out; rwa [List.append_assoc, show List.replicate j K.q ++ [K.q] = List.replicate (j + 1) K.q from List.replicate_succ'.symm] at this⟩
                | (have := HJ.out; simp [intOf]; omega)
            · have hjI : ¬ (j : Int) < (k : Int) := by have := HNI.out; omega
              have HJ := Lib.hid (show j = N by omega)
              clear R hjn
              go_wp2_with fail
              go_ret
              exact ⟨by show Ending.returned (Value.bool (decide (3 ≤ (k : Int)))) = _; rw [decide_eq_false (show ¬ 3 ≤ (k : Int) by omega)], by have := HRR.out; rw [HJ.out] at this; rw [HN.out.1, HN.out.2]; exact this⟩
      · have HTK := Lib.hid htk
        have HQ := Lib.hid (tkC_lt htk)
        have HN2 := Lib.hid (show Tq.rnl K.q (l.drop p) = (k + 1) + Tq.rnl K.q (l.drop (p + (k + 1))) by rw [HRN.out, rnl_tkC, ← K.hm, if_pos htk, show p + k + 1 = p + (k + 1) by omega]; omega)
        have hk5 : (k : Int) < 5 := by omega
        clear htk
        go_wp2_with fail
        refine wp_region_still_tail 11 (by kernel_rfl) (by kernel_rfl) ?_
        have HRd := Lib.hid HR.out.drew
        change wpStill _ _ wr.drew (fun a' => wpList _ _ _ _ a' wr.drew) _ _
        generalize wr.drew = wz at HRd ⊢
        obtain ⟨_, _, vz, hz3, _⟩ := HRd.out
        obtain ⟨_, _, e2, _, _⟩ := td_cells hz3
        clear hz3 c2
        simp only [List.take_succ_cons, List.take_zero, List.drop_succ_cons, List.drop_zero]
        repeat still_step
        refine wpStill_nil ?_
        go_wp2_with fail
        refine (ttake_y K.m HRd.out HS.out HL.out HTK.out).mono ?_
        rintro e w4 ⟨rfl, R4⟩
        have HX := Lib.hid R4
        clear R4
        go_wp2_with fail
        go_roundw
        case rel => exact ⟨k + 1, by omega, HQ.out, by go_num, HN2.out, HX.out⟩
        case measure => simp [intOf]; omega
    · have hkge : decide ((k : Int) < 5) = false := decide_eq_false (by omega)
      have HM := Lib.hid (show mk5 K.q l p = k by rw [mk5, HRN.out]; omega)
      go_wp2_with fail
      go_quiet (fail)
      have HX := Lib.hid (HR.out.drewN nq)
      have h3 : 3 ≤ k := by omega
      obtain rfl : B = true := by rw [HBB.out, HM.out]; simp [h3]
      obtain ⟨N, HNN⟩ : ∃ N : Nat, Hid (N = k - 3) := ⟨_, rfl⟩
      have HN := Lib.hid (show (P = p + k ∧ u = t ++ List.replicate N K.q) by rw [HPP.out, HUU.out, HM.out, if_pos h3, HNN.out]; exact ⟨rfl, rfl⟩)
      have HK5 := Lib.hid (show N ≤ 5 by have := HNN.out; omega)
      have hk3 : 3 ≤ (k : Int) := by omega
      have HNI := Lib.hid (show (k : Int) - 3 = N by have := HNN.out; omega)
      have hki : (k : Int) ≤ 5 := by omega
      go_wp2_with fail
      go_loopw [26] (fun v wr => ∃ j : Nat, j ≤ N ∧ v = .int .i64 j ∧ TR W b K s wr ((p + k : Nat) : Int) (t ++ List.replicate j K.q)) (fun v _ => N - (intOf v).toNat)
      case atStart => exact ⟨0, Nat.zero_le _, rfl, by rw [List.replicate_zero, List.append_nil]; exact HX.out⟩
      case round =>
        obtain ⟨j, hj, rfl, R⟩ := hrel
        have HRR := Lib.hid R
        by_cases hjn : j < N
        · have HJ := Lib.hid hjn
          obtain ⟨v, RV1⟩ := R.rv
          have HV := Lib.hid RV1
          have HA := Lib.hid ((RV1.alloc (.cells #[.int .u8 K.m] 5)).drew)
          have HB := Lib.hid (byt_one (w := wr) K.q K.m K.hm _ rfl)
          obtain ⟨c0, c1, c2, c3, cf⟩ := RV1.cells
          have f2 := cf 3
          have ca := (RV1.alloc (.cells #[.int .u8 K.m] 5)).cells.2.2.2.1
          have hlen : (t ++ List.replicate j K.q).length ≤ 4000005 := by have := HT.out; have := HP.out; have := HL.out; have := HK5.out; simp; omega
          have hjI : (j : Int) < ((k : Int) - 3) := by have := HJ.out; have := HNI.out; omega
          clear cf RV1 R c0 c1 hjn
          go_wp2_with fail
          go_region_law (first
            | (refine tstep_app rfl (.tmp 33) (.tmp 39) 49 rfl W.heap.size 5 i0 (.int .u8 0) 1 Tryd.underlying49 hi hz0 hz1 hz2 rfl v (t ++ List.replicate j K.q).length (bytV (t ++ List.replicate j K.q)) rfl HA.out.2.2.2 (some ⟨wr.heap.size, 0, none⟩) 1 1 _ [K.q] rfl rfl HB.out (fun h => by cases h) (by unfold maxLen; omega) (by omega) HA.out.1.size ?_; intro v' w5 hown5 hg5; obtain ⟨⟨A', n', cp', rfl⟩, h5, R5⟩ := TV.text HA.out hown5 hg5; obtain ⟨c0', c1', c2', c3', cf'⟩ := td_cells h5; have f2' := cf' 3; clear cf' h5 hown5 hg5 c2'))
          all_goals (have HR5 := Lib.hid R5; clear R5)
          all_goals go_wp2_with fail
          all_goals go_roundw
          all_goals first
            | exact ⟨j + 1, HJ.out, by go_num, by have := HR5.out; rwa [List.append_assoc, show List.replicate j K.q ++ [K.q] = List.replicate (j + 1) K.q from List.replicate_succ'.symm] at this⟩
            | (have := HJ.out; simp [intOf]; omega)
        · have hjI : ¬ (j : Int) < ((k : Int) - 3) := by have := HNI.out; omega
          have HJ := Lib.hid (show j = N by omega)
          clear R hjn
          go_wp2_with fail
          go_ret
          exact ⟨rfl, by have := HRR.out; rw [HJ.out] at this; rw [HN.out.1, HN.out.2]; exact this⟩
end
end Go.Proofs.YtpdaelcoiilkkaaDoor
