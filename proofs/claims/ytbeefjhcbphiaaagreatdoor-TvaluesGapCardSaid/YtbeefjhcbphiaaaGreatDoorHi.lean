/- The marks that may be a long string's end (TOML). -/
import Derived.Test.YtbeefjhcbphiaaaGreatDoorHh
import Derived.StillTailTactics
import Derived.Test.YtbeefjhcbphiaaaGreatDoorHg
namespace Go.Proofs.YtbeefjhcbphiaaaGreatDoor
open Go.RowKit

section
variable {W w : World} {b : Nat} {K : Kd} {s : ByteArray} {p : Nat} {t l : List UInt8}
set_option maxHeartbeats 4000000 in
set_option maxRecDepth 100000 in
theorem tended_any (h : TR W b K s w p t) (hs : s = txt l) (hl : l.length ≤ 1000000) (hp : p ≤ l.length) (ht : t.length ≤ 4 * p) {B : Bool} {P : Nat} {u : List UInt8} (hB : B = decide (3 ≤ mk5 K.q l p)) (hP : P = p + mk5 K.q l p) (hu : u = t ++ List.replicate (if 3 ≤ mk5 K.q l p then mk5 K.q l p - 3 else mk5 K.q l p) K.q) :
    Calls Tryz.prog 266 #[.pointer (some ⟨b, 0, none⟩)] w fun e w' => e = .returned (.bool B) ∧ TR W b K s w' (P : Int) u := by
  obtain ⟨i0, hi, hz0, hz1, hz2⟩ := info_parts (show (Tryz.prog.info? 5).map (fun i => (i.zero, i.size, i.bytes)) = some (some (.int .u8 0), 1, 1) by kernel_rfl)
  have R0 := h
  have HS := Lib.hid hs
  have HL := Lib.hid hl
  have HP := Lib.hid hp
  have HT := Lib.hid ht
  have HBB := Lib.hid hB
  have HPP := Lib.hid hP
  have HUU := Lib.hid hu
  clear hs hl hp ht h hB hP hu
  go_enter Tryz.func266, Tryz.ntmps266
  go_wp2_with fail
  go_loopw [3] (fun v wr => ∃ k : Nat, k ≤ 5 ∧ p + k ≤ l.length ∧ v = .int .i64 k ∧ Tq.rnl K.q (l.drop p) = k + Tq.rnl K.q (l.drop (p + k)) ∧ TR W b K s wr ((p + k : Nat) : Int) t) (fun v _ => 5 - (intOf v).toNat)
  case atStart => exact ⟨0, by omega, HP.out, rfl, by simp, R0⟩
  case round =>
    obtain ⟨k, hk, hpk, rfl, hrn, R⟩ := hrel
    clear R0
    have HR := Lib.hid R
    have HRN := Lib.hid hrn
    have HPK := Lib.hid hpk
    obtain ⟨_, _, v, h3, _⟩ := R
    obtain ⟨c0, c1, c2, c3, cf⟩ := td_cells h3
    clear h3 cf c0 c1 c3 hrn hpk
    by_cases h5 : k < 5
    · cases htk : tkC l (p + k) K.m
      · have HTK := Lib.hid htk
        have HM := Lib.hid (show mk5 K.q l p = k by rw [mk5, HRN.out, rnl_tkC, ← K.hm, if_neg (by rw [htk]; decide)]; omega)
        have hk5 : (k : Int) < 5 := by omega
        clear htk
        go_wp2_with fail
        refine wp_region_still_tail 11 (by kernel_rfl) (by kernel_rfl) ?_
        have HRd := Lib.hid HR.out.drew
        change wpStill _ _ wr.drew (fun a' => wpList _ _ _ _ a' wr.drew) _ _
        generalize wr.drew = wz at HRd ⊢
        obtain ⟨_, _, vz, hz3, _⟩ := HRd.out
        obtain ⟨_, _, e2, _, _⟩ := td_cells hz3
        clear hz3 c2
        simp only [List.take_succ_cons, List.take_zero, List.drop_succ_cons, List.drop_zero]
        repeat still_step
        refine wpStill_nil ?_
        go_wp2_with fail
        refine (ttake_n K.m HRd.out HS.out HL.out HPK.out HTK.out).mono ?_
        rintro e w4 ⟨rfl, R4⟩
        have HX := Lib.hid R4
        clear R4 hk5
        by_cases h3 : 3 ≤ k
        · obtain rfl : B = true := by rw [HBB.out, HM.out]; simp [h3]
          obtain ⟨N, HNN⟩ : ∃ N : Nat, Hid (N = k - 3) := ⟨_, rfl⟩
          have HN := Lib.hid (show (P = p + k ∧ u = t ++ List.replicate N K.q) by rw [HPP.out, HUU.out, HM.out, if_pos h3, HNN.out]; exact ⟨rfl, rfl⟩)
          have HK5 := Lib.hid (show N ≤ 5 by have := HNN.out; omega)
          have hk3 : 3 ≤ (k : Int) := by omega
          have HNI := Lib.hid (show (k : Int) - 3 = N by have := HNN.out; omega)
          have hki : (k : Int) ≤ 5 := by omega
          go_wp2_with fail
          go_loopw [26] (fun v wr => ∃ j : Nat, j ≤ N ∧ v = .int .i64 j ∧ TR W b K s wr ((p + k : Nat) : Int) (t ++ List.replicate j K.q)) (fun v _ => N - (intOf v).toNat)
          case atStart => exact ⟨0, Nat.zero_le _, rfl, by rw [List.replicate_zero, List.append_nil]; exact HX.out⟩
          case round =>
            obtain ⟨j, hj, rfl, R⟩ := hrel
            have HRR := Lib.hid R
            by_cases hjn : j < N
            · have HJ := Lib.hid hjn
              obtain ⟨v, RV1⟩ := R.rv
              have HV := Lib.hid RV1
              have HA := Lib.hid ((RV1.alloc (.cells #[.int .u8 K.m] 5)).drew)
              have HB := Lib.hid (byt_one (w := wr) K.q K.m K.hm _ rfl)
              obtain ⟨c0, c1, c2, c3, cf⟩ := RV1.cells
              have f2 := cf 3
              have ca := (RV1.alloc (.cells #[.int .u8 K.m] 5)).cells.2.2.2.1
              have hlen : (t ++ List.replicate j K.q).length ≤ 4000005 := by have := HT.out; have := HP.out; have := HL.out; have := HK5.out; simp; omega
              have hjI : (j : Int) < ((k : Int) - 3) := by have := HJ.out; have := HNI.out; omega
              clear cf RV1 R c0 c1 hjn
              go_wp2_with fail
              go_region_law (first
                | (refine tstep_app rfl (.tmp 33) (.tmp 39) 48 rfl W.heap.size 5 i0 (.int .u8 0) 1 Tryz.underlying48 hi hz0 hz1 hz2 rfl v (t ++ List.replicate j K.q).length (bytV (t ++ List.replicate j K.q)) rfl HA.out.2.2.2 (some ⟨wr.heap.size, 0, none⟩) 1 1 _ [K.q] rfl rfl HB.out (fun h => by cases h) (by unfold maxLen; omega) (by omega) HA.out.1.size ?_; intro v' w5 hown5 hg5; obtain ⟨⟨A', n', cp', rfl⟩, h5, R5⟩ := TV.text HA.out hown5 hg5; obtain ⟨c0', c1', c2', c3', cf'⟩ := td_cells h5; have f2' := cf' 3; clear cf' h5 hown5 hg5 c2'))
              all_goals (have HR5 := Lib.hid R5; clear R5)
              all_goals go_wp2_with fail
              all_goals go_roundw
              all_goals first
                | exact ⟨j + 1, HJ.out, by go_num, by have := HR5.out; rwa [List.append_assoc, show List.replicate j K.q ++ [K.q] = List.replicate (j + 1) K.q from List.replicate_succ'.symm] at this⟩
                | (have := HJ.out; simp [intOf]; omega)
            · have hjI : ¬ (j : Int) < ((k : Int) - 3) := by have := HNI.out; omega
              have HJ := Lib.hid (show j = N by omega)
              clear R hjn
              go_wp2_with fail
              go_ret
              exact ⟨rfl, by have := HRR.out; rw [HJ.out] at this; rw [HN.out.1, HN.out.2]; exact this⟩
        · obtain rfl : B = false := by rw [HBB.out, HM.out]; simp [h3]
          obtain ⟨N, HNN⟩ : ∃ N : Nat, Hid (N = k) := ⟨_, rfl⟩
          have HN := Lib.hid (show (P = p + k ∧ u = t ++ List.replicate N K.q) by rw [HPP.out, HUU.out, HM.out, if_neg h3, HNN.out]; exact ⟨rfl, rfl⟩)
          have HK5 := Lib.hid (show N ≤ 5 by have := HNN.out; omega)
          have hk3 : ¬ 3 ≤ (k : Int) := by omega
          have HNI := Lib.hid (show (k : Int) = N by have := HNN.out; omega)
          have hki : (k : Int) ≤ 5 := by omega
          go_wp2_with fail
          go_loopw [26] (fun v wr => ∃ j : Nat, j ≤ N ∧ v = .int .i64 j ∧ TR W b K s wr ((p + k : Nat) : Int) (t ++ List.replicate j K.q)) (fun v _ => N - (intOf v).toNat)
          case atStart => exact ⟨0, Nat.zero_le _, rfl, by rw [List.replicate_zero, List.append_nil]; exact HX.out⟩
          case round =>
            obtain ⟨j, hj, rfl, R⟩ := hrel
            have HRR := Lib.hid R
            by_cases hjn : j < N
            · have HJ := Lib.hid hjn
              obtain ⟨v, RV1⟩ := R.rv
              have HV := Lib.hid RV1
              have HA := Lib.hid ((RV1.alloc (.cells #[.int .u8 K.m] 5)).drew)
              have HB := Lib.hid (byt_one (w := wr) K.q K.m K.hm _ rfl)
              obtain ⟨c0, c1, c2, c3, cf⟩ := RV1.cells
              have f2 := cf 3
              have ca := (RV1.alloc (.cells #[.int .u8 K.m] 5)).cells.2.2.2.1
              have hlen : (t ++ List.replicate j K.q).length ≤ 4000005 := by have := HT.out; have := HP.out; have := HL.out; have := HK5.out; simp; omega
              have hjI : (j : Int) < (k : Int) := by have := HJ.out; have := HNI.out; omega
              clear cf RV1 R c0 c1 hjn
              go_wp2_with fail
              go_region_law (first
                | (refine tstep_app rfl (.tmp 33) (.tmp 39) 48 rfl W.heap.size 5 i0 (.int .u8 0) 1 Tryz.underlying48 hi hz0 hz1 hz2 rfl v (t ++ List.replicate j K.q).length (bytV (t ++ List.replicate j K.q)) rfl HA.out.2.2.2 (some ⟨wr.heap.size, 0, none⟩) 1 1 _ [K.q] rfl rfl HB.out (fun h => by cases h) (by unfold maxLen; omega) (by omega) HA.out.1.size ?_; intro v' w5 hown5 hg5; obtain ⟨⟨A', n', cp', rfl⟩, h5, R5⟩ := TV.text HA.out hown5 hg5; obtain ⟨c0', c1', c2', c3', cf'⟩ := td_cells h5; have f2' := cf' 3; clear cf' h5 hown5 hg5 c2'))
              all_goals (have HR5 := Lib.hid R5; clear R5)
              all_goals go_wp2_with fail
              all_goals go_roundw
              all_goals first
                | exact ⟨j + 1, HJ.out, by go_num, by have := HR5.out; rwa [List.append_assoc, show List.replicate j K.q ++ [K.q] = List.replicate (j + 1) K.q from List.replicate_succ'.symm] at this⟩
                | (have := HJ.out; simp [intOf]; omega)
            · have hjI : ¬ (j : Int) < (k : Int) := by have := HNI.out; omega
              have HJ := Lib.hid (show j = N by omega)
              clear R hjn
              go_wp2_with fail
              go_ret
              exact ⟨by show Ending.returned (Value.bool (decide (3 ≤ (k : Int)))) = _; rw [decide_eq_false (show ¬ 3 ≤ (k : Int) by omega)], by have := HRR.out; rw [HJ.out] at this; rw [HN.out.1, HN.out.2]; exact this⟩
      · have HTK := Lib.hid htk
        have HQ := Lib.hid (tkC_lt htk)
        have HN2 := Lib.hid (show Tq.rnl K.q (l.drop p) = (k + 1) + Tq.rnl K.q (l.drop (p + (k + 1))) by rw [HRN.out, rnl_tkC, ← K.hm, if_pos htk, show p + k + 1 = p + (k + 1) by omega]; omega)
        have hk5 : (k : Int) < 5 := by omega
        clear htk
        go_wp2_with fail
        refine wp_region_still_tail 11 (by kernel_rfl) (by kernel_rfl) ?_
        have HRd := Lib.hid HR.out.drew
        change wpStill _ _ wr.drew (fun a' => wpList _ _ _ _ a' wr.drew) _ _
        generalize wr.drew = wz at HRd ⊢
        obtain ⟨_, _, vz, hz3, _⟩ := HRd.out
        obtain ⟨_, _, e2, _, _⟩ := td_cells hz3
        clear hz3 c2
        simp only [List.take_succ_cons, List.take_zero, List.drop_succ_cons, List.drop_zero]
        repeat still_step
        refine wpStill_nil ?_
        go_wp2_with fail
        refine (ttake_y K.m HRd.out HS.out HL.out HTK.out).mono ?_
        rintro e w4 ⟨rfl, R4⟩
        have HX := Lib.hid R4
        clear R4
        go_wp2_with fail
        go_roundw
        case rel => exact ⟨k + 1, by omega, HQ.out, by go_num, HN2.out, HX.out⟩
        case measure => simp [intOf]; omega
    · have hkge : decide ((k : Int) < 5) = false := decide_eq_false (by omega)
      have HM := Lib.hid (show mk5 K.q l p = k by rw [mk5, HRN.out]; omega)
      go_wp2_with fail
      go_quiet (fail)
      have HX := Lib.hid (HR.out.drewN nq)
      have h3 : 3 ≤ k := by omega
      obtain rfl : B = true := by rw [HBB.out, HM.out]; simp [h3]
      obtain ⟨N, HNN⟩ : ∃ N : Nat, Hid (N = k - 3) := ⟨_, rfl⟩
      have HN := Lib.hid (show (P = p + k ∧ u = t ++ List.replicate N K.q) by rw [HPP.out, HUU.out, HM.out, if_pos h3, HNN.out]; exact ⟨rfl, rfl⟩)
      have HK5 := Lib.hid (show N ≤ 5 by have := HNN.out; omega)
      have hk3 : 3 ≤ (k : Int) := by omega
      have HNI := Lib.hid (show (k : Int) - 3 = N by have := HNN.out; omega)
      have hki : (k : Int) ≤ 5 := by omega
      go_wp2_with fail
      go_loopw [26] (fun v wr => ∃ j : Nat, j ≤ N ∧ v = .int .i64 j ∧ TR W b K s wr ((p + k : Nat) : Int) (t ++ List.replicate j K.q)) (fun v _ => N - (intOf v).toNat)
      case atStart => exact ⟨0, Nat.zero_le _, rfl, by rw [List.replicate_zero, List.append_nil]; exact HX.out⟩
      case round =>
        obtain ⟨j, hj, rfl, R⟩ := hrel
        have HRR := Lib.hid R
        by_cases hjn : j < N
        · have HJ := Lib.hid hjn
          obtain ⟨v, RV1⟩ := R.rv
          have HV := Lib.hid RV1
          have HA := Lib.hid ((RV1.alloc (.cells #[.int .u8 K.m] 5)).drew)
          have HB := Lib.hid (byt_one (w := wr) K.q K.m K.hm _ rfl)
          obtain ⟨c0, c1, c2, c3, cf⟩ := RV1.cells
          have f2 := cf 3
          have ca := (RV1.alloc (.cells #[.int .u8 K.m] 5)).cells.2.2.2.1
          have hlen : (t ++ List.replicate j K.q).length ≤ 4000005 := by have := HT.out; have := HP.out; have := HL.out; have := HK5.out; simp; omega
          have hjI : (j : Int) < ((k : Int) - 3) := by have := HJ.out; have := HNI.out; omega
          clear cf RV1 R c0 c1 hjn
          go_wp2_with fail
          go_region_law (first
            | (refine tstep_app rfl (.tmp 33) (.tmp 39) 48 rfl W.heap.size 5 i0 (.int .u8 0) 1 Tryz.underlying48 hi hz0 hz1 hz2 rfl v (t ++ List.replicate j K.q).length (bytV (t ++ List.replicate j K.q)) rfl HA.out.2.2.2 (some ⟨wr.heap.size, 0, none⟩) 1 1 _ [K.q] rfl rfl HB.out (fun h => by cases h) (by unfold maxLen; omega) (by omega) HA.out.1.size ?_; intro v' w5 hown5 hg5; obtain ⟨⟨A', n', cp', rfl⟩, h5, R5⟩ := TV.text HA.out hown5 hg5; obtain ⟨c0', c1', c2', c3', cf'⟩ := td_cells h5; have f2' := cf' 3; clear cf' h5 hown5 hg5 c2'))
          all_goals (have HR5 := Lib.hid R5; clear R5)
          all_goals go_wp2_with fail
          all_goals go_roundw
          all_goals first
            | exact ⟨j + 1, HJ.out, by go_num, by have := HR5.out; rwa [List.append_assoc, show List.replicate j K.q ++ [K.q] = List.replicate (j + 1) K.q from List.replicate_succ'.symm] at this⟩
            | (have := HJ.out; simp [intOf]; omega)
        · have hjI : ¬ (j : Int) < ((k : Int) - 3) := by have := HNI.out; omega
          have HJ := Lib.hid (show j = N by omega)
          clear R hjn
          go_wp2_with fail
          go_ret
          exact ⟨rfl, by have := HRR.out; rw [HJ.out] at this; rw [HN.out.1, HN.out.2]; exact this⟩
end
end Go.Proofs.YtbeefjhcbphiaaaGreatDoor
/- The short strings, read whole (TOML). -/
namespace Go.Proofs.YtbeefjhcbphiaaaGreatDoor
open Go.RowKit

theorem prs_prs (q o : Int) (l : List UInt8) (k : Nat) : prs q o l (prs q o l k) = prs q o l k := by
  by_cases h : k < l.length ∧ stp q o (bt l k) = true
  · have := prs_prs q o l (k + 1)
    rw [prs_on h.1 h.2]; exact this
  · rw [prs_end h, prs_end h]
termination_by l.length - k
/-- What is left of a string's reading that begins at p. -/
def WhPost (W : World) (b : Nat) (K : Kd) (s : ByteArray) (p : Nat) (r : Tq.R) (e : Ending) (w' : World) : Prop := match r with
  | .ok x k => e = .returned (.bool true) ∧ TR W b K s w' ((p + k : Nat) : Int) x
  | .bad k => e = .returned (.bool false) ∧ ∃ t, TR W b K s w' ((p + k : Nat) : Int) t
theorem WhPost.yes {W : World} {b : Nat} {K : Kd} {s : ByteArray} {p k m : Nat} {r : Tq.R} {x : List UInt8} {w' : World} (hr : r = .ok x k) (hk : m = p + k) (h : TR W b K s w' (m : Int) x) : WhPost W b K s p r (.returned (.bool true)) w' := by
  subst hr; subst hk; exact ⟨rfl, h⟩
theorem WhPost.no {W : World} {b : Nat} {K : Kd} {s : ByteArray} {p k m : Nat} {r : Tq.R} {x : List UInt8} {w' : World} (hr : r = .bad k) (hk : m = p + k) (h : TR W b K s w' (m : Int) x) : WhPost W b K s p r (.returned (.bool false)) w' := by
  subst hr; subst hk; exact ⟨rfl, x, h⟩
section
variable {W w : World} {b : Nat} {K : Kd} {s : ByteArray} {p : Nat} {l : List UInt8}
set_option maxHeartbeats 4000000 in
theorem tlit_any (h : TR W b K s w p []) (hs : s = txt l) (hl : l.length ≤ 1000000) (hB : tkC l p K.m = true) (hq : K.q = 39) {r : Tq.R} (hr : r = (Tq.rs 39 false (l.drop (p + 1))).pre 1 []) :
    Calls Tryz.prog 286 #[.pointer (some ⟨b, 0, none⟩)] w (WhPost W b K s p r) := by
  have HR := Lib.hid h
  have HS := Lib.hid hs
  have HL := Lib.hid hl
  have HB := Lib.hid hB
  have HQ := Lib.hid (tkC_lt hB)
  have hm : K.m = (((39 : UInt8).toNat : Nat) : Int) := by rw [K.hm, hq]
  obtain ⟨k, HK⟩ : ∃ k, Hid (k = prs K.m K.m l (p + 1)) := ⟨_, rfl⟩
  have HRS := Lib.hid (show Tq.rs 39 false (l.drop (p + 1)) = (Tq.rs 39 false (l.drop k)).pre (k - (p + 1)) ((l.take k).drop (p + 1)) by
    rw [HK.out, hm]; exact rs_prs (by decide) l (p + 1))
  have HKL := Lib.hid (show k ≤ l.length by rw [HK.out]; exact prs_le HQ.out)
  have HKG := Lib.hid (show p + 1 ≤ k by rw [HK.out]; exact prs_ge _ _ _ _)
  have HPP := Lib.hid (show ¬ k < prs K.m K.m l k by rw [HK.out, prs_prs]; omega)
  have HRR := Lib.hid hr
  have HM := Lib.hid hm
  obtain ⟨B, HBB⟩ : ∃ B, Hid (B = tkC l k K.m) := ⟨_, rfl⟩
  clear h hs hl hB hq hr hm
  go_enter Tryz.func286, Tryz.ntmps286
  go_wp2_with fail
  refine (topen_any HR.out HS.out HL.out HB.out).mono ?_
  rintro e w1 ⟨rfl, R1⟩
  have HR1 := Lib.hid R1
  obtain ⟨_, _, v, h3, _⟩ := R1
  obtain ⟨c0, c1, c2, c3, cf⟩ := td_cells h3
  clear h3 cf c0 c1 c3
  go_wp2_with fail
  go_region_law (first
    | (go_simp; go_at_call 271; refine (tstretch_any K.m HR1.out.drew HS.out HL.out HQ.out (by simp)).mono ?_; rintro e w4 ⟨rfl, R4⟩; rw [← HK.out, List.nil_append] at R4))
  all_goals (have HR4 := Lib.hid R4; obtain ⟨_, _, v, h3, _⟩ := R4; obtain ⟨c0', c1', c2', c3', cf'⟩ := td_cells h3; clear h3 cf' c0' c1' c3')
  all_goals go_wp2_with fail
  all_goals go_region_law (first
    | (go_simp; go_at_call 270; refine (ttake_any HR4.out.drew HS.out HL.out HKL.out K.m HBB.out).mono ?_; rintro e w5 ⟨rfl, R5⟩))
  all_goals (have HR5 := Lib.hid R5; clear R5)
  all_goals go_wp2_with fail
  all_goals go_ret
  all_goals
    cases B with
    | true =>
      have h1 : tkC l k (((39 : UInt8).toNat : Nat) : Int) = true := by rw [← HM.out]; exact HBB.out.symm
      refine WhPost.yes (k := 1 + ((k - (p + 1)) + 1)) ?_ ?_ HR5.out
      · rw [HRR.out, HRS.out, tkC_drop h1, st_q]; simp [Tq.R.pre]
      · have := HKG.out; simp; omega
    | false =>
      have h1 : tkC l k (((39 : UInt8).toNat : Nat) : Int) = false := by rw [← HM.out]; exact HBB.out.symm
      refine WhPost.no (k := 1 + (k - (p + 1))) ?_ ?_ HR5.out
      · rw [HRR.out, HRS.out, st_off (q := 39) (o := 39) (by have := HPP.out; rw [HM.out] at this; exact this) h1 h1 (by decide)]; simp [Tq.R.pre]
      · have := HKG.out; simp; omega
/-- A round of the short basic string's loop. -/
def BRel (W : World) (b : Nat) (K : Kd) (s : ByteArray) (l : List UInt8) (p : Nat) (r : Tq.R) (k : Nat) (t : List UInt8) (wr : World) : Prop :=
  TR W b K s wr (k : Int) t ∧ p + 1 ≤ k ∧ k ≤ l.length ∧ t.length ≤ 4 * k ∧ r = (Tq.rs 34 false (l.drop k)).pre (k - p) t
theorem BRel.on {k k' : Nat} {t u : List UInt8} {r : Tq.R} {wr w' : World} (h : BRel W b K s l p r k t wr) (hk : k ≤ k') (hl : k' ≤ l.length) (hu : u.length ≤ 4 * (k' - k)) (he : Tq.rs 34 false (l.drop k) = (Tq.rs 34 false (l.drop k')).pre (k' - k) u) (hR : TR W b K s w' (k' : Int) (t ++ u)) : BRel W b K s l p r k' (t ++ u) w' := by
  obtain ⟨_, h1, h2, h3, h4⟩ := h
  refine ⟨hR, by omega, hl, by simp; omega, ?_⟩
  rw [h4, he, Tq.pre_pre]; congr 1; omega
set_option maxHeartbeats 8000000 in
theorem tbas_any (h : TR W b K s w p []) (hs : s = txt l) (hl : l.length ≤ 1000000) (hB : tkC l p K.m = true) (hq : K.q = 34) (hS : ∀ k, tkC l k 92 = true → HdOk W l ∧ TShorts W ∧ 0 < W.heap.size) {r : Tq.R} (hr : r = (Tq.rs 34 false (l.drop (p + 1))).pre 1 []) :
    Calls Tryz.prog 285 #[.pointer (some ⟨b, 0, none⟩)] w (WhPost W b K s p r) := by
  have HR := Lib.hid h
  have HS := Lib.hid hs
  have HL := Lib.hid hl
  have HB := Lib.hid hB
  have HQ := Lib.hid (tkC_lt hB)
  have HM := Lib.hid (show K.m = (((34 : UInt8).toNat : Nat) : Int) by rw [K.hm, hq])
  have HRR := Lib.hid hr
  have HSH := Lib.hid hS
  clear h hs hl hB hq hr hS
  go_enter Tryz.func285, Tryz.ntmps285
  go_wp2_with fail
  refine (topen_any HR.out HS.out HL.out HB.out).mono ?_
  rintro e w1 ⟨rfl, R1⟩
  have R0 : BRel W b K s l p r (p + 1) [] w1 := ⟨R1, Nat.le_refl _, HQ.out, by simp, by rw [HRR.out]; congr 1; omega⟩
  clear R1
  go_wp2_with fail
  go_loopw [] (fun wr => ∃ (k : Nat) (t : List UInt8), BRel W b K s l p r k t wr) (fun wr => s.size - posOf b wr)
  case atStart => exact ⟨p + 1, [], R0⟩
  case round =>
    obtain ⟨k, t, R⟩ := hrel
    clear R0 HR
    have HJ := Lib.hid R
    have HZ := Lib.hid (show s.size = l.length by rw [HS.out, txt_size])
    obtain ⟨_, _, v, h3, _⟩ := R.1
    obtain ⟨c0, c1, c2, c3, cf⟩ := td_cells h3
    clear R h3 cf c0 c1 c3
    cases hk : tkC l k K.m
    · have HKM := Lib.hid hk
      have HN34 := Lib.hid (show tkC l k (((34 : UInt8).toNat : Nat) : Int) = false by rw [← HM.out]; exact hk)
      clear hk
      obtain ⟨x, HX⟩ : ∃ x, Hid (x = decide (k < prs K.m 92 l k)) := ⟨_, rfl⟩
      go_wp2_with fail
      go_region_law (first
        | (go_simp; go_at_call 270; refine (ttake_n K.m HJ.out.1.drew HS.out HL.out HJ.out.2.2.1 HKM.out).mono ?_; rintro e w4 ⟨rfl, R4⟩))
      all_goals (have HR4 := Lib.hid R4; clear R4)
      all_goals
        go_wp2_with fail
        refine (tstretch_any 92 HR4.out HS.out HL.out HJ.out.2.2.1 HJ.out.2.2.2.1).mono ?_
        rintro e w5 ⟨he, R5⟩
        rw [← HX.out] at he
        subst he
        have HR5 := Lib.hid R5
        clear R5
        cases x
        · have hnl := of_decide_eq_false HX.out.symm
          have HPR := Lib.hid hnl
          have hpr := prs_no hnl
          have HR6 : Hid (TR W b K s w5 (k : Int) t) := by
            have := HR5.out
            rw [hpr] at this
            have e : (l.take k).drop k = [] := by simp
            rwa [e, List.append_nil] at this
          clear hnl hpr HR5
          cases h92 : tkC l k 92
          · have H92 := Lib.hid h92
            clear h92
            go_wp2_with fail
            refine (ttake_n 92 HR6.out HS.out HL.out HJ.out.2.2.1 H92.out).mono ?_
            rintro e w6 ⟨rfl, R6⟩
            have HR7 := Lib.hid R6
            clear R6
            go_wp2_with fail
            go_ret
            refine WhPost.no (k := k - p) ?_ ?_ HR7.out
            · rw [HJ.out.2.2.2.2, st_off (q := 34) (o := 92) (by have := HPR.out; rw [HM.out] at this; exact this) HN34.out H92.out (fun _ => rfl)]; simp [Tq.R.pre]
            · have := HJ.out.2.1; omega
          · have H92 := Lib.hid h92
            have HK1 := Lib.hid (tkC_lt h92)
            have H92 := Lib.hid h92
            have HST := Lib.hid (show Tq.st 34 false (l.drop k) = Tq.esS (l.drop (k + 1)) by rw [tkC_drop (c := 92) h92, st_92])
            clear h92
            go_wp2_with fail
            refine (ttake_y 92 HR6.out HS.out HL.out H92.out).mono ?_
            rintro e w6 ⟨rfl, R6⟩
            have HR7 := Lib.hid R6
            clear R6
            go_wp2_with fail
            refine (tescape_any HR7.out HS.out HL.out HK1.out HJ.out.2.2.2.1 (HSH.out _ H92.out).1 (HSH.out _ H92.out).2.1 (HSH.out _ H92.out).2.2).mono ?_
            rintro e w7 (⟨j, g1, rfl, g2⟩ | ⟨u, j, g1, g2, g3, g4, rfl, g5⟩)
            · have G1 := Lib.hid g1
              have G2 := Lib.hid g2
              clear g1 g2
              go_wp2_with fail
              go_ret
              refine WhPost.no (k := (k - p) + j) ?_ ?_ G2.out
              · rw [HJ.out.2.2.2.2, Tq.rs_stop (by rw [HST.out, Tq.esS, G1.out])]; simp [Tq.R.pre]
              · have := HJ.out.2.1; omega
            · have N : Hid (BRel W b K s l p r (k + j) (t ++ u) w7) := HJ.out.on (by omega) g3 (by rw [show k + j - k = j by omega]; exact g4) (by
                rw [Tq.rs_go (show Tq.st 34 false (l.drop k) = .go j u by rw [HST.out, Tq.esS, g1]) (by omega) (by simp; omega), List.drop_drop, show k + j - k = j by omega]) g5
              have HG3 := Lib.hid g3
              have HG2 := Lib.hid g2
              clear g1 g2 g3 g4 g5
              go_wp2_with fail
              go_roundw
              case rel => exact ⟨k + j, t ++ u, N.out⟩
              case measure =>
                have e1 := HJ.out.1.posOf
                have e2 := N.out.1.posOf
                have := HZ.out; have := HG3.out; have := HG2.out; have := HK1.out
                rw [e1, e2]; omega
        · have hlt := of_decide_eq_true HX.out.symm
          have hle := prs_le (q := K.m) (o := 92) HJ.out.2.2.1
          have N : Hid (BRel W b K s l p r (prs K.m 92 l k) (t ++ (l.take (prs K.m 92 l k)).drop k) w5) := HJ.out.on (by omega) hle (by simp; omega) (by
            have := rs_prs (q := 34) (o := 92) (long := false) (fun _ => rfl) l k
            rw [← HM.out] at this; exact this) HR5.out
          have HLT := Lib.hid hlt
          have HLE := Lib.hid hle
          clear hlt hle
          go_wp2_with fail
          go_roundw
          case rel => exact ⟨_, _, N.out⟩
          case measure =>
            have e1 := HJ.out.1.posOf
            have e2 := N.out.1.posOf
            have := HZ.out; have := HLT.out; have := HLE.out
            rw [e1, e2]; omega
    · have HKM := Lib.hid hk
      have H34 := Lib.hid (show tkC l k (((34 : UInt8).toNat : Nat) : Int) = true by rw [← HM.out]; exact hk)
      clear hk
      go_wp2_with fail
      go_region_law (first
        | (go_simp; go_at_call 270; refine (ttake_y K.m HJ.out.1.drew HS.out HL.out HKM.out).mono ?_; rintro e w4 ⟨rfl, R4⟩))
      all_goals (have HR4 := Lib.hid R4; clear R4)
      all_goals go_wp2_with fail
      all_goals go_ret
      all_goals
        refine WhPost.yes (k := (k - p) + 1) ?_ ?_ HR4.out
        · rw [HJ.out.2.2.2.2, tkC_drop H34.out, st_q]; simp [Tq.R.pre]
        · have := HJ.out.2.1; omega
end
end Go.Proofs.YtbeefjhcbphiaaaGreatDoor
