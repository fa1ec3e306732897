/- The law QuotesBack, walked. -/
import Derived.Test.YtilokhbhkbikiaaDoorLawCut
import Derived.Deep.Quiet
import Derived.Deep.QuietTactic
import Derived.BigQuiet
namespace Go.Proofs.YtilokhbhkbikiaaDoor
open Go.RowKit

section
variable {P : Program} {ops : Array Oper} {C : World → Prop}
/-- A region that draws its order: one walk, in the order of the text, over worlds of a class of one's own. -/
theorem reg_lit {id : Nat} {Q : Exit → Act → World → Prop} {a : Act} {w : World} {l : List Oper} (hm : P.follows .mixedOrders = true) (hB : Region.lexB .any l.toArray = true) (hC : C w.drew)
    (h : wpQuiet P l.toArray C (fun a' => ∀ w', C w' → Q .normal a' w') l a) : (Code.region id l.toArray true).wp P Q a w := wp_region_quiet hm hB hC (by simpa using h)
end
/-- The worlds in which nothing that was there has turned. -/
structure Kept (w : World) where
  wx : World
  held : Below w.heap.size w wx
theorem Kept.out {w : World} {v : Value} {s : Kept w} {w' : World} (h : Below s.wx.heap.size s.wx w') : Ending.returned v = Ending.returned v ∧ ∃ t : Kept w, w' = t.wx := ⟨rfl, ⟨w', below_tr s.held h⟩, rfl⟩
theorem isB_short {l t : List UInt8} (h : l.length < (Qu.wrq t).length) : isB (Qu.rdq l) t = false := by
  cases hr : Qu.rdq l with
  | bad _ _ => rfl
  | ok u =>
    rw [isB, decide_eq_false_iff_not]
    rintro rfl
    have := Qu.rdq_short hr
    omega
theorem isB_wrq (t : List UInt8) : isB (Qu.rdq (Qu.wrq t)) t = true := by rw [Qu.rdq_wrq]; simp [isB]
set_option maxHeartbeats 8000000 in
set_option maxRecDepth 100000 in
theorem lawback_any (a b : ByteArray) (w : World) (hT : Tab w) : Calls Tryd.prog 5 #[.string a, .string b] w fun e w' => e = .returned (.bool true) ∧ Below w.heap.size w w' := by
  have HL := Lib.hid lives_any
  have HT := Lib.hid hT
  clear hT
  by_cases h : a.size ≤ 300
  · by_cases h2 : b.size ≤ 300
    · obtain ⟨l, hl⟩ : ∃ l, l = a.data.toList := ⟨_, rfl⟩
      obtain ⟨k, hk⟩ : ∃ k, k = b.data.toList := ⟨_, rfl⟩
      have HA := Lib.hid (show a = txt l by rw [hl]; exact as_txt a)
      have HBB := Lib.hid (show b = txt k by rw [hk]; exact as_txt b)
      have HLN := Lib.hid (show l.length ≤ 300 by rw [hl, as_len]; exact h)
      have HKN := Lib.hid (show k.length ≤ 300 by rw [hk, as_len]; exact h2)
      have HAB := Lib.hid (show a ++ b = txt (l ++ k) by rw [← txt_app, hl, hk, ← as_txt a, ← as_txt b])
      have G0 := Lib.hid (show decide ((300 : Int) < (a.size : Int)) = false from decide_eq_false (by omega))
      have G1 := Lib.hid (show decide ((300 : Int) < (b.size : Int)) = false from decide_eq_false (by omega))
      obtain ⟨S, hS⟩ : ∃ S, S = txt (Qu.wrq l) := ⟨_, rfl⟩
      obtain ⟨T, hTt⟩ : ∃ T, T = txt (Qu.wrq k) := ⟨_, rfl⟩
      obtain ⟨X, hX⟩ : ∃ X, X = txt (Qu.wrq (l ++ k)) := ⟨_, rfl⟩
      have HS := Lib.hid hS
      have HTT := Lib.hid hTt
      have HX := Lib.hid hX
      have HSZ := Lib.hid (show S.size = (Qu.wrq l).length by rw [hS, txt_size])
      have el := escs_len l
      have ek := escs_len k
      have hs2 : 2 ≤ S.size := by rw [hS, txt_size, Qu.wrq_len]; omega
      have ht2 : 2 ≤ T.size := by rw [hTt, txt_size, Qu.wrq_len]; omega
      have hs3 : S.size ≤ 2000 := by rw [hS, txt_size, Qu.wrq_len]; have := HLN.out; omega
      have ht3 : T.size ≤ 2000 := by rw [hTt, txt_size, Qu.wrq_len]; have := HKN.out; omega
      have hcat : S.extract 0 (S.size - 1) ++ T.extract 1 T.size = X := by
        have h1 : S.extract 0 (S.size - 1) = txt ((Qu.wrq l).take ((Qu.wrq l).length - 1)) := by rw [HSZ.out, hS, txt_cut]; rfl
        have h2 : T.extract 1 T.size = txt ((Qu.wrq k).drop 1) := by rw [hTt, txt_cut, txt_size, List.take_length]
        rw [h1, h2, txt_app, hX, Qu.wrq_app]
      obtain ⟨E, hE⟩ : ∃ E, decide (l = k) = E := ⟨_, rfl⟩
      have hq1 : (S.toList == T.toList) = E := by
        rw [eq_txt hS hTt, ← hE]
        by_cases h3 : l = k
        · simp [h3]
        · have : Qu.wrq l ≠ Qu.wrq k := fun h4 => h3 (Qu.wrq_inj h4)
          simp [h3, this]
      have hq2 : (a.toList == b.toList) = E := by rw [eq_txt HA.out HBB.out, ← hE]
      clear hE hS hTt hX hl hk el ek
      go_enter Tryd.func5, Tryd.ntmps5
      go_wp2_with fail
      refine (qwrite_is _ HA.out (by have := HLN.out; omega) HS.out HT.out).mono ?_
      rintro e w1 ⟨rfl, hb⟩
      have HB1 := Lib.hid hb
      clear hb
      go_wp2_with fail
      refine (qwrite_is _ HBB.out (by have := HKN.out; omega) HTT.out (HT.out.below HB1.out)).mono ?_
      rintro e w2 ⟨rfl, hb⟩
      have HB2 := Lib.hid (below_tr HB1.out hb)
      clear hb
      haveI : Nonempty (Kept w) := ⟨⟨w, Below.refl _ _⟩⟩
      have C1 := Lib.hid (fun s : Kept w => is_any (x := true) s.wx HS.out HA.out (by have := HSZ.out; omega) (isB_wrq l).symm (HT.out.below s.held))
      have HTZ := Lib.hid (show T.size = (Qu.wrq k).length by rw [HTT.out, txt_size])
      have C2 := Lib.hid (fun s : Kept w => is_any (x := true) s.wx HTT.out HBB.out (by have := HTZ.out; omega) (isB_wrq k).symm (HT.out.below s.held))
      have C3 := Lib.hid (fun s : Kept w => qwrite_is s.wx HAB.out (by have := HLN.out; have := HKN.out; simp; omega) HX.out (HT.out.below s.held))
      have hw1 : IntKind.i64.wrap ((S.size : Int) - 1) = (S.size : Int) - 1 := IntWalk.i64_in _ (by omega)
      have hw2 : ((S.size : Int) - 1).toNat = S.size - 1 := by omega
      have hw3 : 0 ≤ (S.size : Int) - 1 := by omega
      have hw4 : (S.size : Int) - 1 ≤ S.size := by omega
      have hw5 : (1 : Int) ≤ T.size := by omega
      have hw6 : decide ((S.size : Int) < 2) = false := decide_eq_false (by omega)
      have hw7 : decide ((T.size : Int) < 2) = false := decide_eq_false (by omega)
      have hself : (X.toList != X.toList) = false := by simp
      go_wp2_with fail
      rw [G0.out, G1.out, Bool.or_self]
      go_upto_region 5 with fail
      go_cut [64] (fun x wx => x = .bool false ∧ Below w.heap.size w wx)
      case first =>
        cases E
        · refine reg_lit (C := fun wx => ∃ s : Kept w, wx = s.wx) (by kernel_rfl) (by kernel_rfl) ⟨⟨_, HB2.out.drew⟩, rfl⟩ ?_
          iterate 2 (go_big_quiet_step (fail))
          go_big_quiet_want
          go_big_quiet_op
          refine ⟨.bool true, fun s => (C1.out s).mono ?_, ?_⟩
          · rintro e w3 ⟨rfl, hb⟩; exact Kept.out hb
          go_big_quiet_on
          iterate 4 (go_big_quiet_step (fail))
          go_big_quiet_want
          go_big_quiet_op
          refine ⟨.bool true, fun s => (C2.out s).mono ?_, ?_⟩
          · rintro e w3 ⟨rfl, hb⟩; exact Kept.out hb
          go_big_quiet_on
          iterate 16 (go_big_quiet_step (fail))
          go_big_quiet_want
          go_big_quiet_op
          refine ⟨.string X, fun s => (C3.out s).mono ?_, ?_⟩
          · rintro e w3 ⟨rfl, hb⟩; exact Kept.out hb
          go_big_quiet_on
          iterate 19 (go_big_quiet_step (fail))
          refine wpQuiet_nil ?_
          rintro _ ⟨⟨wx, ox⟩, rfl⟩
          go_wp2_with fail
          go_meet
          exact ⟨rfl, ox⟩
        · refine reg_lit (C := fun wx => ∃ s : Kept w, wx = s.wx) (by kernel_rfl) (by kernel_rfl) ⟨⟨_, HB2.out.drew⟩, rfl⟩ ?_
          iterate 2 (go_big_quiet_step (fail))
          go_big_quiet_want
          go_big_quiet_op
          refine ⟨.bool true, fun s => (C1.out s).mono ?_, ?_⟩
          · rintro e w3 ⟨rfl, hb⟩; exact Kept.out hb
          go_big_quiet_on
          iterate 4 (go_big_quiet_step (fail))
          go_big_quiet_want
          go_big_quiet_op
          refine ⟨.bool true, fun s => (C2.out s).mono ?_, ?_⟩
          · rintro e w3 ⟨rfl, hb⟩; exact Kept.out hb
          go_big_quiet_on
          iterate 16 (go_big_quiet_step (fail))
          go_big_quiet_want
          go_big_quiet_op
          refine ⟨.string X, fun s => (C3.out s).mono ?_, ?_⟩
          · rintro e w3 ⟨rfl, hb⟩; exact Kept.out hb
          go_big_quiet_on
          iterate 19 (go_big_quiet_step (fail))
          refine wpQuiet_nil ?_
          rintro _ ⟨⟨wx, ox⟩, rfl⟩
          go_wp2_with fail
          go_meet
          exact ⟨rfl, ox⟩
      case rest =>
        obtain ⟨rfl, hb⟩ := hcut
        have HB3 := Lib.hid hb
        clear hb C1 C2 C3 hcat hq1 hq2 hw1 hw2 hw3 hw4 hw5 hw6 hw7 hself
        go_wp2_with fail
        go_loopw [7] (fun v wr => ∃ j : Nat, j ≤ S.size ∧ v = .int .i64 j ∧ Below w.heap.size w wr) (fun v _ => S.size - (intOf v).toNat)
        case atStart => exact ⟨0, Nat.zero_le _, rfl, HB3.out⟩
        case round =>
          obtain ⟨j, hj, rfl, hbr⟩ := hrel
          have HBR := Lib.hid hbr
          clear hbr
          by_cases hlt : j < S.size
          · obtain ⟨Y, hY⟩ : ∃ Y, S.extract 0 j ++ S.extract (j + 1) S.size = Y := ⟨_, rfl⟩
            have HY := Lib.hid (show Y = txt ((Qu.wrq l).take j ++ (Qu.wrq l).drop (j + 1)) by
              rw [← hY, HS.out, txt_cut, txt_cut, txt_size, txt_app, List.take_length]; rfl)
            have hyl : ((Qu.wrq l).take j ++ (Qu.wrq l).drop (j + 1)).length < (Qu.wrq l).length := by
              have : j < (Qu.wrq l).length := by rw [← HSZ.out]; exact hlt
              simp; omega
            have C4 := Lib.hid (fun s : Kept w => is_any (x := false) s.wx HY.out HA.out (by have := HSZ.out; omega) (isB_short hyl).symm (HT.out.below s.held))
            have k1 : IntKind.i64.wrap ((j : Int) + 1) = (j : Int) + 1 := IntWalk.i64_in _ (by omega)
            have k2 : ((j : Int) + 1).toNat = j + 1 := by omega
            have k3 : (j : Int) + 1 ≤ S.size := by omega
            have k4 : (0 : Int) ≤ (j : Int) + 1 := by omega
            have k5 : (j : Int) ≤ S.size := by omega
            clear hyl
            go_wp2_with fail
            refine reg_lit (C := fun wx => ∃ s : Kept w, wx = s.wx) (by kernel_rfl) (by kernel_rfl) ⟨⟨_, HBR.out.drew⟩, rfl⟩ ?_
            iterate 9 (go_big_quiet_step (fail))
            go_big_quiet_want
            go_big_quiet_op
            refine ⟨.bool false, fun s => (C4.out s).mono ?_, ?_⟩
            · rintro e w3 ⟨rfl, hb⟩; exact Kept.out hb
            go_big_quiet_on
            refine wpQuiet_nil ?_
            rintro _ ⟨⟨wx, ox⟩, rfl⟩
            go_wp2_with fail
            go_roundw
            case rel => exact ⟨j + 1, by omega, by go_num, ox⟩
            case measure => simp [intOf]; omega
          · obtain rfl : j = S.size := by omega
            clear hlt
            go_wp2_with fail
            refine (HL.out _ (HT.out.below HBR.out)).mono ?_
            rintro e w4 ⟨rfl, hb⟩
            have HB4 := Lib.hid (below_tr HBR.out hb)
            clear hb
            go_wp2_with fail
            go_ret
            exact ⟨rfl, HB4.out⟩
    · have h3 : (300 : Int) < b.size := by omega
      go_enter Tryd.func5, Tryd.ntmps5
      go_wp2_with fail
      refine (HL.out _ HT.out).mono ?_
      rintro e w1 ⟨rfl, hb⟩
      have HB1 := Lib.hid hb
      clear hb
      go_wp2_with fail
      go_ret
      exact ⟨rfl, HB1.out⟩
  · have h3 : (300 : Int) < a.size := by omega
    go_enter Tryd.func5, Tryd.ntmps5
    go_wp2_with fail
    refine (HL.out _ HT.out).mono ?_
    rintro e w1 ⟨rfl, hb⟩
    have HB1 := Lib.hid hb
    clear hb
    go_wp2_with fail
    go_ret
    exact ⟨rfl, HB1.out⟩
end Go.Proofs.YtilokhbhkbikiaaDoor
