/- What landed: where spaces, a mark, a word end. -/
import Derived.Test.YtdclhepjoifpiaaGreatDoorAx
import Derived.Test.YtdclhepjoifpiaaGreatDoorAw
import Derived.Test.YtdclhepjoifpiaaGreatDoorAv
import Derived.Test.YtdclhepjoifpiaaGreatDoorAu
import Derived.Laws.EntriesVeiled
import Derived.Test.YtdclhepjoifpiaaGreatDoorShelfm
namespace Go.Proofs.YtdclhepjoifpiaaGreatDoor
open Go.RowKit
namespace Jk

section
variable {l : List UInt8} {B : Nat} {A : Option Addr}
theorem spaceEnd_is (n c k : Nat) {x v : Int} (w : World) (hF : Forms) (hn : n = l.length) (hA : Byt w B A l) (hm : n ≤ 1000000) (hx : x = k) (hk : k ≤ 1000100) (hv : v = ((k + rw spc (l.drop k) : Nat) : Int)) :
    Calls Tryz.prog 57 #[.slice A n c, .int .i64 x] w fun e w' => e = .returned (.tuple #[.int .i64 v, .bool true]) ∧ w = w' := by
  have C := Lib.hid (fun w hA => behind_is (A := A) (B := B) n c k (x := x) (v := v) w hF.blanks hn hA hm hx hk hv)
  clear hn hm hx hk hv hF
  go_enter Tryz.func57, Tryz.ntmps57
  go_wp2_with (go_at_call 81; refine (C.out _ hA).mono ?_; rintro e w' ⟨rfl, rfl⟩)
  go_ret2
  exact ⟨rfl, rfl⟩
theorem markEnd_is (S : Value) {x : Int} (w : World) (h0 : 0 ≤ x) (h1 : x ≤ 1000100) :
    Calls Tryz.prog 58 #[S, .int .i64 x] w fun e w' => e = .returned (.tuple #[.int .i64 (x + 1), .bool true]) ∧ w = w' := by
  have hw : wrap64 (x + 1) = x + 1 := by unfold wrap64; omega
  go_enter Tryz.func58, Tryz.ntmps58
  go_wp2_with fail
  go_ret2
  exact ⟨rfl, rfl⟩
/-- Where a word ends, or where it is wrong. -/
def wdv (l : List UInt8) (i : Nat) : Value := if words ((l.drop i).take (rw ltr (l.drop i))) = true then .tuple #[.int .i64 ((i + rw ltr (l.drop i) : Nat) : Int), .bool true] else .tuple #[.int .i64 (i : Nat), .bool false]
set_option maxHeartbeats 4000000 in
theorem wordEnd_is (n c i : Nat) {x : Int} (w : World) (hF : Forms) (hn : n = l.length) (hnc : n ≤ c) (_hc6 : c ≤ maxLen) (hA : Byt w B A l) (hm : n ≤ 1000000) (hx : x = i) (hi : i < l.length) :
    Calls Tryz.prog 59 #[.slice A n c, .int .i64 x] w fun e w' => e = .returned (wdv l i) ∧ w = w' := by
  subst hx
  unfold maxLen at _hc6
  obtain ⟨j, hj⟩ : ∃ j, j = i + rw ltr (l.drop i) := ⟨_, rfl⟩
  have hjl : j ≤ n := by have := rw_in ltr l (Nat.le_of_lt hi); omega
  have hij : i ≤ j := by omega
  have C := Lib.hid (fun w hA => behind_is (A := A) (B := B) n c i (x := i) (v := j) w hF.letters hn hA hm rfl (by omega) (by rw [hj]))
  have E : wdv l i = if words ((l.take j).drop i) = true then .tuple #[.int .i64 (j : Nat), .bool true] else .tuple #[.int .i64 (i : Nat), .bool false] := by
    unfold wdv
    rw [word_cut, ← hj]
  obtain ⟨t, ht⟩ : ∃ t, t = (l.take j).drop i := ⟨_, rfl⟩
  rw [← ht] at E
  have HA := Lib.hid hA
  have hin : i < n := by omega
  obtain ⟨b, off, rfl, _, _⟩ := hA.at_ hi
  have hcv := conv_bytes (l := (l.take j).drop i) (w := w) (j - i) (c - i) (by simp; omega) (cut_two hA hij (by omega))
  rw [← ht] at hcv
  clear hn hm hF ht hj hi hA
  by_cases hw : words t = true
  · rw [if_pos hw] at E
    have E := Lib.hid E
    have hv : t = [116, 114, 117, 101] ∨ t = [102, 97, 108, 115, 101] ∨ t = [110, 117, 108, 108] := by simpa [words] using hw
    clear hw
    rcases hv with rfl | rfl | rfl
    all_goals
      simp only [txt] at hcv
      go_enter Tryz.func59, Tryz.ntmps59
      go_wp2_with (go_at_call 81; refine (C.out _ HA.out).mono ?_; rintro e w' ⟨rfl, rfl⟩)
      refine bodyPost_ret (v := .tuple #[.int .i64 j, .bool true]) (by simp [results, Tryz.results59, go_sem, *]) rfl ?_
      exact ⟨by rw [E.out], rfl⟩
  · rw [if_neg hw] at E
    have E := Lib.hid E
    have hv : ¬ (t = [116, 114, 117, 101] ∨ t = [102, 97, 108, 115, 101] ∨ t = [110, 117, 108, 108]) := by simpa [words] using hw
    clear hw
    obtain ⟨U, hU⟩ : ∃ U, U = txt t := ⟨_, rfl⟩
    have hne : ∀ m : List UInt8, t ≠ m → (U.toList == m) = false := fun m hm => by
      rw [hU, Lib.toList_data]
      exact beq_false_of_ne hm
    have u1 := hne _ (fun e => hv (.inl e))
    have u2 := hne _ (fun e => hv (.inr (.inl e)))
    have u3 := hne _ (fun e => hv (.inr (.inr e)))
    rw [← hU] at hcv
    clear hU hne hv
    go_enter Tryz.func59, Tryz.ntmps59
    go_wp2_with (go_at_call 81; refine (C.out _ HA.out).mono ?_; rintro e w' ⟨rfl, rfl⟩)
    refine bodyPost_ret (v := .tuple #[.int .i64 i, .bool false]) (by simp [results, Tryz.results59, go_sem, *]) rfl ?_
    exact ⟨by rw [E.out], rfl⟩
end
end Jk
end Go.Proofs.YtdclhepjoifpiaaGreatDoor
/- What landed: where a number ends. -/
namespace Go.Proofs.YtdclhepjoifpiaaGreatDoor
open Go.RowKit
namespace Jk

/-- Where a number ends, or where its first digit is missing. -/
def mnI (l : List UInt8) (i : Nat) : Nat := if bt l i = 45 then i + 1 else i
def nmV (l : List UInt8) (i : Nat) : Value := if dg (bt l (mnI l i)) = true then .tuple #[.int .i64 ((exE l (frE l (intE l (mnI l i))) : Nat) : Int), .bool true] else .tuple #[.int .i64 (mnI l i : Nat), .bool false]
theorem w64 {a : Nat} (h : a ≤ 2000000) : wrap64 ((a : Int) + 1) = ((a + 1 : Nat) : Int) := by unfold wrap64; omega
section
variable {l : List UInt8} {B : Nat} {A : Option Addr}
set_option maxHeartbeats 4000000 in
set_option maxRecDepth 100000 in
theorem numberEnd_is (n c i : Nat) {x : Int} (w : World) (hF : Forms) (hn : n = l.length) (hA : Byt w B A l) (hm : n ≤ 1000000) (hx : x = i) (hi : i < l.length) :
    Calls Tryz.prog 60 #[.slice A n c, .int .i64 x] w fun e w' => e = .returned (nmV l i) ∧ w = w' := by
  subst hx
  have hin : i < n := by omega
  have hi6 : i ≤ 2000000 := by omega
  have HF := Lib.hid hF
  have Hn := Lib.hid hn
  have HA := Lib.hid hA
  obtain ⟨j, hj⟩ : ∃ j, j = mnI l i := ⟨_, rfl⟩
  have hji : j ≤ 1000000 := by rw [hj]; unfold mnI; split <;> omega
  have HJ := Lib.hid hj
  obtain ⟨e0, HE0⟩ : ∃ b, Hid (b = decide (bt l i = 45)) := ⟨_, rfl⟩
  clear hF hn hA hi hj
  go_enter Tryz.func60, Tryz.ntmps60
  go_wp2_with fail
  refine wp_scope_sw' ?_
  intro C hC
  have HC := Lib.hid hC
  clear hC
  go_upto_if 10 with (go_at_call 39; refine (stands_is n c i (v := e0) _ HF.out.minus Hn.out HA.out hm rfl HE0.out).mono ?_; rintro e w' ⟨rfl, rfl⟩)
  go_cut [6] from 10 to 12 (fun v wx => v = .int .i64 j ∧ w = wx)
  case first =>
    cases e0
    · have E1 := Lib.hid (show j = i by rw [HJ.out, mnI, if_neg (of_decide_eq_false HE0.out.symm)])
      go_wp2_with fail
      go_meet
      exact ⟨by rw [E1.out], rfl⟩
    · have E1 := Lib.hid (show j = i + 1 by rw [HJ.out, mnI, if_pos (of_decide_eq_true HE0.out.symm)])
      go_wp2_with fail
      go_meet
      exact ⟨by rw [E1.out]; rfl, rfl⟩
  case rest =>
    obtain ⟨rfl, rfl⟩ := hcut
    cases hd : dg (bt l j)
    · have z : bt l j ≠ 48 := fun e => by rw [e] at hd; cases hd
      have Z := Lib.hid (show false = decide (bt l j = 48) from (decide_eq_false z).symm)
      have E := Lib.hid (show nmV l i = .tuple #[.int .i64 (j : Nat), .bool false] by rw [nmV, ← HJ.out, hd]; rfl)
      have E2 := Lib.hid (show ((j : Nat) : Int) = ((j + rw dg (l.drop j) : Nat) : Int) by rw [rw_at dg0, hd]; rfl)
      clear hd z
      go_wp2_with fail
      refine (stands_is n c j (v := false) _ HF.out.nought Hn.out HA.out hm rfl Z.out).mono ?_
      rintro e w' ⟨rfl, rfl⟩
      go_wp2_with fail
      refine (behind_is n c j (v := j) _ HF.out.digits Hn.out HA.out hm rfl (by omega) E2.out).mono ?_
      rintro e w' ⟨rfl, rfl⟩
      go_wp2_with fail
      rw [inSc_ret]
      refine bodyPost_ret (v := .tuple #[.int .i64 (j : Nat), .bool false]) (by simp [results, Tryz.results60, go_sem, *]) rfl ?_
      exact ⟨by rw [E.out], rfl⟩
    · obtain ⟨p1, hp1⟩ : ∃ p, p = intE l j := ⟨_, rfl⟩
      obtain ⟨p2, hp2⟩ : ∃ p, p = frE l p1 := ⟨_, rfl⟩
      obtain ⟨p3, hp3⟩ : ∃ p, p = exE l p2 := ⟨_, rfl⟩
      have i1 := intE_gt hd
      rw [← hp1] at i1
      have i2 := frE_ge i1.2
      rw [← hp2] at i2
      have i3 := exE_ge i2.2
      rw [← hp3, ← Hn.out] at i3
      rw [← Hn.out] at i1 i2
      have E := Lib.hid (show nmV l i = .tuple #[.int .i64 (p3 : Nat), .bool true] by rw [nmV, ← HJ.out, hd, if_pos rfl, ← hp1, ← hp2, ← hp3])
      have HP1 := Lib.hid hp1
      have HP2 := Lib.hid hp2
      have HP3 := Lib.hid hp3
      have jlt : j < p1 := i1.1
      have b1 : p1 ≤ 1000000 := by omega
      have b2 : p2 ≤ 1000000 := by omega
      have b3 : p3 ≤ 1000000 := by omega
      obtain ⟨z, HZ⟩ : ∃ b, Hid (b = decide (bt l j = 48)) := ⟨_, rfl⟩
      obtain ⟨pt, HPT⟩ : ∃ b, Hid (b = decide (bt l p1 = 46)) := ⟨_, rfl⟩
      obtain ⟨pd, HPD⟩ : ∃ b, Hid (b = dg (bt l (p1 + 1))) := ⟨_, rfl⟩
      obtain ⟨ee, HEE⟩ : ∃ b, Hid (b = decide (bt l p2 = 101 ∨ bt l p2 = 69)) := ⟨_, rfl⟩
      obtain ⟨sg, HSG⟩ : ∃ b, Hid (b = decide (bt l (p2 + 1) = 43 ∨ bt l (p2 + 1) = 45)) := ⟨_, rfl⟩
      obtain ⟨s2, hs2⟩ : ∃ s, s = sgE l (p2 + 1) := ⟨_, rfl⟩
      have HS2 := Lib.hid hs2
      have bs2 : s2 ≤ 1000002 := by have := sgE_ge l (p2 + 1); omega
      obtain ⟨ed, HED⟩ : ∃ b, Hid (b = dg (bt l s2)) := ⟨_, rfl⟩
      have b4 : p2 + 1 ≤ 2000000 := by omega
      have b5 : j ≤ 2000000 := by omega
      have b6 : p1 ≤ 2000000 := by omega
      have b7 : p2 ≤ 2000000 := by omega
      clear hd i1 i2 i3 hp1 hp2 hp3 hs2
      -- ahead of the point: by a nought, or by digits
      have key : z = true ∨ z = false := by cases z <;> simp
      rcases key with rfl | rfl
      · have E1 := Lib.hid (show p1 = j + 1 by rw [HP1.out, intE, if_pos (of_decide_eq_true HZ.out.symm)])
        go_wp2_with fail
        refine (stands_is n c j (v := true) _ HF.out.nought Hn.out HA.out hm rfl HZ.out).mono ?_
        rintro e w' ⟨rfl, rfl⟩
        go_wp2_with fail
        go_step3
        change Exit.inSc Tryz.prog C _ (.goto 0) _ _
        refine inSc_goto (by rw [HC.out]; rfl) ?_
        have E0 : (j : Int) + 1 = p1 := by rw [E1.out]; rfl
        rw [E0]
        go_wp2_with fail
        have pkey : pt = false ∨ pt = true := by cases pt <;> simp
        have ekey : ee = false ∨ ee = true := by cases ee <;> simp
        rcases pkey with rfl | rfl
        · have E2 := Lib.hid (show p2 = p1 by rw [HP2.out, frE, if_neg (fun h => of_decide_eq_false HPT.out.symm h.1)])
          refine (stands_is n c p1 (v := false) _ HF.out.point Hn.out HA.out hm rfl HPT.out).mono ?_
          rintro e w' ⟨rfl, rfl⟩
          go_wp2_with fail
          go_step3
          change Exit.inSc Tryz.prog C _ (.goto 1) _ _
          refine inSc_goto (by rw [HC.out]; rfl) ?_
          rw [← E2.out]
          go_wp2_with fail
          rcases ekey with rfl | rfl
          · have E9 := Lib.hid (show p3 = p2 by rw [HP3.out, exE, if_neg (fun h => of_decide_eq_false HEE.out.symm h.1)])
            refine (stands_is n c p2 (v := false) _ HF.out.exps Hn.out HA.out hm rfl HEE.out).mono ?_
            rintro e w' ⟨rfl, rfl⟩
            go_wp2_with fail
            go_step3
            change Exit.inSc Tryz.prog C _ (.goto 2) _ _
            refine inSc_goto (by rw [HC.out]; rfl) ?_
            rw [← E9.out]
            go_wp2_with fail
            rw [inSc_ret]
            refine bodyPost_ret (v := .tuple #[.int .i64 (p3 : Nat), .bool true]) (by simp [results, Tryz.results60, go_sem, *]) rfl ?_
            exact ⟨by rw [E.out], rfl⟩
          · refine (stands_is n c p2 (v := true) _ HF.out.exps Hn.out HA.out hm rfl HEE.out).mono ?_
            rintro e w' ⟨rfl, rfl⟩
            go_wp2_with fail
            refine (stands_is n c (p2 + 1) (v := sg) _ HF.out.signs Hn.out HA.out hm rfl HSG.out).mono ?_
            rintro e w' ⟨rfl, rfl⟩
            have skey : sg = false ∨ sg = true := by cases sg <;> simp
            rcases skey with rfl | rfl
            · have F1 := Lib.hid (show s2 = p2 + 1 by rw [HS2.out, sgE, if_neg (of_decide_eq_false HSG.out.symm)])
              have EE := of_decide_eq_true HEE.out.symm
              have H3 := Lib.hid (show p3 = if ed = true then s2 + rw dg (l.drop s2) else p2 by
                rw [HP3.out, exE, ← HS2.out, ← HED.out]
                cases ed
                · rw [if_neg (fun h => by cases h.2), if_neg (by simp)]
                · rw [if_pos ⟨EE, rfl⟩, if_pos rfl])
              clear EE
              go_wp2_with fail
              refine (stands_is n c s2 (v := ed) _ HF.out.digits Hn.out HA.out hm (by rw [F1.out]; rfl) HED.out).mono ?_
              rintro e w' ⟨rfl, rfl⟩
              cases ed
              · have E9 := Lib.hid (show p3 = p2 by rw [H3.out, if_neg (by simp)])
                go_wp2_with fail
                rw [← E9.out]
                try go_step3
                go_wp2_with fail
                rw [inSc_ret]
                refine bodyPost_ret (v := .tuple #[.int .i64 (p3 : Nat), .bool true]) (by simp [results, Tryz.results60, go_sem, *]) rfl ?_
                exact ⟨by rw [E.out], rfl⟩
              · have E9 := Lib.hid (show ((p3 : Nat) : Int) = ((s2 + rw dg (l.drop s2) : Nat) : Int) by rw [H3.out, if_pos rfl])
                go_wp2_with fail
                refine (behind_is n c s2 (v := p3) _ HF.out.digits Hn.out HA.out hm (by rw [F1.out]; rfl) (by omega) E9.out).mono ?_
                rintro e w' ⟨rfl, rfl⟩
                go_wp2_with fail
                try go_step3
                go_wp2_with fail
                rw [inSc_ret]
                refine bodyPost_ret (v := .tuple #[.int .i64 (p3 : Nat), .bool true]) (by simp [results, Tryz.results60, go_sem, *]) rfl ?_
                exact ⟨by rw [E.out], rfl⟩
            · have F1 := Lib.hid (show s2 = p2 + 1 + 1 by rw [HS2.out, sgE, if_pos (of_decide_eq_true HSG.out.symm)])
              have EE := of_decide_eq_true HEE.out.symm
              have H3 := Lib.hid (show p3 = if ed = true then s2 + rw dg (l.drop s2) else p2 by
                rw [HP3.out, exE, ← HS2.out, ← HED.out]
                cases ed
                · rw [if_neg (fun h => by cases h.2), if_neg (by simp)]
                · rw [if_pos ⟨EE, rfl⟩, if_pos rfl])
              clear EE
              go_wp2_with fail
              refine (stands_is n c s2 (v := ed) _ HF.out.digits Hn.out HA.out hm (by rw [F1.out]; rfl) HED.out).mono ?_
              rintro e w' ⟨rfl, rfl⟩
              cases ed
              · have E9 := Lib.hid (show p3 = p2 by rw [H3.out, if_neg (by simp)])
                go_wp2_with fail
                rw [← E9.out]
                try go_step3
                go_wp2_with fail
                rw [inSc_ret]
                refine bodyPost_ret (v := .tuple #[.int .i64 (p3 : Nat), .bool true]) (by simp [results, Tryz.results60, go_sem, *]) rfl ?_
                exact ⟨by rw [E.out], rfl⟩
              · have E9 := Lib.hid (show ((p3 : Nat) : Int) = ((s2 + rw dg (l.drop s2) : Nat) : Int) by rw [H3.out, if_pos rfl])
                go_wp2_with fail
                refine (behind_is n c s2 (v := p3) _ HF.out.digits Hn.out HA.out hm (by rw [F1.out]; rfl) (by omega) E9.out).mono ?_
                rintro e w' ⟨rfl, rfl⟩
                go_wp2_with fail
                try go_step3
                go_wp2_with fail
                rw [inSc_ret]
                refine bodyPost_ret (v := .tuple #[.int .i64 (p3 : Nat), .bool true]) (by simp [results, Tryz.results60, go_sem, *]) rfl ?_
                exact ⟨by rw [E.out], rfl⟩
        · have E2 := Lib.hid (show p2 = if pd = true then p1 + 1 + rw dg (l.drop (p1 + 1)) else p1 by
            rw [HP2.out, frE, ← HPD.out]
            cases pd
            · rw [if_neg (fun h => by cases h.2), if_neg (by simp)]
            · rw [if_pos ⟨of_decide_eq_true HPT.out.symm, rfl⟩, if_pos rfl])
          refine (stands_is n c p1 (v := true) _ HF.out.point Hn.out HA.out hm rfl HPT.out).mono ?_
          rintro e w' ⟨rfl, rfl⟩
          go_wp2_with fail
          cases pd
          · have E3 := Lib.hid (show p2 = p1 by rw [E2.out, if_neg (by simp)])
            have E4 := Lib.hid (show (((p1 + 1) : Nat) : Int) = ((p1 + 1 + rw dg (l.drop (p1 + 1)) : Nat) : Int) by rw [rw_at dg0, ← HPD.out]; rfl)
            have E9 := Lib.hid (show p3 = p1 by
              have e := of_decide_eq_true HPT.out.symm
              rw [HP3.out, E3.out, exE, if_neg (by rw [e]; rintro ⟨h | h, _⟩ <;> cases h)])
            refine (behind_is n c (p1 + 1) (v := ((p1 + 1 : Nat) : Int)) _ HF.out.digits Hn.out HA.out hm (by rfl) (by omega) E4.out).mono ?_
            rintro e w' ⟨rfl, rfl⟩
            go_wp2_with fail
            go_step3
            change Exit.inSc Tryz.prog C _ (.goto 2) _ _
            refine inSc_goto (by rw [HC.out]; rfl) ?_
            rw [← E9.out]
            go_wp2_with fail
            rw [inSc_ret]
            refine bodyPost_ret (v := .tuple #[.int .i64 (p3 : Nat), .bool true]) (by simp [results, Tryz.results60, go_sem, *]) rfl ?_
            exact ⟨by rw [E.out], rfl⟩
          · have E3 := Lib.hid (show ((p2 : Nat) : Int) = ((p1 + 1 + rw dg (l.drop (p1 + 1)) : Nat) : Int) by rw [E2.out, if_pos rfl])
            have hne : ((p2 : Int) == (p1 : Int) + 1) = false := by
              have h1 := rw_dg (l := l) (k := p1 + 1) HPD.out.symm
              have h2 := E2.out
              rw [if_pos rfl] at h2
              rw [beq_eq_false_iff_ne]
              omega
            refine (behind_is n c (p1 + 1) (v := p2) _ HF.out.digits Hn.out HA.out hm (by rfl) (by omega) E3.out).mono ?_
            rintro e w' ⟨rfl, rfl⟩
            go_wp2_with fail
            try go_step3
            go_wp2_with fail
            rcases ekey with rfl | rfl
            · have E9 := Lib.hid (show p3 = p2 by rw [HP3.out, exE, if_neg (fun h => of_decide_eq_false HEE.out.symm h.1)])
              refine (stands_is n c p2 (v := false) _ HF.out.exps Hn.out HA.out hm rfl HEE.out).mono ?_
              rintro e w' ⟨rfl, rfl⟩
              go_wp2_with fail
              go_step3
              change Exit.inSc Tryz.prog C _ (.goto 2) _ _
              refine inSc_goto (by rw [HC.out]; rfl) ?_
              rw [← E9.out]
              go_wp2_with fail
              rw [inSc_ret]
              refine bodyPost_ret (v := .tuple #[.int .i64 (p3 : Nat), .bool true]) (by simp [results, Tryz.results60, go_sem, *]) rfl ?_
              exact ⟨by rw [E.out], rfl⟩
            · refine (stands_is n c p2 (v := true) _ HF.out.exps Hn.out HA.out hm rfl HEE.out).mono ?_
              rintro e w' ⟨rfl, rfl⟩
              go_wp2_with fail
              refine (stands_is n c (p2 + 1) (v := sg) _ HF.out.signs Hn.out HA.out hm rfl HSG.out).mono ?_
              rintro e w' ⟨rfl, rfl⟩
              have skey : sg = false ∨ sg = true := by cases sg <;> simp
              rcases skey with rfl | rfl
              · have F1 := Lib.hid (show s2 = p2 + 1 by rw [HS2.out, sgE, if_neg (of_decide_eq_false HSG.out.symm)])
                have EE := of_decide_eq_true HEE.out.symm
                have H3 := Lib.hid (show p3 = if ed = true then s2 + rw dg (l.drop s2) else p2 by
                  rw [HP3.out, exE, ← HS2.out, ← HED.out]
                  cases ed
                  · rw [if_neg (fun h => by cases h.2), if_neg (by simp)]
                  · rw [if_pos ⟨EE, rfl⟩, if_pos rfl])
                clear EE
                go_wp2_with fail
                refine (stands_is n c s2 (v := ed) _ HF.out.digits Hn.out HA.out hm (by rw [F1.out]; rfl) HED.out).mono ?_
                rintro e w' ⟨rfl, rfl⟩
                cases ed
                · have E9 := Lib.hid (show p3 = p2 by rw [H3.out, if_neg (by simp)])
                  go_wp2_with fail
                  rw [← E9.out]
                  try go_step3
                  go_wp2_with fail
                  rw [inSc_ret]
                  refine bodyPost_ret (v := .tuple #[.int .i64 (p3 : Nat), .bool true]) (by simp [results, Tryz.results60, go_sem, *]) rfl ?_
                  exact ⟨by rw [E.out], rfl⟩
                · have E9 := Lib.hid (show ((p3 : Nat) : Int) = ((s2 + rw dg (l.drop s2) : Nat) : Int) by rw [H3.out, if_pos rfl])
                  go_wp2_with fail
                  refine (behind_is n c s2 (v := p3) _ HF.out.digits Hn.out HA.out hm (by rw [F1.out]; rfl) (by omega) E9.out).mono ?_
                  rintro e w' ⟨rfl, rfl⟩
                  go_wp2_with fail
                  try go_step3
                  go_wp2_with fail
                  rw [inSc_ret]
                  refine bodyPost_ret (v := .tuple #[.int .i64 (p3 : Nat), .bool true]) (by simp [results, Tryz.results60, go_sem, *]) rfl ?_
                  exact ⟨by rw [E.out], rfl⟩
              · have F1 := Lib.hid (show s2 = p2 + 1 + 1 by rw [HS2.out, sgE, if_pos (of_decide_eq_true HSG.out.symm)])
                have EE := of_decide_eq_true HEE.out.symm
                have H3 := Lib.hid (show p3 = if ed = true then s2 + rw dg (l.drop s2) else p2 by
                  rw [HP3.out, exE, ← HS2.out, ← HED.out]
                  cases ed
                  · rw [if_neg (fun h => by cases h.2), if_neg (by simp)]
                  · rw [if_pos ⟨EE, rfl⟩, if_pos rfl])
                clear EE
                go_wp2_with fail
                refine (stands_is n c s2 (v := ed) _ HF.out.digits Hn.out HA.out hm (by rw [F1.out]; rfl) HED.out).mono ?_
                rintro e w' ⟨rfl, rfl⟩
                cases ed
                · have E9 := Lib.hid (show p3 = p2 by rw [H3.out, if_neg (by simp)])
                  go_wp2_with fail
                  rw [← E9.out]
                  try go_step3
                  go_wp2_with fail
                  rw [inSc_ret]
                  refine bodyPost_ret (v := .tuple #[.int .i64 (p3 : Nat), .bool true]) (by simp [results, Tryz.results60, go_sem, *]) rfl ?_
                  exact ⟨by rw [E.out], rfl⟩
                · have E9 := Lib.hid (show ((p3 : Nat) : Int) = ((s2 + rw dg (l.drop s2) : Nat) : Int) by rw [H3.out, if_pos rfl])
                  go_wp2_with fail
                  refine (behind_is n c s2 (v := p3) _ HF.out.digits Hn.out HA.out hm (by rw [F1.out]; rfl) (by omega) E9.out).mono ?_
                  rintro e w' ⟨rfl, rfl⟩
                  go_wp2_with fail
                  try go_step3
                  go_wp2_with fail
                  rw [inSc_ret]
                  refine bodyPost_ret (v := .tuple #[.int .i64 (p3 : Nat), .bool true]) (by simp [results, Tryz.results60, go_sem, *]) rfl ?_
                  exact ⟨by rw [E.out], rfl⟩
      · have E1 := Lib.hid (show ((p1 : Nat) : Int) = ((j + rw dg (l.drop j) : Nat) : Int) by rw [HP1.out, intE, if_neg (of_decide_eq_false HZ.out.symm)])
        have hne : ((p1 : Int) == (j : Int)) = false := by
          rw [beq_eq_false_iff_ne]
          omega
        go_wp2_with fail
        refine (stands_is n c j (v := false) _ HF.out.nought Hn.out HA.out hm rfl HZ.out).mono ?_
        rintro e w' ⟨rfl, rfl⟩
        go_wp2_with fail
        refine (behind_is n c j (v := p1) _ HF.out.digits Hn.out HA.out hm rfl (by omega) E1.out).mono ?_
        rintro e w' ⟨rfl, rfl⟩
        go_wp2_with fail
        try go_step3
        go_wp2_with fail
        have pkey : pt = false ∨ pt = true := by cases pt <;> simp
        have ekey : ee = false ∨ ee = true := by cases ee <;> simp
        rcases pkey with rfl | rfl
        · have E2 := Lib.hid (show p2 = p1 by rw [HP2.out, frE, if_neg (fun h => of_decide_eq_false HPT.out.symm h.1)])
          refine (stands_is n c p1 (v := false) _ HF.out.point Hn.out HA.out hm rfl HPT.out).mono ?_
          rintro e w' ⟨rfl, rfl⟩
          go_wp2_with fail
          go_step3
          change Exit.inSc Tryz.prog C _ (.goto 1) _ _
          refine inSc_goto (by rw [HC.out]; rfl) ?_
          rw [← E2.out]
          go_wp2_with fail
          rcases ekey with rfl | rfl
          · have E9 := Lib.hid (show p3 = p2 by rw [HP3.out, exE, if_neg (fun h => of_decide_eq_false HEE.out.symm h.1)])
            refine (stands_is n c p2 (v := false) _ HF.out.exps Hn.out HA.out hm rfl HEE.out).mono ?_
            rintro e w' ⟨rfl, rfl⟩
            go_wp2_with fail
            go_step3
            change Exit.inSc Tryz.prog C _ (.goto 2) _ _
            refine inSc_goto (by rw [HC.out]; rfl) ?_
            rw [← E9.out]
            go_wp2_with fail
            rw [inSc_ret]
            refine bodyPost_ret (v := .tuple #[.int .i64 (p3 : Nat), .bool true]) (by simp [results, Tryz.results60, go_sem, *]) rfl ?_
            exact ⟨by rw [E.out], rfl⟩
          · refine (stands_is n c p2 (v := true) _ HF.out.exps Hn.out HA.out hm rfl HEE.out).mono ?_
            rintro e w' ⟨rfl, rfl⟩
            go_wp2_with fail
            refine (stands_is n c (p2 + 1) (v := sg) _ HF.out.signs Hn.out HA.out hm rfl HSG.out).mono ?_
            rintro e w' ⟨rfl, rfl⟩
            have skey : sg = false ∨ sg = true := by cases sg <;> simp
            rcases skey with rfl | rfl
            · have F1 := Lib.hid (show s2 = p2 + 1 by rw [HS2.out, sgE, if_neg (of_decide_eq_false HSG.out.symm)])
              have EE := of_decide_eq_true HEE.out.symm
              have H3 := Lib.hid (show p3 = if ed = true then s2 + rw dg (l.drop s2) else p2 by
                rw [HP3.out, exE, ← HS2.out, ← HED.out]
                cases ed
                · rw [if_neg (fun h => by cases h.2), if_neg (by simp)]
                · rw [if_pos ⟨EE, rfl⟩, if_pos rfl])
              clear EE
              go_wp2_with fail
              refine (stands_is n c s2 (v := ed) _ HF.out.digits Hn.out HA.out hm (by rw [F1.out]; rfl) HED.out).mono ?_
              rintro e w' ⟨rfl, rfl⟩
              cases ed
              · have E9 := Lib.hid (show p3 = p2 by rw [H3.out, if_neg (by simp)])
                go_wp2_with fail
                rw [← E9.out]
                try go_step3
                go_wp2_with fail
                rw [inSc_ret]
                refine bodyPost_ret (v := .tuple #[.int .i64 (p3 : Nat), .bool true]) (by simp [results, Tryz.results60, go_sem, *]) rfl ?_
                exact ⟨by rw [E.out], rfl⟩
              · have E9 := Lib.hid (show ((p3 : Nat) : Int) = ((s2 + rw dg (l.drop s2) : Nat) : Int) by rw [H3.out, if_pos rfl])
                go_wp2_with fail
                refine (behind_is n c s2 (v := p3) _ HF.out.digits Hn.out HA.out hm (by rw [F1.out]; rfl) (by omega) E9.out).mono ?_
                rintro e w' ⟨rfl, rfl⟩
                go_wp2_with fail
                try go_step3
                go_wp2_with fail
                rw [inSc_ret]
                refine bodyPost_ret (v := .tuple #[.int .i64 (p3 : Nat), .bool true]) (by simp [results, Tryz.results60, go_sem, *]) rfl ?_
                exact ⟨by rw [E.out], rfl⟩
            · have F1 := Lib.hid (show s2 = p2 + 1 + 1 by rw [HS2.out, sgE, if_pos (of_decide_eq_true HSG.out.symm)])
              have EE := of_decide_eq_true HEE.out.symm
              have H3 := Lib.hid (show p3 = if ed = true then s2 + rw dg (l.drop s2) else p2 by
                rw [HP3.out, exE, ← HS2.out, ← HED.out]
                cases ed
                · rw [if_neg (fun h => by cases h.2), if_neg (by simp)]
                · rw [if_pos ⟨EE, rfl⟩, if_pos rfl])
              clear EE
              go_wp2_with fail
              refine (stands_is n c s2 (v := ed) _ HF.out.digits Hn.out HA.out hm (by rw [F1.out]; rfl) HED.out).mono ?_
              rintro e w' ⟨rfl, rfl⟩
              cases ed
              · have E9 := Lib.hid (show p3 = p2 by rw [H3.out, if_neg (by simp)])
                go_wp2_with fail
                rw [← E9.out]
                try go_step3
                go_wp2_with fail
                rw [inSc_ret]
                refine bodyPost_ret (v := .tuple #[.int .i64 (p3 : Nat), .bool true]) (by simp [results, Tryz.results60, go_sem, *]) rfl ?_
                exact ⟨by rw [E.out], rfl⟩
              · have E9 := Lib.hid (show ((p3 : Nat) : Int) = ((s2 + rw dg (l.drop s2) : Nat) : Int) by rw [H3.out, if_pos rfl])
                go_wp2_with fail
                refine (behind_is n c s2 (v := p3) _ HF.out.digits Hn.out HA.out hm (by rw [F1.out]; rfl) (by omega) E9.out).mono ?_
                rintro e w' ⟨rfl, rfl⟩
                go_wp2_with fail
                try go_step3
                go_wp2_with fail
                rw [inSc_ret]
                refine bodyPost_ret (v := .tuple #[.int .i64 (p3 : Nat), .bool true]) (by simp [results, Tryz.results60, go_sem, *]) rfl ?_
                exact ⟨by rw [E.out], rfl⟩
        · have E2 := Lib.hid (show p2 = if pd = true then p1 + 1 + rw dg (l.drop (p1 + 1)) else p1 by
            rw [HP2.out, frE, ← HPD.out]
            cases pd
            · rw [if_neg (fun h => by cases h.2), if_neg (by simp)]
            · rw [if_pos ⟨of_decide_eq_true HPT.out.symm, rfl⟩, if_pos rfl])
          refine (stands_is n c p1 (v := true) _ HF.out.point Hn.out HA.out hm rfl HPT.out).mono ?_
          rintro e w' ⟨rfl, rfl⟩
          go_wp2_with fail
          cases pd
          · have E3 := Lib.hid (show p2 = p1 by rw [E2.out, if_neg (by simp)])
            have E4 := Lib.hid (show (((p1 + 1) : Nat) : Int) = ((p1 + 1 + rw dg (l.drop (p1 + 1)) : Nat) : Int) by rw [rw_at dg0, ← HPD.out]; rfl)
            have E9 := Lib.hid (show p3 = p1 by
              have e := of_decide_eq_true HPT.out.symm
              rw [HP3.out, E3.out, exE, if_neg (by rw [e]; rintro ⟨h | h, _⟩ <;> cases h)])
            refine (behind_is n c (p1 + 1) (v := ((p1 + 1 : Nat) : Int)) _ HF.out.digits Hn.out HA.out hm (by rfl) (by omega) E4.out).mono ?_
            rintro e w' ⟨rfl, rfl⟩
            go_wp2_with fail
            go_step3
            change Exit.inSc Tryz.prog C _ (.goto 2) _ _
            refine inSc_goto (by rw [HC.out]; rfl) ?_
            rw [← E9.out]
            go_wp2_with fail
            rw [inSc_ret]
            refine bodyPost_ret (v := .tuple #[.int .i64 (p3 : Nat), .bool true]) (by simp [results, Tryz.results60, go_sem, *]) rfl ?_
            exact ⟨by rw [E.out], rfl⟩
          · have E3 := Lib.hid (show ((p2 : Nat) : Int) = ((p1 + 1 + rw dg (l.drop (p1 + 1)) : Nat) : Int) by rw [E2.out, if_pos rfl])
            have hne : ((p2 : Int) == (p1 : Int) + 1) = false := by
              have h1 := rw_dg (l := l) (k := p1 + 1) HPD.out.symm
              have h2 := E2.out
              rw [if_pos rfl] at h2
              rw [beq_eq_false_iff_ne]
              omega
            refine (behind_is n c (p1 + 1) (v := p2) _ HF.out.digits Hn.out HA.out hm (by rfl) (by omega) E3.out).mono ?_
            rintro e w' ⟨rfl, rfl⟩
            go_wp2_with fail
            try go_step3
            go_wp2_with fail
            rcases ekey with rfl | rfl
            · have E9 := Lib.hid (show p3 = p2 by rw [HP3.out, exE, if_neg (fun h => of_decide_eq_false HEE.out.symm h.1)])
              refine (stands_is n c p2 (v := false) _ HF.out.exps Hn.out HA.out hm rfl HEE.out).mono ?_
              rintro e w' ⟨rfl, rfl⟩
              go_wp2_with fail
              go_step3
              change Exit.inSc Tryz.prog C _ (.goto 2) _ _
              refine inSc_goto (by rw [HC.out]; rfl) ?_
              rw [← E9.out]
              go_wp2_with fail
              rw [inSc_ret]
              refine bodyPost_ret (v := .tuple #[.int .i64 (p3 : Nat), .bool true]) (by simp [results, Tryz.results60, go_sem, *]) rfl ?_
              exact ⟨by rw [E.out], rfl⟩
            · refine (stands_is n c p2 (v := true) _ HF.out.exps Hn.out HA.out hm rfl HEE.out).mono ?_
              rintro e w' ⟨rfl, rfl⟩
              go_wp2_with fail
              refine (stands_is n c (p2 + 1) (v := sg) _ HF.out.signs Hn.out HA.out hm rfl HSG.out).mono ?_
              rintro e w' ⟨rfl, rfl⟩
              have skey : sg = false ∨ sg = true := by cases sg <;> simp
              rcases skey with rfl | rfl
              · have F1 := Lib.hid (show s2 = p2 + 1 by rw [HS2.out, sgE, if_neg (of_decide_eq_false HSG.out.symm)])
                have EE := of_decide_eq_true HEE.out.symm
                have H3 := Lib.hid (show p3 = if ed = true then s2 + rw dg (l.drop s2) else p2 by
                  rw [HP3.out, exE, ← HS2.out, ← HED.out]
                  cases ed
                  · rw [if_neg (fun h => by cases h.2), if_neg (by simp)]
                  · rw [if_pos ⟨EE, rfl⟩, if_pos rfl])
                clear EE
                go_wp2_with fail
                refine (stands_is n c s2 (v := ed) _ HF.out.digits Hn.out HA.out hm (by rw [F1.out]; rfl) HED.out).mono ?_
                rintro e w' ⟨rfl, rfl⟩
                cases ed
                · have E9 := Lib.hid (show p3 = p2 by rw [H3.out, if_neg (by simp)])
                  go_wp2_with fail
                  rw [← E9.out]
                  try go_step3
                  go_wp2_with fail
                  rw [inSc_ret]
                  refine bodyPost_ret (v := .tuple #[.int .i64 (p3 : Nat), .bool true]) (by simp [results, Tryz.results60, go_sem, *]) rfl ?_
                  exact ⟨by rw [E.out], rfl⟩
                · have E9 := Lib.hid (show ((p3 : Nat) : Int) = ((s2 + rw dg (l.drop s2) : Nat) : Int) by rw [H3.out, if_pos rfl])
                  go_wp2_with fail
                  refine (behind_is n c s2 (v := p3) _ HF.out.digits Hn.out HA.out hm (by rw [F1.out]; rfl) (by omega) E9.out).mono ?_
                  rintro e w' ⟨rfl, rfl⟩
                  go_wp2_with fail
                  try go_step3
                  go_wp2_with fail
                  rw [inSc_ret]
                  refine bodyPost_ret (v := .tuple #[.int .i64 (p3 : Nat), .bool true]) (by simp [results, Tryz.results60, go_sem, *]) rfl ?_
                  exact ⟨by rw [E.out], rfl⟩
              · have F1 := Lib.hid (show s2 = p2 + 1 + 1 by rw [HS2.out, sgE, if_pos (of_decide_eq_true HSG.out.symm)])
                have EE := of_decide_eq_true HEE.out.symm
                have H3 := Lib.hid (show p3 = if ed = true then s2 + rw dg (l.drop s2) else p2 by
                  rw [HP3.out, exE, ← HS2.out, ← HED.out]
                  cases ed
                  · rw [if_neg (fun h => by cases h.2), if_neg (by simp)]
                  · rw [if_pos ⟨EE, rfl⟩, if_pos rfl])
                clear EE
                go_wp2_with fail
                refine (stands_is n c s2 (v := ed) _ HF.out.digits Hn.out HA.out hm (by rw [F1.out]; rfl) HED.out).mono ?_
                rintro e w' ⟨rfl, rfl⟩
                cases ed
                · have E9 := Lib.hid (show p3 = p2 by rw [H3.out, if_neg (by simp)])
                  go_wp2_with fail
                  rw [← E9.out]
                  try go_step3
                  go_wp2_with fail
                  rw [inSc_ret]
                  refine bodyPost_ret (v := .tuple #[.int .i64 (p3 : Nat), .bool true]) (by simp [results, Tryz.results60, go_sem, *]) rfl ?_
                  exact ⟨by rw [E.out], rfl⟩
                · have E9 := Lib.hid (show ((p3 : Nat) : Int) = ((s2 + rw dg (l.drop s2) : Nat) : Int) by rw [H3.out, if_pos rfl])
                  go_wp2_with fail
                  refine (behind_is n c s2 (v := p3) _ HF.out.digits Hn.out HA.out hm (by rw [F1.out]; rfl) (by omega) E9.out).mono ?_
                  rintro e w' ⟨rfl, rfl⟩
                  go_wp2_with fail
                  try go_step3
                  go_wp2_with fail
                  rw [inSc_ret]
                  refine bodyPost_ret (v := .tuple #[.int .i64 (p3 : Nat), .bool true]) (by simp [results, Tryz.results60, go_sem, *]) rfl ?_
                  exact ⟨by rw [E.out], rfl⟩
end
end Jk
end Go.Proofs.YtdclhepjoifpiaaGreatDoor
/- What landed: where a string ends. -/
namespace Go.Proofs.YtdclhepjoifpiaaGreatDoor
open Go.RowKit
namespace Jk

theorem strE_esc {l : List UInt8} {k : Nat} (hk : k < l.length) (h : bt l k = 92) : strE l k = match escE l k with | .ok m => strE l m | .bad m => .bad m := by
  rw [strE, dif_pos hk, if_neg (by rw [h]; decide), if_neg (by rw [h]; decide), if_neg (by rw [h]; simp), escE]
  by_cases h1 : k + 1 = l.length
  · rw [if_pos h1]
    have e : bt l (k + 1) = 0 := bt_far (by omega)
    rw [e, if_neg (by decide), if_neg (by decide)]
  · rw [if_neg h1]
    by_cases h2 : bt l (k + 1) = 117
    · rw [if_pos h2, if_neg (by rw [h2]; decide), if_pos h2]
      cases h4 l (k + 1) <;> rfl
    · rw [if_neg h2]
      by_cases h3 : esc (bt l (k + 1)) = true
      · rw [if_pos h3, if_pos h3]
      · rw [if_neg h3, if_neg h3, if_neg h2]
theorem escE_ok {l : List UInt8} {k m : Nat} (h : escE l k = .ok m) : k < m ∧ m ≤ l.length := by
  unfold escE at h
  split at h
  · rename_i g; have := esc_in g; injection h with h; omega
  · split at h
    · cases hq : h4 l (k + 1) with
      | some a => rw [hq] at h; cases h
      | none => rw [hq] at h; have := hx_in (h4_none hq).2.2.2; injection h with h; omega
    · cases h
section
variable {l : List UInt8} {B : Nat} {A : Option Addr}
set_option maxHeartbeats 4000000 in
theorem stringEnd_is (n c i : Nat) {x : Int} (w : World) (hF : Forms) (hn : n = l.length) (hA : Byt w B A l) (hm : n ≤ 1000000) (hx : x = i) (hi : i < l.length) :
    Calls Tryz.prog 61 #[.slice A n c, .int .i64 x] w fun e w' => e = .returned (srV (strE l (i + 1))) ∧ w = w' := by
  subst hx
  have hin : i < n := by omega
  have hw1 : wrap64 ((i : Int) + 1) = ((i + 1 : Nat) : Int) := by unfold wrap64; omega
  have HF := Lib.hid hF
  have Hn := Lib.hid hn
  have HA := Lib.hid hA
  obtain ⟨b, off, rfl, _, hc⟩ := hA.at_ hi
  have HC := Lib.hid hc
  clear hF hn hA hc hi
  go_enter Tryz.func61, Tryz.ntmps61
  go_wp2_with fail
  go_loop [4, 5] (fun s t => ∃ k : Nat, k ≤ n ∧ s = .int .i64 k ∧ (∃ q, t = .bool q) ∧ Hid (strE l (i + 1) = strE l k)) (fun s _ => n - (intOf s).toNat)
  case atStart => exact ⟨i + 1, by omega, rfl, ⟨_, rfl⟩, Lib.hid rfl⟩
  case round =>
    obtain ⟨k, hk, rfl, ⟨q, rfl⟩, HS⟩ := hrel
    have hw2 : wrap64 ((k : Int) + 1) = ((k + 1 : Nat) : Int) := by unfold wrap64; omega
    by_cases hlt : k < n
    · have kl : k < l.length := by rw [← Hn.out]; exact hlt
      have c1 := HC.out k kl
      have G := Lib.hid (show strE l k = _ by rw [strE, dif_pos kl])
      obtain ⟨d, hd⟩ : ∃ d, d = bt l k := ⟨_, rfl⟩
      have HD := Lib.hid hd
      rw [← hd] at c1
      by_cases h32 : d < 32
      · have R := Lib.hid (show strE l (i + 1) = .bad k by
          rw [HS.out, G.out, ← hd, if_neg (by omega), if_pos h32])
        have h32' : ¬ 32 ≤ d := by omega
        clear hd G HS kl h32
        go_wp2_with fail
        refine bodyPost_ret (v := .tuple #[.int .i64 k, .bool false]) (by simp [results, Tryz.results61, go_sem, *]) rfl ?_
        exact ⟨by rw [R.out]; rfl, rfl⟩
      · have h32' : 32 ≤ d := by omega
        by_cases h34 : d = 34
        · have R := Lib.hid (show strE l (i + 1) = .ok (k + 1) by rw [HS.out, G.out, ← hd, if_pos h34])
          subst h34
          clear hd G HS kl h32
          go_wp2_with fail
          refine bodyPost_ret (v := .tuple #[.int .i64 ((k + 1 : Nat) : Int), .bool true]) (by simp [results, Tryz.results61, go_sem, *]) rfl ?_
          exact ⟨by rw [R.out]; rfl, rfl⟩
        · have q34 : (d == 34) = false := by simpa using h34
          by_cases h92 : d = 92
          · have T : strE l k = match escE l k with | .ok m => strE l m | .bad m => .bad m := strE_esc kl (by rw [← hd]; exact h92)
            have C := Lib.hid (fun w hA => escapeEnd_is (A := some ⟨b, off, none⟩) (B := B) n c k (x := k) w HF.out Hn.out hA hm rfl (by omega))
            subst h92
            cases he : escE l k with
            | ok m =>
              rw [he] at T C
              have T := T
              simp only at T
              have hm2 := escE_ok he
              have hmn : m ≤ n := by rw [Hn.out]; exact hm2.2
              have hkm : k < m := hm2.1
              have R := Lib.hid (HS.out.trans T)
              simp only [srV] at C
              clear hd G HS kl T he h34 hm2 h32
              go_wp2_with fail
              refine (C.out _ HA.out).mono ?_
              rintro e w' ⟨rfl, rfl⟩
              go_wp2_with fail
              go_round
              case rel => exact ⟨m, hmn, rfl, ⟨_, rfl⟩, R⟩
              case measure => simp [intOf]; omega
            | bad m =>
              rw [he] at T C
              simp only at T
              have R := Lib.hid (HS.out.trans T)
              simp only [srV] at C
              clear hd G HS kl T he h34 h32
              go_wp2_with fail
              refine (C.out _ HA.out).mono ?_
              rintro e w' ⟨rfl, rfl⟩
              go_wp2_with fail
              refine bodyPost_ret (v := .tuple #[.int .i64 (m : Nat), .bool false]) (by simp [results, Tryz.results61, go_sem, *]) rfl ?_
              exact ⟨by rw [R.out]; rfl, rfl⟩
          · have q92 : (d == 92) = false := by simpa using h92
            have R := Lib.hid (show strE l (i + 1) = strE l (k + 1) by
              rw [HS.out, G.out, ← hd, if_neg h34, if_neg (by omega), if_pos h92])
            clear hd G HS kl h34 h92 h32
            go_wp2_with fail
            go_round
            case rel => exact ⟨k + 1, by omega, rfl, ⟨_, rfl⟩, R⟩
            case measure => simp [intOf]; omega
    · have R := Lib.hid (show strE l (i + 1) = .bad k by
        rw [HS.out, strE, dif_neg (by rw [← Hn.out]; exact hlt), show k = l.length by have := Hn.out; omega])
      clear HS
      go_wp2_with fail
      refine bodyPost_ret (v := .tuple #[.int .i64 k, .bool false]) (by simp [results, Tryz.results61, go_sem, *]) rfl ?_
      exact ⟨by rw [R.out]; rfl, rfl⟩
end
end Jk
end Go.Proofs.YtdclhepjoifpiaaGreatDoor
/- What landed: the next token. -/
namespace Go.Proofs.YtdclhepjoifpiaaGreatDoor
open Go.RowKit
namespace Jk

/-- A token of what landed; its answers' blocks. -/
abbrev ltV (k i j : Int) : Value := .agg #[.int .u8 k, .int .i64 i, .int .i64 j]
abbrev ltO (k i j : Int) : Obj := .cells #[.int .u8 k, .int .i64 i, .int .i64 j] 52
/-- The answers' blocks: a token's, a fault's. -/
structure RL (w wx : World) (k i j c a : Int) : Prop where
  below : Below w.heap.size w wx
  r : wx.heap[w.heap.size]? = some (ltO k i j)
  v : wx.heap[w.heap.size + 1]? = some (fvO c a)
section
variable {w wx wy : World} {k i j c a k' i' j' c' a' : Int}
theorem RL.start : RL w ((w.alloc (ltO k i j)).alloc (fvO c a)) k i j c a := by
  refine ⟨((Below.refl _ _).alloc (Nat.le_refl _) _).alloc (by simp) _, ?_, ?_⟩
  · show ((w.heap.push _).push _)[w.heap.size]? = _
    rw [Array.getElem?_push, if_neg (by simp), Array.getElem?_push, if_pos rfl]
  · show ((w.heap.push _).push _)[w.heap.size + 1]? = _
    rw [Array.getElem?_push, if_pos (by simp)]
theorem RL.on (H : RL w wx k i j c a) (hb : Below wx.heap.size wx wy) : RL w wy k i j c a :=
  ⟨below_tr H.below hb, by rw [hb.block _ (lt_blk H.r)]; exact H.r, by rw [hb.block _ (lt_blk H.v)]; exact H.v⟩
theorem RL.cells (H : RL w wx k i j c a) : (wx.cell? ⟨w.heap.size, 0, none⟩ = some (.int .u8 k) ∧ wx.cell? ⟨w.heap.size, 1, none⟩ = some (.int .i64 i) ∧ wx.cell? ⟨w.heap.size, 2, none⟩ = some (.int .i64 j) ∧ wx.cell? ⟨w.heap.size + 1, 0, none⟩ = some (.int .i64 c) ∧ wx.cell? ⟨w.heap.size + 1, 1, none⟩ = some (.int .i64 a)) ∧
    wx.frozen? ⟨w.heap.size, 0, none⟩ = false ∧ wx.frozen? ⟨w.heap.size, 1, none⟩ = false ∧ wx.frozen? ⟨w.heap.size, 2, none⟩ = false ∧ wx.frozen? ⟨w.heap.size + 1, 0, none⟩ = false ∧ wx.frozen? ⟨w.heap.size + 1, 1, none⟩ = false := by
  simp [World.cell?, World.frozen?, H.r, H.v]
theorem RL.set (H : RL w wx k i j c a) : RL w (((((wx.setCell ⟨w.heap.size, 0, none⟩ (.int .u8 k')).setCell ⟨w.heap.size, 1, none⟩ (.int .i64 i')).setCell ⟨w.heap.size, 2, none⟩ (.int .i64 j')).setCell ⟨w.heap.size + 1, 0, none⟩ (.int .i64 c')).setCell ⟨w.heap.size + 1, 1, none⟩ (.int .i64 a')) k' i' j' c' a' := by
  have h1 := heap_setCell_same wx w.heap.size 0 _ _ (.int .u8 k') H.r
  have h2 := heap_setCell_same _ w.heap.size 1 _ _ (.int .i64 i') h1
  have h3 := heap_setCell_same _ w.heap.size 2 _ _ (.int .i64 j') h2
  have oth : ∀ (W : World) (p q n : Nat) (o : Obj) (u : Value), p ≠ q → W.heap[p]? = some o → (W.setCell ⟨q, n, none⟩ u).heap[p]? = some o := fun W p q n o u hpq hW => by
    rw [heap_setCell_other W ⟨q, n, none⟩ p u (by simpa using hpq)]; exact hW
  have g0 := oth _ (w.heap.size + 1) w.heap.size 2 _ (.int .i64 j') (by omega) (oth _ (w.heap.size + 1) w.heap.size 1 _ (.int .i64 i') (by omega) (oth _ (w.heap.size + 1) w.heap.size 0 _ (.int .u8 k') (by omega) H.v))
  have g1 := heap_setCell_same _ (w.heap.size + 1) 0 _ _ (.int .i64 c') g0
  have g2 := heap_setCell_same _ (w.heap.size + 1) 1 _ _ (.int .i64 a') g1
  refine ⟨((((H.below.setCell (by simp) _).setCell (by simp) _).setCell (by simp) _).setCell (by simp) _).setCell (by simp) _, ?_, g2⟩
  exact oth _ _ _ _ _ _ (by omega) (oth _ _ _ _ _ _ (by omega) h3)
end
/-- What is answered of a place. -/
def lnA (i : Nat) : TR → Value
  | .tok k n => .tuple #[ltV k i ((i + n : Nat) : Int), fvV 0 0]
  | .bad n => .tuple #[ltV 0 0 0, fvV 3 ((i + n : Nat) : Int)]
/-- The five forms. -/
abbrev fmV (F : ByteArray) (f : Nat) : Value := .agg #[.string F, .func (.func f) #[] #[]]
abbrev fmO (F : ByteArray) (f : Nat) : Obj := .cells #[.string F, .func (.func f) #[] #[]] 92
abbrev fmsV : Value := .agg #[.string ⟨#[32, 9, 10, 13]⟩, .func (.func 57) #[] #[], .string ⟨#[123, 125, 91, 93, 44, 58]⟩, .func (.func 58) #[] #[], .string ⟨#[97, 98, 99, 100, 101, 102, 103, 104, 105, 106, 107, 108, 109, 110, 111, 112, 113, 114, 115, 116, 117, 118, 119, 120, 121, 122]⟩, .func (.func 59) #[] #[], .string ⟨#[45, 48, 49, 50, 51, 52, 53, 54, 55, 56, 57]⟩, .func (.func 60) #[] #[], .string ⟨#[34]⟩, .func (.func 61) #[] #[]]
abbrev fmsO : Obj := .cells #[.string ⟨#[32, 9, 10, 13]⟩, .func (.func 57) #[] #[], .string ⟨#[123, 125, 91, 93, 44, 58]⟩, .func (.func 58) #[] #[], .string ⟨#[97, 98, 99, 100, 101, 102, 103, 104, 105, 106, 107, 108, 109, 110, 111, 112, 113, 114, 115, 116, 117, 118, 119, 120, 121, 122]⟩, .func (.func 59) #[] #[], .string ⟨#[45, 48, 49, 50, 51, 52, 53, 54, 55, 56, 57]⟩, .func (.func 60) #[] #[], .string ⟨#[34]⟩, .func (.func 61) #[] #[]] 93
theorem forms_is (w : World) : Calls Tryz.prog 38 #[] w fun e w' => e = .returned fmsV ∧ Below w.heap.size w w' := by
  go_enter Tryz.func38, Tryz.ntmps38
  go_wp2_with fail
  refine bodyPost_ret (v := fmsV) (by simp [results, Tryz.results38, go_sem, *]) rfl ?_
  exact ⟨rfl, (Below.refl _ _).alloc (Nat.le_refl _) _⟩
theorem form_0 (w : World) : (Instr.index 93 fmsV (.int .i64 0)).run Tryz.prog w = .ok (fmV ⟨#[32, 9, 10, 13]⟩ 57) w := by kernel_rfl
theorem form_1 (w : World) : (Instr.index 93 fmsV (.int .i64 1)).run Tryz.prog w = .ok (fmV ⟨#[123, 125, 91, 93, 44, 58]⟩ 58) w := by kernel_rfl
theorem form_2 (w : World) : (Instr.index 93 fmsV (.int .i64 2)).run Tryz.prog w = .ok (fmV ⟨#[97, 98, 99, 100, 101, 102, 103, 104, 105, 106, 107, 108, 109, 110, 111, 112, 113, 114, 115, 116, 117, 118, 119, 120, 121, 122]⟩ 59) w := by kernel_rfl
theorem form_3 (w : World) : (Instr.index 93 fmsV (.int .i64 3)).run Tryz.prog w = .ok (fmV ⟨#[45, 48, 49, 50, 51, 52, 53, 54, 55, 56, 57]⟩ 60) w := by kernel_rfl
theorem form_4 (w : World) : (Instr.index 93 fmsV (.int .i64 4)).run Tryz.prog w = .ok (fmV ⟨#[34]⟩ 61) w := by kernel_rfl
/-- Where a form of each kind ends. -/
def en (l : List UInt8) (i : Nat) : Nat → Nat × Bool
  | 0 => (i + rw spc (l.drop i), true)
  | 1 => (i + 1, true)
  | 2 => if words ((l.drop i).take (rw ltr (l.drop i))) = true then (i + rw ltr (l.drop i), true) else (i, false)
  | 3 => if dg (bt l (mnI l i)) = true then (exE l (frE l (intE l (mnI l i))), true) else (mnI l i, false)
  | _ => match strE l (i + 1) with | .ok n => (n, true) | .bad n => (n, false)
def enV (p : Nat × Bool) : Value := .tuple #[.int .i64 (p.1 : Nat), .bool p.2]
/-- What is told of a place at which a form of a kind begins. -/
def enA (i m : Nat) (p : Nat × Bool) : Value := if p.2 = true then .tuple #[ltV m i (p.1 : Nat), fvV 0 0] else .tuple #[ltV 0 0 0, fvV 3 (p.1 : Nat)]
section
variable {l : List UInt8} {i : Nat}
theorem nx_en0 (h : spc (bt l i) = true) : lnA i (nx (l.drop i)) = enA i 0 (en l i 0) := by
  rw [nx_space (by rw [bt_drop, Nat.add_zero]; exact h)]; rfl
theorem nx_en1 (h : mrk (bt l i) = true) : lnA i (nx (l.drop i)) = enA i 1 (en l i 1) := by
  rw [nx_mark (by rw [bt_drop, Nat.add_zero]; exact h)]; rfl
theorem nx_en2 (h : ltr (bt l i) = true) : lnA i (nx (l.drop i)) = enA i 2 (en l i 2) := by
  rw [nx_letter (by rw [bt_drop, Nat.add_zero]; exact h), en]
  split <;> rfl
theorem nx_en3 (h : (decide (bt l i = 45) || dg (bt l i)) = true) : lnA i (nx (l.drop i)) = enA i 3 (en l i 3) := by
  have e0 : bt (l.drop i) 0 = bt l i := by rw [bt_drop, Nat.add_zero]
  have em : i + mnE (l.drop i) = mnI l i := by unfold mnE mnI; rw [e0]; split <;> omega
  rw [Bool.or_eq_true, decide_eq_true_eq] at h
  rw [nx_digit (by rw [e0]; exact h), bt_drop, em, en]
  split
  · rw [lnA, nmE, exE_drop, frE_drop, intE_drop, em]; rfl
  · rw [lnA, em]; rfl
theorem nx_en4 (hi : i < l.length) (h : decide (bt l i = 34) = true) : lnA i (nx (l.drop i)) = enA i 4 (en l i 4) := by
  have e : en l i 4 = (match strE l (i + 1) with | .ok n => (n, true) | .bad n => (n, false)) := rfl
  rw [nx_quote (by rw [bt_drop, Nat.add_zero]; exact of_decide_eq_true h), e, ← (strE_drop (Nat.le_of_lt hi) _ 1 (Nat.le_refl _)).resolve_right (by omega)]
  cases strE (l.drop i) 1 <;> rfl
theorem nx_en5 (h0 : spc (bt l i) = false) (h1 : mrk (bt l i) = false) (h2 : ltr (bt l i) = false) (h3 : (decide (bt l i = 45) || dg (bt l i)) = false) (h4 : decide (bt l i = 34) = false) : lnA i (nx (l.drop i)) = .tuple #[ltV 0 0 0, fvV 3 (i : Nat)] := by
  have e0 : bt (l.drop i) 0 = bt l i := by rw [bt_drop, Nat.add_zero]
  rw [Bool.or_eq_false_iff] at h3
  rw [nx_other (by rw [e0, h0]) (by rw [e0, h1]) (by rw [e0, h2]) (by rw [e0]; exact of_decide_eq_false h3.1) (by rw [e0]; exact h3.2) (by rw [e0]; exact of_decide_eq_false h4)]; rfl
variable {B : Nat} {A : Option Addr}
def EndIs (l : List UInt8) (A : Option Addr) (n c i m f : Nat) : Prop := ∀ w B, Byt w B A l → Calls Tryz.prog f #[.slice A n c, .int .i64 (i : Nat)] w fun e w' => e = .returned (enV (en l i m)) ∧ w = w'
variable {n c : Nat} (hF : Forms) (hn : n = l.length) (hm : n ≤ 1000000) (hi : i < l.length)
include hn hm hi
theorem end0 (hF : Forms) : EndIs l A n c i 0 57 := fun w B hA => spaceEnd_is n c i w hF hn hA hm rfl (by omega) rfl
theorem end1 : EndIs l A n c i 1 58 := fun w B hA => markEnd_is _ w (by omega) (by omega)
theorem end2 (hF : Forms) (hnc : n ≤ c) (hc6 : c ≤ maxLen) : EndIs l A n c i 2 59 := fun w B hA => by
  have := wordEnd_is n c i w hF hn hnc hc6 hA hm rfl hi
  have e : wdv l i = enV (en l i 2) := by unfold wdv en; split <;> rfl
  rwa [e] at this
theorem end3 (hF : Forms) : EndIs l A n c i 3 60 := fun w B hA => by
  have := numberEnd_is n c i w hF hn hA hm rfl hi
  have e : nmV l i = enV (en l i 3) := by unfold nmV en; split <;> rfl
  rwa [e] at this
theorem end4 (hF : Forms) : EndIs l A n c i 4 61 := fun w B hA => by
  have := stringEnd_is n c i w hF hn hA hm rfl hi
  have e : srV (strE l (i + 1)) = enV (en l i 4) := by unfold en; cases strE l (i + 1) <;> rfl
  rwa [e] at this
end
end Jk
end Go.Proofs.YtdclhepjoifpiaaGreatDoor
/- What landed: the texts of first bytes, as tests. -/
namespace Go.Proofs.YtdclhepjoifpiaaGreatDoor
open Go.RowKit
namespace Jk

theorem fp_of {L : List UInt8} {F : ByteArray} {p : Int → Bool} (hF : F.data.toList = L) (h : (p 0 == false && (List.range 256).all (fun n => decide ((decide (0 ≤ Lib.indexByte L (UInt8.ofNat n)) = p (n : Int)) ∧ -1 ≤ Lib.indexByte L (UInt8.ofNat n) ∧ Lib.indexByte L (UInt8.ofNat n) ≤ 1000))) = true) : FP F p := by
  rw [Bool.and_eq_true, beq_iff_eq] at h
  refine ⟨h.1, fun c h0 h1 => ?_⟩
  obtain ⟨n, rfl⟩ : ∃ n : Nat, c = n := ⟨c.toNat, by omega⟩
  obtain ⟨e1, e2, e3⟩ := of_decide_eq_true ((List.all_eq_true.1 h.2) n (List.mem_range.2 (by omega)))
  refine ⟨_, e1, e2, e3, fun w => ?_⟩
  refine (Tryz.strings_IndexByte F n w).mono ?_
  rintro e w' ⟨rfl, rfl⟩
  rw [hF]
  exact ⟨rfl, rfl⟩
theorem forms_ok : Forms where
  blanks := fp_of rfl (by decide +kernel)
  marks := fp_of rfl (by decide +kernel)
  letters := fp_of rfl (by decide +kernel)
  nums := fp_of rfl (by decide +kernel)
  digits := fp_of rfl (by decide +kernel)
  quote := fp_of rfl (by decide +kernel)
  minus := fp_of rfl (by decide +kernel)
  nought := fp_of rfl (by decide +kernel)
  point := fp_of rfl (by decide +kernel)
  exps := fp_of rfl (by decide +kernel)
  signs := fp_of rfl (by decide +kernel)
  escs := fp_of rfl (by decide +kernel)
  u := fp_of rfl (by decide +kernel)
  figs := fp_of rfl (by decide +kernel)
end Jk
end Go.Proofs.YtdclhepjoifpiaaGreatDoor
