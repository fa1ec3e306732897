/- What landed: where a number ends. -/
import Derived.Test.YtggeiajbcehkjaaGreatDoorGab
import Derived.Test.YtggeiajbcehkjaaGreatDoorGas
namespace Go.Proofs.YtggeiajbcehkjaaGreatDoor
open Go.RowKit
namespace Jk

/-- Where a number ends, or where its first digit is missing. -/
def mnI (l : List UInt8) (i : Nat) : Nat := if bt l i = 45 then i + 1 else i
def nmV (l : List UInt8) (i : Nat) : Value := if dg (bt l (mnI l i)) = true then .tuple #[.int .i64 ((exE l (frE l (intE l (mnI l i))) : Nat) : Int), .bool true] else .tuple #[.int .i64 (mnI l i : Nat), .bool false]
section
variable {l : List UInt8} {B : Nat} {A : Option Addr}
set_option maxHeartbeats 4000000 in
set_option maxRecDepth 100000 in
theorem numberEnd_is (n c i : Nat) {x : Int} (w : World) (hF : Forms) (hn : n = l.length) (hA : Byt w B A l) (hm : n ≤ 1000000) (hx : x = i) (hi : i < l.length) :
    Calls Tryz.prog 134 #[.slice A n c, .int .i64 x] w fun e w' => e = .returned (nmV l i) ∧ w = w' := by
  subst hx
  have hin : i < n := by omega
  have hi6 : i ≤ 2000000 := by omega
  have HF := Lib.hid hF
  have Hn := Lib.hid hn
  have HA := Lib.hid hA
  obtain ⟨j, hj⟩ : ∃ j, j = mnI l i := ⟨_, rfl⟩
  have hji : j ≤ 1000000 := by rw [hj]; unfold mnI; split <;> omega
  have HJ := Lib.hid hj
  obtain ⟨e0, HE0⟩ : ∃ b, Hid (b = decide (bt l i = 45)) := ⟨_, rfl⟩
  clear hF hn hA hi hj
  go_enter Tryz.func134, Tryz.ntmps134
  go_wp2_with fail
  refine wp_scope_sw' ?_
  intro C hC
  have HC := Lib.hid hC
  clear hC
  go_upto_if 10 with (go_at_call 118; refine (stands_is n c i (v := e0) _ HF.out.minus Hn.out HA.out hm rfl HE0.out).mono ?_; rintro e w' ⟨rfl, rfl⟩)
  go_cut [6] from 10 to 12 (fun v wx => v = .int .i64 j ∧ w = wx)
  case first =>
    cases e0
    · have E1 := Lib.hid (show j = i by rw [HJ.out, mnI, if_neg (of_decide_eq_false HE0.out.symm)])
      go_wp2_with fail
      go_meet
      exact ⟨by rw [E1.out], rfl⟩
    · have E1 := Lib.hid (show j = i + 1 by rw [HJ.out, mnI, if_pos (of_decide_eq_true HE0.out.symm)])
      go_wp2_with fail
      go_meet
      exact ⟨by rw [E1.out]; rfl, rfl⟩
  case rest =>
    obtain ⟨rfl, rfl⟩ := hcut
    cases hd : dg (bt l j)
    · have z : bt l j ≠ 48 := fun e => by rw [e] at hd; cases hd
      have Z := Lib.hid (show false = decide (bt l j = 48) from (decide_eq_false z).symm)
      have E := Lib.hid (show nmV l i = .tuple #[.int .i64 (j : Nat), .bool false] by rw [nmV, ← HJ.out, hd]; rfl)
      have E2 := Lib.hid (show ((j : Nat) : Int) = ((j + rw dg (l.drop j) : Nat) : Int) by rw [rw_at dg0, hd]; rfl)
      clear hd z
      go_wp2_with fail
      refine (stands_is n c j (v := false) _ HF.out.nought Hn.out HA.out hm rfl Z.out).mono ?_
      rintro e w' ⟨rfl, rfl⟩
      go_wp2_with fail
      refine (behind_is n c j (v := j) _ HF.out.digits Hn.out HA.out hm rfl (by omega) E2.out).mono ?_
      rintro e w' ⟨rfl, rfl⟩
      go_wp2_with fail
      rw [inSc_ret]
      refine bodyPost_ret (v := .tuple #[.int .i64 (j : Nat), .bool false]) (by simp [results, Tryz.results134, go_sem, *]) rfl ?_
      exact ⟨by rw [E.out], rfl⟩
    · obtain ⟨p1, hp1⟩ : ∃ p, p = intE l j := ⟨_, rfl⟩
      obtain ⟨p2, hp2⟩ : ∃ p, p = frE l p1 := ⟨_, rfl⟩
      obtain ⟨p3, hp3⟩ : ∃ p, p = exE l p2 := ⟨_, rfl⟩
      have i1 := intE_gt hd
      rw [← hp1] at i1
      have i2 := frE_ge i1.2
      rw [← hp2] at i2
      have i3 := exE_ge i2.2
      rw [← hp3, ← Hn.out] at i3
      rw [← Hn.out] at i1 i2
      have E := Lib.hid (show nmV l i = .tuple #[.int .i64 (p3 : Nat), .bool true] by rw [nmV, ← HJ.out, hd, if_pos rfl, ← hp1, ← hp2, ← hp3])
      have HP1 := Lib.hid hp1
      have HP2 := Lib.hid hp2
      have HP3 := Lib.hid hp3
      have jlt : j < p1 := i1.1
      have b1 : p1 ≤ 1000000 := by omega
      have b2 : p2 ≤ 1000000 := by omega
      have b3 : p3 ≤ 1000000 := by omega
      obtain ⟨z, HZ⟩ : ∃ b, Hid (b = decide (bt l j = 48)) := ⟨_, rfl⟩
      obtain ⟨pt, HPT⟩ : ∃ b, Hid (b = decide (bt l p1 = 46)) := ⟨_, rfl⟩
      obtain ⟨pd, HPD⟩ : ∃ b, Hid (b = dg (bt l (p1 + 1))) := ⟨_, rfl⟩
      obtain ⟨ee, HEE⟩ : ∃ b, Hid (b = decide (bt l p2 = 101 ∨ bt l p2 = 69)) := ⟨_, rfl⟩
      obtain ⟨sg, HSG⟩ : ∃ b, Hid (b = decide (bt l (p2 + 1) = 43 ∨ bt l (p2 + 1) = 45)) := ⟨_, rfl⟩
      obtain ⟨s2, hs2⟩ : ∃ s, s = sgE l (p2 + 1) := ⟨_, rfl⟩
      have HS2 := Lib.hid hs2
      have bs2 : s2 ≤ 1000002 := by have := sgE_ge l (p2 + 1); omega
      obtain ⟨ed, HED⟩ : ∃ b, Hid (b = dg (bt l s2)) := ⟨_, rfl⟩
      have b4 : p2 + 1 ≤ 2000000 := by omega
      have b5 : j ≤ 2000000 := by omega
      have b6 : p1 ≤ 2000000 := by omega
      have b7 : p2 ≤ 2000000 := by omega
      clear hd i1 i2 i3 hp1 hp2 hp3 hs2
      -- ahead of the point: by a nought, or by digits
      have key : z = true ∨ z = false := by cases z <;> simp
      rcases key with rfl | rfl
      · have E1 := Lib.hid (show p1 = j + 1 by rw [HP1.out, intE, if_pos (of_decide_eq_true HZ.out.symm)])
        go_wp2_with fail
        refine (stands_is n c j (v := true) _ HF.out.nought Hn.out HA.out hm rfl HZ.out).mono ?_
        rintro e w' ⟨rfl, rfl⟩
        go_wp2_with fail
        go_step3
        change Exit.inSc Tryz.prog C _ (.goto 0) _ _
        refine inSc_goto (by rw [HC.out]; rfl) ?_
        have E0 : (j : Int) + 1 = p1 := by rw [E1.out]; rfl
        rw [E0]
        go_wp2_with fail
        have pkey : pt = false ∨ pt = true := by cases pt <;> simp
        have ekey : ee = false ∨ ee = true := by cases ee <;> simp
        rcases pkey with rfl | rfl
        · have E2 := Lib.hid (show p2 = p1 by rw [HP2.out, frE, if_neg (fun h => of_decide_eq_false HPT.out.symm h.1)])
          refine (stands_is n c p1 (v := false) _ HF.out.point Hn.out HA.out hm rfl HPT.out).mono ?_
          rintro e w' ⟨rfl, rfl⟩
          go_wp2_with fail
          go_step3
          change Exit.inSc Tryz.prog C _ (.goto 1) _ _
          refine inSc_goto (by rw [HC.out]; rfl) ?_
          rw [← E2.out]
          go_wp2_with fail
          rcases ekey with rfl | rfl
          · have E9 := Lib.hid (show p3 = p2 by rw [HP3.out, exE, if_neg (fun h => of_decide_eq_false HEE.out.symm h.1)])
            refine (stands_is n c p2 (v := false) _ HF.out.exps Hn.out HA.out hm rfl HEE.out).mono ?_
            rintro e w' ⟨rfl, rfl⟩
            go_wp2_with fail
            go_step3
            change Exit.inSc Tryz.prog C _ (.goto 2) _ _
            refine inSc_goto (by rw [HC.out]; rfl) ?_
            rw [← E9.out]
            go_wp2_with fail
            rw [inSc_ret]
            refine bodyPost_ret (v := .tuple #[.int .i64 (p3 : Nat), .bool true]) (by simp [results, Tryz.results134, go_sem, *]) rfl ?_
            exact ⟨by rw [E.out], rfl⟩
          · refine (stands_is n c p2 (v := true) _ HF.out.exps Hn.out HA.out hm rfl HEE.out).mono ?_
            rintro e w' ⟨rfl, rfl⟩
            go_wp2_with fail
            refine (stands_is n c (p2 + 1) (v := sg) _ HF.out.signs Hn.out HA.out hm rfl HSG.out).mono ?_
            rintro e w' ⟨rfl, rfl⟩
            have skey : sg = false ∨ sg = true := by cases sg <;> simp
            rcases skey with rfl | rfl
            · have F1 := Lib.hid (show s2 = p2 + 1 by rw [HS2.out, sgE, if_neg (of_decide_eq_false HSG.out.symm)])
              have EE := of_decide_eq_true HEE.out.symm
              have H3 := Lib.hid (show p3 = if ed = true then s2 + rw dg (l.drop s2) else p2 by
                rw [HP3.out, exE, ← HS2.out, ← HED.out]
                cases ed
                · rw [if_neg (fun h => by cases h.2), if_neg (by simp)]
                · rw [if_pos ⟨EE, rfl⟩, if_pos rfl])
              clear EE
              go_wp2_with fail
              refine (stands_is n c s2 (v := ed) _ HF.out.digits Hn.out HA.out hm (by rw [F1.out]; rfl) HED.out).mono ?_
              rintro e w' ⟨rfl, rfl⟩
              cases ed
              · have E9 := Lib.hid (show p3 = p2 by rw [H3.out, if_neg (by simp)])
                go_wp2_with fail
                rw [← E9.out]
                try go_step3
                go_wp2_with fail
                rw [inSc_ret]
                refine bodyPost_ret (v := .tuple #[.int .i64 (p3 : Nat), .bool true]) (by simp [results, Tryz.results134, go_sem, *]) rfl ?_
                exact ⟨by rw [E.out], rfl⟩
              · have E9 := Lib.hid (show ((p3 : Nat) : Int) = ((s2 + rw dg (l.drop s2) : Nat) : Int) by rw [H3.out, if_pos rfl])
                go_wp2_with fail
                refine (behind_is n c s2 (v := p3) _ HF.out.digits Hn.out HA.out hm (by rw [F1.out]; rfl) (by omega) E9.out).mono ?_
                rintro e w' ⟨rfl, rfl⟩
                go_wp2_with fail
                try go_step3
                go_wp2_with fail
                rw [inSc_ret]
                refine bodyPost_ret (v := .tuple #[.int .i64 (p3 : Nat), .bool true]) (by simp [results, Tryz.results134, go_sem, *]) rfl ?_
                exact ⟨by rw [E.out], rfl⟩
            · have F1 := Lib.hid (show s2 = p2 + 1 + 1 by rw [HS2.out, sgE, if_pos (of_decide_eq_true HSG.out.symm)])
              have EE := of_decide_eq_true HEE.out.symm
              have H3 := Lib.hid (show p3 = if ed = true then s2 + rw dg (l.drop s2) else p2 by
                rw [HP3.out, exE, ← HS2.out, ← HED.out]
                cases ed
                · rw [if_neg (fun h => by cases h.2), if_neg (by simp)]
                · rw [if_pos ⟨EE, rfl⟩, if_pos rfl])
              clear EE
              go_wp2_with fail
              refine (stands_is n c s2 (v := ed) _ HF.out.digits Hn.out HA.out hm (by rw [F1.out]; rfl) HED.out).mono ?_
              rintro e w' ⟨rfl, rfl⟩
              cases ed
              · have E9 := Lib.hid (show p3 = p2 by rw [H3.out, if_neg (by simp)])
                go_wp2_with fail
                rw [← E9.out]
                try go_step3
                go_wp2_with fail
                rw [inSc_ret]
                refine bodyPost_ret (v := .tuple #[.int .i64 (p3 : Nat), .bool true]) (by simp [results, Tryz.results134, go_sem, *]) rfl ?_
                exact ⟨by rw [E.out], rfl⟩
              · have E9 := Lib.hid (show ((p3 : Nat) : Int) = ((s2 + rw dg (l.drop s2) : Nat) : Int) by rw [H3.out, if_pos rfl])
                go_wp2_with fail
                refine (behind_is n c s2 (v := p3) _ HF.out.digits Hn.out HA.out hm (by rw [F1.out]; rfl) (by omega) E9.out).mono ?_
                rintro e w' ⟨rfl, rfl⟩
                go_wp2_with fail
                try go_step3
                go_wp2_with fail
                rw [inSc_ret]
                refine bodyPost_ret (v := .tuple #[.int .i64 (p3 : Nat), .bool true]) (by simp [results, Tryz.results134, go_sem, *]) rfl ?_
                exact ⟨by rw [E.out], rfl⟩
        · have E2 := Lib.hid (show p2 = if pd = true then p1 + 1 + rw dg (l.drop (p1 + 1)) else p1 by
            rw [HP2.out, frE, ← HPD.out]
            cases pd
            · rw [if_neg (fun h => by cases h.2), if_neg (by simp)]
            · rw [if_pos ⟨of_decide_eq_true HPT.out.symm, rfl⟩, if_pos rfl])
          refine (stands_is n c p1 (v := true) _ HF.out.point Hn.out HA.out hm rfl HPT.out).mono ?_
          rintro e w' ⟨rfl, rfl⟩
          go_wp2_with fail
          cases pd
          · have E3 := Lib.hid (show p2 = p1 by rw [E2.out, if_neg (by simp)])
            have E4 := Lib.hid (show (((p1 + 1) : Nat) : Int) = ((p1 + 1 + rw dg (l.drop (p1 + 1)) : Nat) : Int) by rw [rw_at dg0, ← HPD.out]; rfl)
            have E9 := Lib.hid (show p3 = p1 by
              have e := of_decide_eq_true HPT.out.symm
              rw [HP3.out, E3.out, exE, if_neg (by rw [e]; rintro ⟨h | h, _⟩ <;> cases h)])
            refine (behind_is n c (p1 + 1) (v := ((p1 + 1 : Nat) : Int)) _ HF.out.digits Hn.out HA.out hm (by rfl) (by omega) E4.out).mono ?_
            rintro e w' ⟨rfl, rfl⟩
            go_wp2_with fail
            go_step3
            change Exit.inSc Tryz.prog C _ (.goto 2) _ _
            refine inSc_goto (by rw [HC.out]; rfl) ?_
            rw [← E9.out]
            go_wp2_with fail
            rw [inSc_ret]
            refine bodyPost_ret (v := .tuple #[.int .i64 (p3 : Nat), .bool true]) (by simp [results, Tryz.results134, go_sem, *]) rfl ?_
            exact ⟨by rw [E.out], rfl⟩
          · have E3 := Lib.hid (show ((p2 : Nat) : Int) = ((p1 + 1 + rw dg (l.drop (p1 + 1)) : Nat) : Int) by rw [E2.out, if_pos rfl])
            have hne : ((p2 : Int) == (p1 : Int) + 1) = false := by
              have h1 := rw_dg (l := l) (k := p1 + 1) HPD.out.symm
              have h2 := E2.out
              rw [if_pos rfl] at h2
              rw [beq_eq_false_iff_ne]
              omega
            refine (behind_is n c (p1 + 1) (v := p2) _ HF.out.digits Hn.out HA.out hm (by rfl) (by omega) E3.out).mono ?_
            rintro e w' ⟨rfl, rfl⟩
            go_wp2_with fail
            try go_step3
            go_wp2_with fail
            rcases ekey with rfl | rfl
            · have E9 := Lib.hid (show p3 = p2 by rw [HP3.out, exE, if_neg (fun h => of_decide_eq_false HEE.out.symm h.1)])
              refine (stands_is n c p2 (v := false) _ HF.out.exps Hn.out HA.out hm rfl HEE.out).mono ?_
              rintro e w' ⟨rfl, rfl⟩
              go_wp2_with fail
              go_step3
              change Exit.inSc Tryz.prog C _ (.goto 2) _ _
              refine inSc_goto (by rw [HC.out]; rfl) ?_
              rw [← E9.out]
              go_wp2_with fail
              rw [inSc_ret]
              refine bodyPost_ret (v := .tuple #[.int .i64 (p3 : Nat), .bool true]) (by simp [results, Tryz.results134, go_sem, *]) rfl ?_
              exact ⟨by rw [E.out], rfl⟩
            · refine (stands_is n c p2 (v := true) _ HF.out.exps Hn.out HA.out hm rfl HEE.out).mono ?_
              rintro e w' ⟨rfl, rfl⟩
              go_wp2_with fail
              refine (stands_is n c (p2 + 1) (v := sg) _ HF.out.signs Hn.out HA.out hm rfl HSG.out).mono ?_
              rintro e w' ⟨rfl, rfl⟩
              have skey : sg = false ∨ sg = true := by cases sg <;> simp
              rcases skey with rfl | rfl
              · have F1 := Lib.hid (show s2 = p2 + 1 by rw [HS2.out, sgE, if_neg (of_decide_eq_false HSG.out.symm)])
                have EE := of_decide_eq_true HEE.out.symm
                have H3 := Lib.hid (show p3 = if ed = true then s2 + rw dg (l.drop s2) else p2 by
                  rw [HP3.out, exE, ← HS2.out, ← HED.out]
                  cases ed
                  · rw [if_neg (fun h => by cases h.2), if_neg (by simp)]
                  · rw [if_pos ⟨EE, rfl⟩, if_pos rfl])
                clear EE
                go_wp2_with fail
                refine (stands_is n c s2 (v := ed) _ HF.out.digits Hn.out HA.out hm (by rw [F1.out]; rfl) HED.out).mono ?_
                rintro e w' ⟨rfl, rfl⟩
                cases ed
                · have E9 := Lib.hid (show p3 = p2 by rw [H3.out, if_neg (by simp)])
                  go_wp2_with fail
                  rw [← E9.out]
                  try go_step3
                  go_wp2_with fail
                  rw [inSc_ret]
                  refine bodyPost_ret (v := .tuple #[.int .i64 (p3 : Nat), .bool true]) (by simp [results, Tryz.results134, go_sem, *]) rfl ?_
                  exact ⟨by rw [E.out], rfl⟩
                · have E9 := Lib.hid (show ((p3 : Nat) : Int) = ((s2 + rw dg (l.drop s2) : Nat) : Int) by rw [H3.out, if_pos rfl])
                  go_wp2_with fail
                  refine (behind_is n c s2 (v := p3) _ HF.out.digits Hn.out HA.out hm (by rw [F1.out]; rfl) (by omega) E9.out).mono ?_
                  rintro e w' ⟨rfl, rfl⟩
                  go_wp2_with fail
                  try go_step3
                  go_wp2_with fail
                  rw [inSc_ret]
                  refine bodyPost_ret (v := .tuple #[.int .i64 (p3 : Nat), .bool true]) (by simp [results, Tryz.results134, go_sem, *]) rfl ?_
                  exact ⟨by rw [E.out], rfl⟩
              · have F1 := Lib.hid (show s2 = p2 + 1 + 1 by rw [HS2.out, sgE, if_pos (of_decide_eq_true HSG.out.symm)])
                have EE := of_decide_eq_true HEE.out.symm
                have H3 := Lib.hid (show p3 = if ed = true then s2 + rw dg (l.drop s2) else p2 by
                  rw [HP3.out, exE, ← HS2.out, ← HED.out]
                  cases ed
                  · rw [if_neg (fun h => by cases h.2), if_neg (by simp)]
                  · rw [if_pos ⟨EE, rfl⟩, if_pos rfl])
                clear EE
                go_wp2_with fail
                refine (stands_is n c s2 (v := ed) _ HF.out.digits Hn.out HA.out hm (by rw [F1.out]; rfl) HED.out).mono ?_
                rintro e w' ⟨rfl, rfl⟩
                cases ed
                · have E9 := Lib.hid (show p3 = p2 by rw [H3.out, if_neg (by simp)])
                  go_wp2_with fail
                  rw [← E9.out]
                  try go_step3
                  go_wp2_with fail
                  rw [inSc_ret]
                  refine bodyPost_ret (v := .tuple #[.int .i64 (p3 : Nat), .bool true]) (by simp [results, Tryz.results134, go_sem, *]) rfl ?_
                  exact ⟨by rw [E.out], rfl⟩
                · have E9 := Lib.hid (show ((p3 : Nat) : Int) = ((s2 + rw dg (l.drop s2) : Nat) : Int) by rw [H3.out, if_pos rfl])
                  go_wp2_with fail
                  refine (behind_is n c s2 (v := p3) _ HF.out.digits Hn.out HA.out hm (by rw [F1.out]; rfl) (by omega) E9.out).mono ?_
                  rintro e w' ⟨rfl, rfl⟩
                  go_wp2_with fail
                  try go_step3
                  go_wp2_with fail
                  rw [inSc_ret]
                  refine bodyPost_ret (v := .tuple #[.int .i64 (p3 : Nat), .bool true]) (by simp [results, Tryz.results134, go_sem, *]) rfl ?_
                  exact ⟨by rw [E.out], rfl⟩
      · have E1 := Lib.hid (show ((p1 : Nat) : Int) = ((j + rw dg (l.drop j) : Nat) : Int) by rw [HP1.out, intE, if_neg (of_decide_eq_false HZ.out.symm)])
        have hne : ((p1 : Int) == (j : Int)) = false := by
          rw [beq_eq_false_iff_ne]
          omega
        go_wp2_with fail
        refine (stands_is n c j (v := false) _ HF.out.nought Hn.out HA.out hm rfl HZ.out).mono ?_
        rintro e w' ⟨rfl, rfl⟩
        go_wp2_with fail
        refine (behind_is n c j (v := p1) _ HF.out.digits Hn.out HA.out hm rfl (by omega) E1.out).mono ?_
        rintro e w' ⟨rfl, rfl⟩
        go_wp2_with fail
        try go_step3
        go_wp2_with fail
        have pkey : pt = false ∨ pt = true := by cases pt <;> simp
        have ekey : ee = false ∨ ee = true := by cases ee <;> simp
        rcases pkey with rfl | rfl
        · have E2 := Lib.hid (show p2 = p1 by rw [HP2.out, frE, if_neg (fun h => of_decide_eq_false HPT.out.symm h.1)])
          refine (stands_is n c p1 (v := false) _ HF.out.point Hn.out HA.out hm rfl HPT.out).mono ?_
          rintro e w' ⟨rfl, rfl⟩
          go_wp2_with fail
          go_step3
          change Exit.inSc Tryz.prog C _ (.goto 1) _ _
          refine inSc_goto (by rw [HC.out]; rfl) ?_
          rw [← E2.out]
          go_wp2_with fail
          rcases ekey with rfl | rfl
          · have E9 := Lib.hid (show p3 = p2 by rw [HP3.out, exE, if_neg (fun h => of_decide_eq_false HEE.out.symm h.1)])
            refine (stands_is n c p2 (v := false) _ HF.out.exps Hn.out HA.out hm rfl HEE.out).mono ?_
            rintro e w' ⟨rfl, rfl⟩
            go_wp2_with fail
            go_step3
            change Exit.inSc Tryz.prog C _ (.goto 2) _ _
            refine inSc_goto (by rw [HC.out]; rfl) ?_
            rw [← E9.out]
            go_wp2_with fail
            rw [inSc_ret]
            refine bodyPost_ret (v := .tuple #[.int .i64 (p3 : Nat), .bool true]) (by simp [results, Tryz.results134, go_sem, *]) rfl ?_
            exact ⟨by rw [E.out], rfl⟩
          · refine (stands_is n c p2 (v := true) _ HF.out.exps Hn.out HA.out hm rfl HEE.out).mono ?_
            rintro e w' ⟨rfl, rfl⟩
            go_wp2_with fail
            refine (stands_is n c (p2 + 1) (v := sg) _ HF.out.signs Hn.out HA.out hm rfl HSG.out).mono ?_
            rintro e w' ⟨rfl, rfl⟩
            have skey : sg = false ∨ sg = true := by cases sg <;> simp
            rcases skey with rfl | rfl
            · have F1 := Lib.hid (show s2 = p2 + 1 by rw [HS2.out, sgE, if_neg (of_decide_eq_false HSG.out.symm)])
              have EE := of_decide_eq_true HEE.out.symm
              have H3 := Lib.hid (show p3 = if ed = true then s2 + rw dg (l.drop s2) else p2 by
                rw [HP3.out, exE, ← HS2.out, ← HED.out]
                cases ed
                · rw [if_neg (fun h => by cases h.2), if_neg (by simp)]
                · rw [if_pos ⟨EE, rfl⟩, if_pos rfl])
              clear EE
              go_wp2_with fail
              refine (stands_is n c s2 (v := ed) _ HF.out.digits Hn.out HA.out hm (by rw [F1.out]; rfl) HED.out).mono ?_
              rintro e w' ⟨rfl, rfl⟩
              cases ed
              · have E9 := Lib.hid (show p3 = p2 by rw [H3.out, if_neg (by simp)])
                go_wp2_with fail
                rw [← E9.out]
                try go_step3
                go_wp2_with fail
                rw [inSc_ret]
                refine bodyPost_ret (v := .tuple #[.int .i64 (p3 : Nat), .bool true]) (by simp [results, Tryz.results134, go_sem, *]) rfl ?_
                exact ⟨by rw [E.out], rfl⟩
              · have E9 := Lib.hid (show ((p3 : Nat) : Int) = ((s2 + rw dg (l.drop s2) : Nat) : Int) by rw [H3.out, if_pos rfl])
                go_wp2_with fail
                refine (behind_is n c s2 (v := p3) _ HF.out.digits Hn.out HA.out hm (by rw [F1.out]; rfl) (by omega) E9.out).mono ?_
                rintro e w' ⟨rfl, rfl⟩
                go_wp2_with fail
                try go_step3
                go_wp2_with fail
                rw [inSc_ret]
                refine bodyPost_ret (v := .tuple #[.int .i64 (p3 : Nat), .bool true]) (by simp [results, Tryz.results134, go_sem, *]) rfl ?_
                exact ⟨by rw [E.out], rfl⟩
            · have F1 := Lib.hid (show s2 = p2 + 1 + 1 by rw [HS2.out, sgE, if_pos (of_decide_eq_true HSG.out.symm)])
              have EE := of_decide_eq_true HEE.out.symm
              have H3 := Lib.hid (show p3 = if ed = true then s2 + rw dg (l.drop s2) else p2 by
                rw [HP3.out, exE, ← HS2.out, ← HED.out]
                cases ed
                · rw [if_neg (fun h => by cases h.2), if_neg (by simp)]
                · rw [if_pos ⟨EE, rfl⟩, if_pos rfl])
              clear EE
              go_wp2_with fail
              refine (stands_is n c s2 (v := ed) _ HF.out.digits Hn.out HA.out hm (by rw [F1.out]; rfl) HED.out).mono ?_
              rintro e w' ⟨rfl, rfl⟩
              cases ed
              · have E9 := Lib.hid (show p3 = p2 by rw [H3.out, if_neg (by simp)])
                go_wp2_with fail
                rw [← E9.out]
                try go_step3
                go_wp2_with fail
                rw [inSc_ret]
                refine bodyPost_ret (v := .tuple #[.int .i64 (p3 : Nat), .bool true]) (by simp [results, Tryz.results134, go_sem, *]) rfl ?_
                exact ⟨by rw [E.out], rfl⟩
              · have E9 := Lib.hid (show ((p3 : Nat) : Int) = ((s2 + rw dg (l.drop s2) : Nat) : Int) by rw [H3.out, if_pos rfl])
                go_wp2_with fail
                refine (behind_is n c s2 (v := p3) _ HF.out.digits Hn.out HA.out hm (by rw [F1.out]; rfl) (by omega) E9.out).mono ?_
                rintro e w' ⟨rfl, rfl⟩
                go_wp2_with fail
                try go_step3
                go_wp2_with fail
                rw [inSc_ret]
                refine bodyPost_ret (v := .tuple #[.int .i64 (p3 : Nat), .bool true]) (by simp [results, Tryz.results134, go_sem, *]) rfl ?_
                exact ⟨by rw [E.out], rfl⟩
        · have E2 := Lib.hid (show p2 = if pd = true then p1 + 1 + rw dg (l.drop (p1 + 1)) else p1 by
            rw [HP2.out, frE, ← HPD.out]
            cases pd
            · rw [if_neg (fun h => by cases h.2), if_neg (by simp)]
            · rw [if_pos ⟨of_decide_eq_true HPT.out.symm, rfl⟩, if_pos rfl])
          refine (stands_is n c p1 (v := true) _ HF.out.point Hn.out HA.out hm rfl HPT.out).mono ?_
          rintro e w' ⟨rfl, rfl⟩
          go_wp2_with fail
          cases pd
          · have E3 := Lib.hid (show p2 = p1 by rw [E2.out, if_neg (by simp)])
            have E4 := Lib.hid (show (((p1 + 1) : Nat) : Int) = ((p1 + 1 + rw dg (l.drop (p1 + 1)) : Nat) : Int) by rw [rw_at dg0, ← HPD.out]; rfl)
            have E9 := Lib.hid (show p3 = p1 by
              have e := of_decide_eq_true HPT.out.symm
              rw [HP3.out, E3.out, exE, if_neg (by rw [e]; rintro ⟨h | h, _⟩ <;> cases h)])
            refine (behind_is n c (p1 + 1) (v := ((p1 + 1 : Nat) : Int)) _ HF.out.digits Hn.out HA.out hm (by rfl) (by omega) E4.out).mono ?_
            rintro e w' ⟨rfl, rfl⟩
            go_wp2_with fail
            go_step3
            change Exit.inSc Tryz.prog C _ (.goto 2) _ _
            refine inSc_goto (by rw [HC.out]; rfl) ?_
            rw [← E9.out]
            go_wp2_with fail
            rw [inSc_ret]
            refine bodyPost_ret (v := .tuple #[.int .i64 (p3 : Nat), .bool true]) (by simp [results, Tryz.results134, go_sem, *]) rfl ?_
            exact ⟨by rw [E.out], rfl⟩
          · have E3 := Lib.hid (show ((p2 : Nat) : Int) = ((p1 + 1 + rw dg (l.drop (p1 + 1)) : Nat) : Int) by rw [E2.out, if_pos rfl])
            have hne : ((p2 : Int) == (p1 : Int) + 1) = false := by
              have h1 := rw_dg (l := l) (k := p1 + 1) HPD.out.symm
              have h2 := E2.out
              rw [if_pos rfl] at h2
              rw [beq_eq_false_iff_ne]
              omega
            refine (behind_is n c (p1 + 1) (v := p2) _ HF.out.digits Hn.out HA.out hm (by rfl) (by omega) E3.out).mono ?_
            rintro e w' ⟨rfl, rfl⟩
            go_wp2_with fail
            try go_step3
            go_wp2_with fail
            rcases ekey with rfl | rfl
            · have E9 := Lib.hid (show p3 = p2 by rw [HP3.out, exE, if_neg (fun h => of_decide_eq_false HEE.out.symm h.1)])
              refine (stands_is n c p2 (v := false) _ HF.out.exps Hn.out HA.out hm rfl HEE.out).mono ?_
              rintro e w' ⟨rfl, rfl⟩
              go_wp2_with fail
              go_step3
              change Exit.inSc Tryz.prog C _ (.goto 2) _ _
              refine inSc_goto (by rw [HC.out]; rfl) ?_
              rw [← E9.out]
              go_wp2_with fail
              rw [inSc_ret]
              refine bodyPost_ret (v := .tuple #[.int .i64 (p3 : Nat), .bool true]) (by simp [results, Tryz.results134, go_sem, *]) rfl ?_
              exact ⟨by rw [E.out], rfl⟩
            · refine (stands_is n c p2 (v := true) _ HF.out.exps Hn.out HA.out hm rfl HEE.out).mono ?_
              rintro e w' ⟨rfl, rfl⟩
              go_wp2_with fail
              refine (stands_is n c (p2 + 1) (v := sg) _ HF.out.signs Hn.out HA.out hm rfl HSG.out).mono ?_
              rintro e w' ⟨rfl, rfl⟩
              have skey : sg = false ∨ sg = true := by cases sg <;> simp
              rcases skey with rfl | rfl
              · have F1 := Lib.hid (show s2 = p2 + 1 by rw [HS2.out, sgE, if_neg (of_decide_eq_false HSG.out.symm)])
                have EE := of_decide_eq_true HEE.out.symm
                have H3 := Lib.hid (show p3 = if ed = true then s2 + rw dg (l.drop s2) else p2 by
                  rw [HP3.out, exE, ← HS2.out, ← HED.out]
                  cases ed
                  · rw [if_neg (fun h => by cases h.2), if_neg (by simp)]
                  · rw [if_pos ⟨EE, rfl⟩, if_pos rfl])
                clear EE
                go_wp2_with fail
                refine (stands_is n c s2 (v := ed) _ HF.out.digits Hn.out HA.out hm (by rw [F1.out]; rfl) HED.out).mono ?_
                rintro e w' ⟨rfl, rfl⟩
                cases ed
                · have E9 := Lib.hid (show p3 = p2 by rw [H3.out, if_neg (by simp)])
                  go_wp2_with fail
                  rw [← E9.out]
                  try go_step3
                  go_wp2_with fail
                  rw [inSc_ret]
                  refine bodyPost_ret (v := .tuple #[.int .i64 (p3 : Nat), .bool true]) (by simp [results, Tryz.results134, go_sem, *]) rfl ?_
                  exact ⟨by rw [E.out], rfl⟩
                · have E9 := Lib.hid (show ((p3 : Nat) : Int) = ((s2 + rw dg (l.drop s2) : Nat) : Int) by rw [H3.out, if_pos rfl])
                  go_wp2_with fail
                  refine (behind_is n c s2 (v := p3) _ HF.out.digits Hn.out HA.out hm (by rw [F1.out]; rfl) (by omega) E9.out).mono ?_
                  rintro e w' ⟨rfl, rfl⟩
                  go_wp2_with fail
                  try go_step3
                  go_wp2_with fail
                  rw [inSc_ret]
                  refine bodyPost_ret (v := .tuple #[.int .i64 (p3 : Nat), .bool true]) (by simp [results, Tryz.results134, go_sem, *]) rfl ?_
                  exact ⟨by rw [E.out], rfl⟩
              · have F1 := Lib.hid (show s2 = p2 + 1 + 1 by rw [HS2.out, sgE, if_pos (of_decide_eq_true HSG.out.symm)])
                have EE := of_decide_eq_true HEE.out.symm
                have H3 := Lib.hid (show p3 = if ed = true then s2 + rw dg (l.drop s2) else p2 by
                  rw [HP3.out, exE, ← HS2.out, ← HED.out]
                  cases ed
                  · rw [if_neg (fun h => by cases h.2), if_neg (by simp)]
                  · rw [if_pos ⟨EE, rfl⟩, if_pos rfl])
                clear EE
                go_wp2_with fail
                refine (stands_is n c s2 (v := ed) _ HF.out.digits Hn.out HA.out hm (by rw [F1.out]; rfl) HED.out).mono ?_
                rintro e w' ⟨rfl, rfl⟩
                cases ed
                · have E9 := Lib.hid (show p3 = p2 by rw [H3.out, if_neg (by simp)])
                  go_wp2_with fail
                  rw [← E9.out]
                  try go_step3
                  go_wp2_with fail
                  rw [inSc_ret]
                  refine bodyPost_ret (v := .tuple #[.int .i64 (p3 : Nat), .bool true]) (by simp [results, Tryz.results134, go_sem, *]) rfl ?_
                  exact ⟨by rw [E.out], rfl⟩
                · have E9 := Lib.hid (show ((p3 : Nat) : Int) = ((s2 + rw dg (l.drop s2) : Nat) : Int) by rw [H3.out, if_pos rfl])
                  go_wp2_with fail
                  refine (behind_is n c s2 (v := p3) _ HF.out.digits Hn.out HA.out hm (by rw [F1.out]; rfl) (by omega) E9.out).mono ?_
                  rintro e w' ⟨rfl, rfl⟩
                  go_wp2_with fail
                  try go_step3
                  go_wp2_with fail
                  rw [inSc_ret]
                  refine bodyPost_ret (v := .tuple #[.int .i64 (p3 : Nat), .bool true]) (by simp [results, Tryz.results134, go_sem, *]) rfl ?_
                  exact ⟨by rw [E.out], rfl⟩
end
end Jk
end Go.Proofs.YtggeiajbcehkjaaGreatDoor
