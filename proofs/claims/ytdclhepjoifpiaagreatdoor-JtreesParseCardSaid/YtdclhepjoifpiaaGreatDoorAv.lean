/- The document's next token: a number. -/
import Derived.Test.YtdclhepjoifpiaaGreatDoorAu
import Derived.Deep.DeepCutAuto
import Derived.Deep.CutBlock
import Derived.Deep.CutRange
import Derived.Deep.QuietTactic
namespace Go.Proofs.YtdclhepjoifpiaaGreatDoor
open Go.RowKit
namespace Jk
theorem intE_drop (l : List UInt8) (i j : Nat) : i + intE (l.drop i) j = intE l (i + j) := by
  unfold intE
  rw [bt_drop, List.drop_drop]
  split <;> omega
theorem frE_drop (l : List UInt8) (i k : Nat) : i + frE (l.drop i) k = frE l (i + k) := by
  unfold frE
  rw [bt_drop, bt_drop, List.drop_drop, ← Nat.add_assoc]
  split <;> omega
theorem sgE_drop (l : List UInt8) (i k : Nat) : i + sgE (l.drop i) k = sgE l (i + k) := by
  unfold sgE
  rw [bt_drop]
  split <;> omega
theorem exE_drop (l : List UInt8) (i k : Nat) : i + exE (l.drop i) k = exE l (i + k) := by
  have h := sgE_drop l i (k + 1)
  rw [← Nat.add_assoc] at h
  unfold exE
  rw [bt_drop, bt_drop, List.drop_drop, h]
  split <;> omega
section
variable {l : List UInt8} {A : Option Addr}
set_option maxHeartbeats 8000000 in
set_option maxRecDepth 100000 in
theorem rnext_digit (n c i : Nat) {B : Nat} {x : Int} (w : World) (hn : n = l.length) (hA : Byt w B A l) (hB : B ≤ w.heap.size) (hm : n ≤ 1000000) (hx : x = i) (g5 : dg (bt l i) = true) :
    Calls Tryz.prog 32 #[.slice A n c, .int .i64 x] w fun e w' => e = .returned (nxA i (nx (l.drop i))) ∧ Below w.heap.size w w' := by
  have gd := dg_iff.1 g5
  have hil : i < l.length := dg_in g5
  have e0 : bt (l.drop i) 0 = bt l i := by rw [bt_drop, Nat.add_zero]
  have em : mnE (l.drop i) = 0 := by rw [mnE, if_neg (by rw [e0]; omega)]
  have ep : i + nmE (l.drop i) = exE l (frE l (intE l i)) := by rw [nmE, em, exE_drop, frE_drop, intE_drop, Nat.add_zero]
  have E := Lib.hid (show nxA i (nx (l.drop i)) = .tuple #[rtV 3 i ((exE l (frE l (intE l i)) : Nat) : Int), fvV 0 0] by
    rw [nx_digit (.inr (by rw [e0]; exact g5)), em, e0, g5, if_pos rfl, nxA, ep]; rfl)
  have i1 := intE_gt g5
  have i2 := frE_ge i1.2
  have i3 := exE_ge i2.2
  obtain ⟨p1, hp1⟩ : ∃ p, p = intE l i := ⟨_, rfl⟩
  rw [← hp1] at i1 i2 i3 E
  obtain ⟨p2, hp2⟩ : ∃ p, p = frE l p1 := ⟨_, rfl⟩
  rw [← hp2] at i2 i3 E
  obtain ⟨p3, hp3⟩ : ∃ p, p = exE l p2 := ⟨_, rfl⟩
  rw [← hp3] at i3 E
  have HP1 := Lib.hid hp1
  have HP2 := Lib.hid hp2
  have HP3 := Lib.hid hp3
  have I := Lib.hid (And.intro i1 (And.intro i2 i3))
  clear hp1 hp2 hp3 i1 i2 i3 ep
  have HA := Lib.hid (byt_two hA hB (rtO 0 0 0) (fvO 0 0))
  obtain ⟨b, off, rfl, hb, hc⟩ := hA.at_ hil
  have k0 := hc i hil
  have hbw : b < w.heap.size := by omega
  obtain ⟨d, hd⟩ : ∃ d, d = bt l i := ⟨_, rfl⟩
  rw [← hd] at k0 gd g5
  have HD := Lib.hid hd
  have S := Lib.hid (fun w => rsp_is (c := d) (b := false) w (by rw [spc_no]; omega))
  have D := Lib.hid (fun w => rdg_is (c := d) (b := true) w g5.symm)
  obtain ⟨W, hW⟩ : ∃ W, W = (w.alloc (rtO 0 0 0)).alloc (fvO 0 0) := ⟨_, rfl⟩
  have k1 : ((w.alloc (rtO 0 0 0)).alloc (fvO 0 0)).cell? ⟨b, off + i, none⟩ = some (.int .u8 d) := by
    rw [World.cell?_alloc_lt _ _ _ (by simp; omega), World.cell?_alloc_lt _ _ _ (by simpa using hbw)]; exact k0
  have h0 : ¬ x < 0 := by omega
  have h1 : ¬ (n : Int) ≤ x := by omega
  have hin : i < n := by omega
  have q1 : (d == 123) = false := by simp; omega
  have q2 : (d == 125) = false := by simp; omega
  have q3 : (d == 91) = false := by simp; omega
  have q4 : (d == 93) = false := by simp; omega
  have q5 : (d == 44) = false := by simp; omega
  have q6 : (d == 58) = false := by simp; omega
  have q7 : (d == 45) = false := by simp; omega
  have p97 : ¬ 97 ≤ d := by omega
  subst hx
  have Hn := Lib.hid hn
  clear hn hA hB g5 hil hc k0 hb e0 em hd gd
  go_enter Tryz.func32, Tryz.ntmps32
  go_upto_if 135 with first
    | (go_at_call 46; refine (S.out _).mono ?_; rintro e w' ⟨rfl, rfl⟩)
    | (go_at_call 47; refine (rat_is n c i (v := d) _ Hn.out HA.out rfl HD.out).mono ?_; rintro e w' ⟨rfl, rfl⟩)
    | (go_at_call 48; refine (D.out _).mono ?_; rintro e w' ⟨rfl, rfl⟩)
  go_cut [7] from 135 to 140 (fun v wx => v = .int .i64 p1 ∧ wx = (w.alloc (rtO 0 0 0)).alloc (fvO 0 0))
  case first =>
    by_cases hz : d = 48
    · have E1 := Lib.hid (show i + 1 = p1 by rw [HP1.out, intE, ← HD.out, if_pos hz])
      subst hz
      go_wp2_with fail
      go_meet
      exact ⟨by rw [← E1.out]; go_num, rfl⟩
    · have E1 := Lib.hid (show ((p1 : Nat) : Int) = ((i + rw dg (l.drop i) : Nat) : Int) by rw [HP1.out, intE, ← HD.out, if_neg hz])
      have z1 : (d == 48) = false := by simp; omega
      clear hz
      go_wp2_with (go_at_call 49; refine (rdigits_is n c i (v := (p1 : Nat)) _ Hn.out HA.out hm rfl (by omega) E1.out).mono ?_; rintro e w' ⟨rfl, rfl⟩)
      go_meet
      exact ⟨rfl, rfl⟩
  case rest =>
    obtain ⟨rfl, rfl⟩ := hcut
    have b1 : p1 ≤ 1000000 := by have := I.out.1.2; have := Hn.out; omega
    have b2 : p2 ≤ 1000000 := by have := I.out.2.1.2; have := Hn.out; omega
    obtain ⟨a, Ha⟩ : ∃ b, Hid (b = bt l p1) := ⟨_, rfl⟩
    obtain ⟨a2, Ha2⟩ : ∃ b, Hid (b = bt l (p1 + 1)) := ⟨_, rfl⟩
    obtain ⟨fq, Hfq⟩ : ∃ q, Hid (q = (decide (a = 46) && dg a2)) := ⟨_, rfl⟩
    have DA := Lib.hid (fun w => rdg_is (c := a2) (b := dg a2) w rfl)
    go_upto_region 28 with fail
    go_cut [151] from 141 to 151 (fun q wx => q = .bool fq ∧ wx = (w.alloc (rtO 0 0 0)).alloc (fvO 0 0))
    case first =>
      by_cases hz : a = 46
      · have z := Lib.hid (show fq = dg a2 by rw [Hfq.out, decide_eq_true hz]; rfl)
        have z2 := Lib.hid hz
        have z1 : (a == 46) = true := by simp [hz]
        clear hz
        go_wp2_with first
          | (go_at_call 47; refine (rat_is n c p1 (v := a) _ Hn.out HA.out (by omega) Ha.out).mono ?_; rintro e w' ⟨rfl, rfl⟩)
          | (go_at_call 47; refine (rat_is n c (p1 + 1) (v := a2) _ Hn.out HA.out (by omega) Ha2.out).mono ?_; rintro e w' ⟨rfl, rfl⟩)
          | (go_at_call 48; refine (DA.out _).mono ?_; rintro e w' ⟨rfl, rfl⟩)
        go_meet
        exact ⟨by rw [z.out], rfl⟩
      · have z := Lib.hid (show fq = false by rw [Hfq.out, decide_eq_false hz]; rfl)
        have z1 : (a == 46) = false := by simp; omega
        clear hz
        go_wp2_with first
          | (go_at_call 47; refine (rat_is n c p1 (v := a) _ Hn.out HA.out (by omega) Ha.out).mono ?_; rintro e w' ⟨rfl, rfl⟩)
        go_meet
        exact ⟨by rw [z.out], rfl⟩
    case rest =>
    obtain ⟨rfl, rfl⟩ := hcut
    go_upto_if 151 with fail
    go_cut [7] from 152 to 155 (fun v wx => v = .int .i64 p2 ∧ wx = (w.alloc (rtO 0 0 0)).alloc (fvO 0 0))
    case first =>
      cases fq
      · have E1 := Lib.hid (show p2 = p1 by
          have h := Hfq.out.symm
          rw [HP2.out, frE, if_neg (by rw [← Ha.out, ← Ha2.out]; rintro ⟨u, v⟩; rw [decide_eq_true u, v] at h; cases h)])
        go_wp2_with fail
        go_meet
        exact ⟨by rw [E1.out], rfl⟩
      · have E1 := Lib.hid (show ((p2 : Nat) : Int) = ((p1 + 1 + rw dg (l.drop (p1 + 1)) : Nat) : Int) by
          have h := Hfq.out.symm
          rw [Bool.and_eq_true, decide_eq_true_eq] at h
          rw [HP2.out, frE, if_pos (by rw [← Ha.out, ← Ha2.out]; exact h)])
        go_wp2_with (go_at_call 49; refine (rdigits_is n c (p1 + 1) (v := (p2 : Nat)) _ Hn.out HA.out hm (by omega) (by omega) E1.out).mono ?_; rintro e w' ⟨rfl, rfl⟩)
        go_meet
        exact ⟨rfl, rfl⟩
    case rest =>
    obtain ⟨rfl, rfl⟩ := hcut
    obtain ⟨f, Hf⟩ : ∃ b, Hid (b = bt l p2) := ⟨_, rfl⟩
    obtain ⟨s1, Hs1⟩ : ∃ b, Hid (b = bt l (p2 + 1)) := ⟨_, rfl⟩
    obtain ⟨eq, Heq⟩ : ∃ q, Hid (q = decide (f = 101 ∨ f = 69)) := ⟨_, rfl⟩
    go_upto_region 30 with fail
    go_cut [165] from 156 to 165 (fun q wx => q = .bool eq ∧ wx = (w.alloc (rtO 0 0 0)).alloc (fvO 0 0))
    case first =>
      by_cases hz : f = 101
      · have z := Lib.hid (show eq = true by rw [Heq.out]; exact decide_eq_true (.inl hz))
        have z1 : (f == 101) = true := by simp [hz]
        clear hz
        go_wp2_with (go_at_call 47; refine (rat_is n c p2 (v := f) _ Hn.out HA.out (by omega) Hf.out).mono ?_; rintro e w' ⟨rfl, rfl⟩)
        go_meet
        exact ⟨by rw [z.out], rfl⟩
      · have z := Lib.hid (show eq = (f == 69) by rw [Heq.out]; by_cases q : f = 69 <;> simp [q, hz])
        have z1 : (f == 101) = false := by simp; omega
        clear hz
        go_wp2_with (go_at_call 47; refine (rat_is n c p2 (v := f) _ Hn.out HA.out (by omega) Hf.out).mono ?_; rintro e w' ⟨rfl, rfl⟩)
        go_meet
        exact ⟨by rw [z.out], rfl⟩
    case rest =>
    obtain ⟨rfl, rfl⟩ := hcut
    go_upto_if 165 with fail
    go_cut [7, 9] from 166 to 186 (fun v k wx => v = .int .i64 p3 ∧ wx = (w.alloc (rtO 0 0 0)).alloc (fvO 0 0))
    case first =>
      cases eq
      · have E1 := Lib.hid (show p3 = p2 by
          have h := of_decide_eq_false Heq.out.symm
          rw [HP3.out, exE, if_neg (by rw [← Hf.out]; exact fun u => h u.1)])
        go_wp2_with fail
        go_meet
        exact ⟨by rw [E1.out], rfl⟩
      · have he := of_decide_eq_true Heq.out.symm
        obtain ⟨s2, Hs2⟩ : ∃ s, Hid (s = sgE l (p2 + 1)) := ⟨_, rfl⟩
        have h3 : p3 = if dg (bt l s2) = true then s2 + rw dg (l.drop s2) else p2 := by
          rw [HP3.out, exE, ← Hs2.out, ← Hf.out]
          by_cases q : dg (bt l s2) = true
          · rw [if_pos q, if_pos ⟨he, q⟩]
          · rw [if_neg q, if_neg (fun u => q u.2)]
        clear he
        obtain ⟨d4, Hd4⟩ : ∃ b, Hid (b = bt l s2) := ⟨_, rfl⟩
        rw [← Hd4.out] at h3
        have hs : s2 = if s1 = 43 ∨ s1 = 45 then p2 + 1 + 1 else p2 + 1 := by rw [Hs2.out, sgE, ← Hs1.out]
        have hcase : (s1 = 43 ∧ s2 = p2 + 1 + 1) ∨ ((s1 == 43) = false ∧ s1 = 45 ∧ s2 = p2 + 1 + 1) ∨ ((s1 == 43) = false ∧ (s1 == 45) = false ∧ s2 = p2 + 1) := by
          by_cases u : s1 = 43
          · rw [if_pos (.inl u)] at hs; exact .inl ⟨u, hs⟩
          · by_cases v : s1 = 45
            · rw [if_pos (.inr v)] at hs; exact .inr (.inl ⟨by simpa using u, v, hs⟩)
            · rw [if_neg (by omega)] at hs; exact .inr (.inr ⟨by simpa using u, by simpa using v, hs⟩)
        clear hs
        cases hd4 : dg d4
        · rw [hd4, if_neg (by simp)] at h3
          have D4 := Lib.hid (fun w => rdg_is (c := d4) (b := false) w hd4.symm)
          have E1 := Lib.hid h3
          clear h3 hd4
          rcases hcase with ⟨rfl, u2⟩ | ⟨u0, rfl, u2⟩ | ⟨u0, u1, u2⟩
          all_goals
            try
              have hsd : d4 = s1 := by rw [Hs1.out, Hd4.out, u2]
              subst hsd
            go_wp2_with first
              | (go_at_call 47; refine (rat_is n c (p2 + 1) (v := _) _ Hn.out HA.out (by omega) Hs1.out).mono ?_; rintro e w' ⟨rfl, rfl⟩)
              | (go_at_call 47; refine (rat_is n c s2 (v := d4) _ Hn.out HA.out (by omega) Hd4.out).mono ?_; rintro e w' ⟨rfl, rfl⟩)
              | (go_at_call 48; refine (D4.out _).mono ?_; rintro e w' ⟨rfl, rfl⟩)
            go_meet
            exact ⟨by rw [E1.out], rfl⟩
        · rw [hd4, if_pos rfl] at h3
          have D4 := Lib.hid (fun w => rdg_is (c := d4) (b := true) w hd4.symm)
          have E1 := Lib.hid (show ((p3 : Nat) : Int) = ((s2 + rw dg (l.drop s2) : Nat) : Int) by rw [h3])
          clear h3 hd4
          rcases hcase with ⟨rfl, u2⟩ | ⟨u0, rfl, u2⟩ | ⟨u0, u1, u2⟩
          all_goals
            try
              have hsd : d4 = s1 := by rw [Hs1.out, Hd4.out, u2]
              subst hsd
            go_wp2_with first
              | (go_at_call 47; refine (rat_is n c (p2 + 1) (v := _) _ Hn.out HA.out (by omega) Hs1.out).mono ?_; rintro e w' ⟨rfl, rfl⟩)
              | (go_at_call 47; refine (rat_is n c s2 (v := d4) _ Hn.out HA.out (by omega) Hd4.out).mono ?_; rintro e w' ⟨rfl, rfl⟩)
              | (go_at_call 48; refine (D4.out _).mono ?_; rintro e w' ⟨rfl, rfl⟩)
              | (go_at_call 49; refine (rdigits_is n c s2 (v := (p3 : Nat)) _ Hn.out HA.out hm (by omega) (by omega) E1.out).mono ?_; rintro e w' ⟨rfl, rfl⟩)
            go_meet
            exact ⟨rfl, rfl⟩
    case rest =>
    obtain ⟨rfl, rfl⟩ := hcut
    have F0 := Lib.hid (RS.start (w := w) (k := 3) (i := i) (j := p3) (c := 0) (a := 0))
    go_wp2_with fail
    refine bodyPost_ret (v := .tuple #[rtV 3 i p3, fvV 0 0]) (by simp [results, Tryz.results32, go_sem, *]) rfl ?_
    exact ⟨by rw [E.out], F0.out.below⟩
end
end Jk
end Go.Proofs.YtdclhepjoifpiaaGreatDoor
/- The document's next token: what begins none. -/
namespace Go.Proofs.YtdclhepjoifpiaaGreatDoor
open Go.RowKit
namespace Jk
section
variable {l : List UInt8} {A : Option Addr}
set_option maxHeartbeats 8000000 in
set_option maxRecDepth 100000 in
theorem rnext_other (n c i : Nat) {B : Nat} {x : Int} (w : World) (hn : n = l.length) (hA : Byt w B A l) (hB : B ≤ w.heap.size) (_hm : n ≤ 1000000) (hx : x = i) (hil : i < l.length)
    (g1 : spc (bt l i) = false) (g2 : mrk (bt l i) = false) (g3 : ltr (bt l i) = false) (g4 : ¬ bt l i = 45) (g5 : dg (bt l i) = false) (g6 : ¬ bt l i = 34) :
    Calls Tryz.prog 32 #[.slice A n c, .int .i64 x] w fun e w' => e = .returned (nxA i (nx (l.drop i))) ∧ Below w.heap.size w w' := by
  have e0 : bt (l.drop i) 0 = bt l i := by rw [bt_drop, Nat.add_zero]
  have E := Lib.hid (show nxA i (nx (l.drop i)) = .tuple #[rtV 0 0 0, fvV 3 x] by
    rw [nx_other (by rw [e0, g1]) (by rw [e0, g2]) (by rw [e0, g3]) (by rw [e0]; exact g4) (by rw [e0]; exact g5) (by rw [e0]; exact g6), hx]; rfl)
  obtain ⟨b, off, rfl, hb, hc⟩ := hA.at_ hil
  have k0 := hc i hil
  have hbw : b < w.heap.size := by omega
  obtain ⟨d, hd⟩ : ∃ d, d = bt l i := ⟨_, rfl⟩
  rw [← hd] at k0 g1 g2 g3 g4 g5 g6
  have S := Lib.hid (fun w => rsp_is (c := d) (b := false) w g1.symm)
  have D := Lib.hid (fun w => rdg_is (c := d) (b := false) w g5.symm)
  have k1 : ((w.alloc (rtO 0 0 0)).alloc (fvO 0 0)).cell? ⟨b, off + i, none⟩ = some (.int .u8 d) := by
    rw [World.cell?_alloc_lt _ _ _ (by simp; omega), World.cell?_alloc_lt _ _ _ (by simpa using hbw)]; exact k0
  have h0 : ¬ x < 0 := by omega
  have h1 : ¬ (n : Int) ≤ x := by omega
  have hin : i < n := by omega
  have m0 : ¬ (d = 123 ∨ d = 125 ∨ d = 91 ∨ d = 93 ∨ d = 44 ∨ d = 58) := fun h => by rw [mrk_v.2 h] at g2; cases g2
  have l0 : ¬ (97 ≤ d ∧ d ≤ 122) := fun h => by rw [ltr_v.2 h] at g3; cases g3
  have q1 : (d == 123) = false := by simp; omega
  have q2 : (d == 125) = false := by simp; omega
  have q3 : (d == 91) = false := by simp; omega
  have q4 : (d == 93) = false := by simp; omega
  have q5 : (d == 44) = false := by simp; omega
  have q6 : (d == 58) = false := by simp; omega
  have q7 : (d == 45) = false := by simp; omega
  have q8 : (d == 34) = false := by simp; omega
  have hcase : (97 ≤ d ∧ ¬ d ≤ 122) ∨ ¬ 97 ≤ d := by omega
  subst hx
  clear hn hA hB _hm g1 g2 g3 g4 g5 g6 hil hc hd k0 hb e0 m0 l0
  have F0 := Lib.hid (RS.start (w := w) (k := 0) (i := 0) (j := 0) (c := 0) (a := 0))
  rcases hcase with ⟨p1, p2⟩ | p1
  all_goals
    go_enter Tryz.func32, Tryz.ntmps32
    go_wp2_with first
      | (go_at_call 46; refine (S.out _).mono ?_; rintro e w' ⟨rfl, rfl⟩)
      | (go_at_call 48; refine (D.out _).mono ?_; rintro e w' ⟨rfl, rfl⟩)
    refine (rsyn_is _ _).mono ?_
    rintro e w1 ⟨rfl, hb⟩
    have F1 := Lib.hid (F0.out.on hb)
    clear hb
    obtain ⟨⟨c0, c1, c2, c3, c4⟩, f0, f1, f2, f3, f4⟩ := F1.out.cells
    go_wp2_with fail
    refine bodyPost_ret (v := .tuple #[rtV 0 0 0, fvV 3 i]) (by simp [results, Tryz.results32, go_sem, *]) rfl ?_
    exact ⟨by rw [E.out], F1.out.set.below⟩
end
end Jk
end Go.Proofs.YtdclhepjoifpiaaGreatDoor
/- The document's next token: a string, place by place. -/
namespace Go.Proofs.YtdclhepjoifpiaaGreatDoor
open Go.RowKit
namespace Jk
/-- A string's end, as many places later. -/
def SR.up (i : Nat) : SR → SR
  | .ok n => .ok (i + n)
  | .bad n => .bad (i + n)
theorem h4_drop (l : List UInt8) (i k : Nat) : h4 l (i + k) = (h4 (l.drop i) k).map (i + ·) := by
  unfold h4
  simp only [bt_drop, Nat.add_assoc]
  split
  · rfl
  · split
    · rfl
    · split
      · rfl
      · split <;> rfl
theorem strE_drop {l : List UInt8} {i : Nat} (hi : i ≤ l.length) : ∀ (m k : Nat), l.length - (i + k) ≤ m → (strE (l.drop i) k).up i = strE l (i + k) ∨ l.length < i + k
  | m, k, hm => by
    by_cases hk : i + k < l.length
    · left
      rw [strE.eq_def (l.drop i) k, strE.eq_def l (i + k), dif_pos (by rw [List.length_drop]; omega), dif_pos hk, bt_drop, bt_drop, List.length_drop, ← Nat.add_assoc i k 1]
      have go : ∀ j, 0 < j → i + (k + j) ≤ l.length → (strE (l.drop i) (k + j)).up i = strE l (i + k + j) := fun j hj hl => by
        cases m with
        | zero => omega
        | succ m =>
          rw [Nat.add_assoc]
          exact (strE_drop hi m (k + j) (by omega)).resolve_right (by omega)
      split
      · simp only [SR.up]; rfl
      · split
        · rfl
        · split
          · exact go 1 (by omega) (by omega)
          · by_cases h1 : i + k + 1 = l.length
            · rw [if_pos (by omega), if_pos h1]; simp only [SR.up]; rfl
            · rw [if_neg (by omega), if_neg h1]
              split
              · have e := h4_drop l i (k + 1)
                rw [← Nat.add_assoc] at e
                rw [e]
                cases hq : h4 (l.drop i) (k + 1) with
                | some a => rfl
                | none =>
                  have hx := hx_in (h4_none hq).2.2.2
                  rw [List.length_drop] at hx
                  exact go 6 (by omega) (by omega)
              · split
                · exact go 2 (by omega) (by omega)
                · simp only [SR.up]; rfl
    · by_cases h2 : l.length < i + k
      · exact .inr h2
      · left
        rw [strE.eq_def (l.drop i) k, strE.eq_def l (i + k), dif_neg (by rw [List.length_drop]; omega), dif_neg hk]
        simp only [SR.up, List.length_drop]
        rw [show i + (l.length - i) = l.length by omega]
/-- What is answered of a string that begins at a place. -/
def stA (i : Nat) : SR → Value
  | .ok n => .tuple #[rtV 4 i (n : Nat), fvV 0 0]
  | .bad n => .tuple #[rtV 0 0 0, fvV 3 (n : Nat)]
theorem nx_str {l : List UInt8} {i : Nat} (hi : i < l.length) (h : bt l i = 34) : nxA i (nx (l.drop i)) = stA i (strE l (i + 1)) := by
  rw [nx_quote (by rw [bt_drop, Nat.add_zero]; exact h), ← (strE_drop (Nat.le_of_lt hi) _ 1 (Nat.le_refl _)).resolve_right (by omega)]
  cases strE (l.drop i) 1 <;> rfl
end Jk
end Go.Proofs.YtdclhepjoifpiaaGreatDoor
