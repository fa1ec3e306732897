/- The document's next token: a number behind a minus. -/
import Derived.Test.YtfnahondlcbjnaaTl
namespace Go.Proofs.Ytfnahondlcbjnaa
open Go.RowKit
namespace Jk
section
variable {l : List UInt8} {A : Option Addr}
set_option maxHeartbeats 8000000 in
set_option maxRecDepth 100000 in
theorem rnext_negd (n c i : Nat) {B : Nat} {x : Int} (w : World) (hn : n = l.length) (hA : Byt w B A l) (hB : B ≤ w.heap.size) (hm : n ≤ 1000000) (hx : x = i) (g : bt l i = 45) (g5 : dg (bt l (i + 1)) = true) :
    Calls Try.prog 11 #[.slice A n c, .int .i64 x] w fun e w' => e = .returned (nxA i (nx (l.drop i))) ∧ Below w.heap.size w w' := by
  have hil1 : i + 1 < l.length := dg_in g5
  have hil : i < l.length := by omega
  have e0 : bt (l.drop i) 0 = 45 := by rw [bt_drop, Nat.add_zero, g]
  have em : mnE (l.drop i) = 1 := by rw [mnE, if_pos e0]
  have ep : i + nmE (l.drop i) = exE l (frE l (intE l (i + 1))) := by rw [nmE, em, exE_drop, frE_drop, intE_drop]
  have E := Lib.hid (show nxA i (nx (l.drop i)) = .tuple #[rtV 3 i ((exE l (frE l (intE l (i + 1))) : Nat) : Int), fvV 0 0] by
    rw [nx_digit (.inl e0), em, bt_drop, g5, if_pos rfl, nxA, ep]; rfl)
  have i1 := intE_gt g5
  have i2 := frE_ge i1.2
  have i3 := exE_ge i2.2
  obtain ⟨p1, hp1⟩ : ∃ p, p = intE l (i + 1) := ⟨_, rfl⟩
  rw [← hp1] at i1 i2 i3 E
  obtain ⟨p2, hp2⟩ : ∃ p, p = frE l p1 := ⟨_, rfl⟩
  rw [← hp2] at i2 i3 E
  obtain ⟨p3, hp3⟩ : ∃ p, p = exE l p2 := ⟨_, rfl⟩
  rw [← hp3] at i3 E
  have HP1 := Lib.hid hp1
  have HP2 := Lib.hid hp2
  have HP3 := Lib.hid hp3
  have I := Lib.hid (And.intro i1 (And.intro i2 i3))
  clear hp1 hp2 hp3 i1 i2 i3 ep
  have HA := Lib.hid (byt_two hA hB (rtO 0 0 0) (fvO 0 0))
  obtain ⟨b, off, rfl, hb, hc⟩ := hA.at_ hil
  have k0 := hc i hil
  have hbw : b < w.heap.size := by omega
  rw [g] at k0
  obtain ⟨d, hd⟩ : ∃ d, d = bt l (i + 1) := ⟨_, rfl⟩
  rw [← hd] at g5
  have HD := Lib.hid hd
  have S := Lib.hid (fun w => rsp_is (c := 45) (b := false) w rfl)
  have D := Lib.hid (fun w => rdg_is (c := d) (b := true) w g5.symm)
  have k1 : ((w.alloc (rtO 0 0 0)).alloc (fvO 0 0)).cell? ⟨b, off + i, none⟩ = some (.int .u8 45) := by
    rw [World.cell?_alloc_lt _ _ _ (by simp; omega), World.cell?_alloc_lt _ _ _ (by simpa using hbw)]; exact k0
  have h0 : ¬ x < 0 := by omega
  have h1 : ¬ (n : Int) ≤ x := by omega
  have hin : i < n := by omega
  have hin1 : i + 1 < n := by omega
  have hi6 : i ≤ 1000000 := by omega
  subst hx
  have Hn := Lib.hid hn
  clear hn hA hB g5 hil hil1 hc k0 hb e0 em hd g
  go_enter Try.func11, Try.ntmps11
  go_upto_if 135 with first
    | (go_at_call 19; refine (S.out _).mono ?_; rintro e w' ⟨rfl, rfl⟩)
    | (go_at_call 20; refine (rat_is n c (i + 1) (v := d) _ Hn.out HA.out (by omega) HD.out).mono ?_; rintro e w' ⟨rfl, rfl⟩)
    | (go_at_call 21; refine (D.out _).mono ?_; rintro e w' ⟨rfl, rfl⟩)
  go_cut [7] from 135 to 140 (fun v wx => v = .int .i64 p1 ∧ wx = (w.alloc (rtO 0 0 0)).alloc (fvO 0 0))
  case first =>
    by_cases hz : d = 48
    · have E1 := Lib.hid (show i + 1 + 1 = p1 by rw [HP1.out, intE, ← HD.out, if_pos hz])
      subst hz
      go_wp2_with fail
      go_meet
      exact ⟨by rw [← E1.out]; go_num, rfl⟩
    · have E1 := Lib.hid (show ((p1 : Nat) : Int) = ((i + 1 + rw dg (l.drop (i + 1)) : Nat) : Int) by rw [HP1.out, intE, ← HD.out, if_neg hz])
      have z1 : (d == 48) = false := by simp; omega
      clear hz
      go_wp2_with (go_at_call 22; refine (rdigits_is n c (i + 1) (v := (p1 : Nat)) _ Hn.out HA.out hm (by omega) (by omega) E1.out).mono ?_; rintro e w' ⟨rfl, rfl⟩)
      go_meet
      exact ⟨rfl, rfl⟩
  case rest =>
    obtain ⟨rfl, rfl⟩ := hcut
    have b1 : p1 ≤ 1000000 := by have := I.out.1.2; have := Hn.out; omega
    have b2 : p2 ≤ 1000000 := by have := I.out.2.1.2; have := Hn.out; omega
    obtain ⟨a, Ha⟩ : ∃ b, Hid (b = bt l p1) := ⟨_, rfl⟩
    obtain ⟨a2, Ha2⟩ : ∃ b, Hid (b = bt l (p1 + 1)) := ⟨_, rfl⟩
    obtain ⟨fq, Hfq⟩ : ∃ q, Hid (q = (decide (a = 46) && dg a2)) := ⟨_, rfl⟩
    have DA := Lib.hid (fun w => rdg_is (c := a2) (b := dg a2) w rfl)
    go_upto_region 28 with fail
    go_cut [151] from 141 to 151 (fun q wx => q = .bool fq ∧ wx = (w.alloc (rtO 0 0 0)).alloc (fvO 0 0))
    case first =>
      by_cases hz : a = 46
      · have z := Lib.hid (show fq = dg a2 by rw [Hfq.out, decide_eq_true hz]; rfl)
        have z2 := Lib.hid hz
        have z1 : (a == 46) = true := by simp [hz]
        clear hz
        go_wp2_with first
          | (go_at_call 20; refine (rat_is n c p1 (v := a) _ Hn.out HA.out (by omega) Ha.out).mono ?_; rintro e w' ⟨rfl, rfl⟩)
          | (go_at_call 20; refine (rat_is n c (p1 + 1) (v := a2) _ Hn.out HA.out (by omega) Ha2.out).mono ?_; rintro e w' ⟨rfl, rfl⟩)
          | (go_at_call 21; refine (DA.out _).mono ?_; rintro e w' ⟨rfl, rfl⟩)
        go_meet
        exact ⟨by rw [z.out], rfl⟩
      · have z := Lib.hid (show fq = false by rw [Hfq.out, decide_eq_false hz]; rfl)
        have z1 : (a == 46) = false := by simp; omega
        clear hz
        go_wp2_with first
          | (go_at_call 20; refine (rat_is n c p1 (v := a) _ Hn.out HA.out (by omega) Ha.out).mono ?_; rintro e w' ⟨rfl, rfl⟩)
        go_meet
        exact ⟨by rw [z.out], rfl⟩
    case rest =>
    obtain ⟨rfl, rfl⟩ := hcut
    go_upto_if 151 with fail
    go_cut [7] from 152 to 155 (fun v wx => v = .int .i64 p2 ∧ wx = (w.alloc (rtO 0 0 0)).alloc (fvO 0 0))
    case first =>
      cases fq
      · have E1 := Lib.hid (show p2 = p1 by
          have h := Hfq.out.symm
          rw [HP2.out, frE, if_neg (by rw [← Ha.out, ← Ha2.out]; rintro ⟨u, v⟩; rw [decide_eq_true u, v] at h; cases h)])
        go_wp2_with fail
        go_meet
        exact ⟨by rw [E1.out], rfl⟩
      · have E1 := Lib.hid (show ((p2 : Nat) : Int) = ((p1 + 1 + rw dg (l.drop (p1 + 1)) : Nat) : Int) by
          have h := Hfq.out.symm
          rw [Bool.and_eq_true, decide_eq_true_eq] at h
          rw [HP2.out, frE, if_pos (by rw [← Ha.out, ← Ha2.out]; exact h)])
        go_wp2_with (go_at_call 22; refine (rdigits_is n c (p1 + 1) (v := (p2 : Nat)) _ Hn.out HA.out hm (by omega) (by omega) E1.out).mono ?_; rintro e w' ⟨rfl, rfl⟩)
        go_meet
        exact ⟨rfl, rfl⟩
    case rest =>
    obtain ⟨rfl, rfl⟩ := hcut
    obtain ⟨f, Hf⟩ : ∃ b, Hid (b = bt l p2) := ⟨_, rfl⟩
    obtain ⟨s1, Hs1⟩ : ∃ b, Hid (b = bt l (p2 + 1)) := ⟨_, rfl⟩
    obtain ⟨eq, Heq⟩ : ∃ q, Hid (q = decide (f = 101 ∨ f = 69)) := ⟨_, rfl⟩
    go_upto_region 30 with fail
    go_cut [165] from 156 to 165 (fun q wx => q = .bool eq ∧ wx = (w.alloc (rtO 0 0 0)).alloc (fvO 0 0))
    case first =>
      by_cases hz : f = 101
      · have z := Lib.hid (show eq = true by rw [Heq.out]; exact decide_eq_true (.inl hz))
        have z1 : (f == 101) = true := by simp [hz]
        clear hz
        go_wp2_with (go_at_call 20; refine (rat_is n c p2 (v := f) _ Hn.out HA.out (by omega) Hf.out).mono ?_; rintro e w' ⟨rfl, rfl⟩)
        go_meet
        exact ⟨by rw [z.out], rfl⟩
      · have z := Lib.hid (show eq = (f == 69) by rw [Heq.out]; by_cases q : f = 69 <;> simp [q, hz])
        have z1 : (f == 101) = false := by simp; omega
        clear hz
        go_wp2_with (go_at_call 20; refine (rat_is n c p2 (v := f) _ Hn.out HA.out (by omega) Hf.out).mono ?_; rintro e w' ⟨rfl, rfl⟩)
        go_meet
        exact ⟨by rw [z.out], rfl⟩
    case rest =>
    obtain ⟨rfl, rfl⟩ := hcut
    go_upto_if 165 with fail
    go_cut [7, 9] from 166 to 186 (fun v k wx => v = .int .i64 p3 ∧ wx = (w.alloc (rtO 0 0 0)).alloc (fvO 0 0))
    case first =>
      cases eq
      · have E1 := Lib.hid (show p3 = p2 by
          have h := of_decide_eq_false Heq.out.symm
          rw [HP3.out, exE, if_neg (by rw [← Hf.out]; exact fun u => h u.1)])
        go_wp2_with fail
        go_meet
        exact ⟨by rw [E1.out], rfl⟩
      · have he := of_decide_eq_true Heq.out.symm
        obtain ⟨s2, Hs2⟩ : ∃ s, Hid (s = sgE l (p2 + 1)) := ⟨_, rfl⟩
        have h3 : p3 = if dg (bt l s2) = true then s2 + rw dg (l.drop s2) else p2 := by
          rw [HP3.out, exE, ← Hs2.out, ← Hf.out]
          by_cases q : dg (bt l s2) = true
          · rw [if_pos q, if_pos ⟨he, q⟩]
          · rw [if_neg q, if_neg (fun u => q u.2)]
        clear he
        obtain ⟨d4, Hd4⟩ : ∃ b, Hid (b = bt l s2) := ⟨_, rfl⟩
        rw [← Hd4.out] at h3
        have hs : s2 = if s1 = 43 ∨ s1 = 45 then p2 + 1 + 1 else p2 + 1 := by rw [Hs2.out, sgE, ← Hs1.out]
        have hcase : (s1 = 43 ∧ s2 = p2 + 1 + 1) ∨ ((s1 == 43) = false ∧ s1 = 45 ∧ s2 = p2 + 1 + 1) ∨ ((s1 == 43) = false ∧ (s1 == 45) = false ∧ s2 = p2 + 1) := by
          by_cases u : s1 = 43
          · rw [if_pos (.inl u)] at hs; exact .inl ⟨u, hs⟩
          · by_cases v : s1 = 45
            · rw [if_pos (.inr v)] at hs; exact .inr (.inl ⟨by simpa using u, v, hs⟩)
            · rw [if_neg (by omega)] at hs; exact .inr (.inr ⟨by simpa using u, by simpa using v, hs⟩)
        clear hs
        cases hd4 : dg d4
        · rw [hd4, if_neg (by simp)] at h3
          have D4 := Lib.hid (fun w => rdg_is (c := d4) (b := false) w hd4.symm)
          have E1 := Lib.hid h3
          clear h3 hd4
          rcases hcase with ⟨rfl, u2⟩ | ⟨u0, rfl, u2⟩ | ⟨u0, u1, u2⟩
          all_goals
            try
              have hsd : d4 = s1 := by rw [Hs1.out, Hd4.out, u2]
              subst hsd
            go_wp2_with first
              | (go_at_call 20; refine (rat_is n c (p2 + 1) (v := _) _ Hn.out HA.out (by omega) Hs1.out).mono ?_; rintro e w' ⟨rfl, rfl⟩)
              | (go_at_call 20; refine (rat_is n c s2 (v := d4) _ Hn.out HA.out (by omega) Hd4.out).mono ?_; rintro e w' ⟨rfl, rfl⟩)
              | (go_at_call 21; refine (D4.out _).mono ?_; rintro e w' ⟨rfl, rfl⟩)
            go_meet
            exact ⟨by rw [E1.out], rfl⟩
        · rw [hd4, if_pos rfl] at h3
          have D4 := Lib.hid (fun w => rdg_is (c := d4) (b := true) w hd4.symm)
          have E1 := Lib.hid (show ((p3 : Nat) : Int) = ((s2 + rw dg (l.drop s2) : Nat) : Int) by rw [h3])
          clear h3 hd4
          rcases hcase with ⟨rfl, u2⟩ | ⟨u0, rfl, u2⟩ | ⟨u0, u1, u2⟩
          all_goals
            try
              have hsd : d4 = s1 := by rw [Hs1.out, Hd4.out, u2]
              subst hsd
            go_wp2_with first
              | (go_at_call 20; refine (rat_is n c (p2 + 1) (v := _) _ Hn.out HA.out (by omega) Hs1.out).mono ?_; rintro e w' ⟨rfl, rfl⟩)
              | (go_at_call 20; refine (rat_is n c s2 (v := d4) _ Hn.out HA.out (by omega) Hd4.out).mono ?_; rintro e w' ⟨rfl, rfl⟩)
              | (go_at_call 21; refine (D4.out _).mono ?_; rintro e w' ⟨rfl, rfl⟩)
              | (go_at_call 22; refine (rdigits_is n c s2 (v := (p3 : Nat)) _ Hn.out HA.out hm (by omega) (by omega) E1.out).mono ?_; rintro e w' ⟨rfl, rfl⟩)
            go_meet
            exact ⟨rfl, rfl⟩
    case rest =>
    obtain ⟨rfl, rfl⟩ := hcut
    have F0 := Lib.hid (RS.start (w := w) (k := 3) (i := i) (j := p3) (c := 0) (a := 0))
    go_wp2_with fail
    refine bodyPost_ret (v := .tuple #[rtV 3 i p3, fvV 0 0]) (by simp [results, Try.results11, go_sem, *]) rfl ?_
    exact ⟨by rw [E.out], F0.out.below⟩
end
end Jk
end Go.Proofs.Ytfnahondlcbjnaa
