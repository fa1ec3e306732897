/- The document's next token: a number behind a minus. -/
import Derived.Test.YtdclhepjoifpiaaGreatDoorAv
import Derived.Test.YtdclhepjoifpiaaGreatDoorAu
import Derived.Test.YtdclhepjoifpiaaGreatDoorAm
import Derived.Lib.Strings
namespace Go.Proofs.YtdclhepjoifpiaaGreatDoor
open Go.RowKit
namespace Jk
section
variable {l : List UInt8} {A : Option Addr}
set_option maxHeartbeats 8000000 in
set_option maxRecDepth 100000 in
theorem rnext_negd (n c i : Nat) {B : Nat} {x : Int} (w : World) (hn : n = l.length) (hA : Byt w B A l) (hB : B ≤ w.heap.size) (hm : n ≤ 1000000) (hx : x = i) (g : bt l i = 45) (g5 : dg (bt l (i + 1)) = true) :
    Calls Tryz.prog 32 #[.slice A n c, .int .i64 x] w fun e w' => e = .returned (nxA i (nx (l.drop i))) ∧ Below w.heap.size w w' := by
  have hil1 : i + 1 < l.length := dg_in g5
  have hil : i < l.length := by omega
  have e0 : bt (l.drop i) 0 = 45 := by rw [bt_drop, Nat.add_zero, g]
  have em : mnE (l.drop i) = 1 := by rw [mnE, if_pos e0]
  have ep : i + nmE (l.drop i) = exE l (frE l (intE l (i + 1))) := by rw [nmE, em, exE_drop, frE_drop, intE_drop]
  have E := Lib.hid (show nxA i (nx (l.drop i)) = .tuple #[rtV 3 i ((exE l (frE l (intE l (i + 1))) : Nat) : Int), fvV 0 0] by
    rw [nx_digit (.inl e0), em, bt_drop, g5, if_pos rfl, nxA, ep]; rfl)
  have i1 := intE_gt g5
  have i2 := frE_ge i1.2
  have i3 := exE_ge i2.2
  obtain ⟨p1, hp1⟩ : ∃ p, p = intE l (i + 1) := ⟨_, rfl⟩
  rw [← hp1] at i1 i2 i3 E
  obtain ⟨p2, hp2⟩ : ∃ p, p = frE l p1 := ⟨_, rfl⟩
  rw [← hp2] at i2 i3 E
  obtain ⟨p3, hp3⟩ : ∃ p, p = exE l p2 := ⟨_, rfl⟩
  rw [← hp3] at i3 E
  have HP1 := Lib.hid hp1
  have HP2 := Lib.hid hp2
  have HP3 := Lib.hid hp3
  have I := Lib.hid (And.intro i1 (And.intro i2 i3))
  clear hp1 hp2 hp3 i1 i2 i3 ep
  have HA := Lib.hid (byt_two hA hB (rtO 0 0 0) (fvO 0 0))
  obtain ⟨b, off, rfl, hb, hc⟩ := hA.at_ hil
  have k0 := hc i hil
  have hbw : b < w.heap.size := by omega
  rw [g] at k0
  obtain ⟨d, hd⟩ : ∃ d, d = bt l (i + 1) := ⟨_, rfl⟩
  rw [← hd] at g5
  have HD := Lib.hid hd
  have S := Lib.hid (fun w => rsp_is (c := 45) (b := false) w rfl)
  have D := Lib.hid (fun w => rdg_is (c := d) (b := true) w g5.symm)
  have k1 : ((w.alloc (rtO 0 0 0)).alloc (fvO 0 0)).cell? ⟨b, off + i, none⟩ = some (.int .u8 45) := by
    rw [World.cell?_alloc_lt _ _ _ (by simp; omega), World.cell?_alloc_lt _ _ _ (by simpa using hbw)]; exact k0
  have h0 : ¬ x < 0 := by omega
  have h1 : ¬ (n : Int) ≤ x := by omega
  have hin : i < n := by omega
  have hin1 : i + 1 < n := by omega
  have hi6 : i ≤ 1000000 := by omega
  subst hx
  have Hn := Lib.hid hn
  clear hn hA hB g5 hil hil1 hc k0 hb e0 em hd g
  go_enter Tryz.func32, Tryz.ntmps32
  go_upto_if 135 with first
    | (go_at_call 46; refine (S.out _).mono ?_; rintro e w' ⟨rfl, rfl⟩)
    | (go_at_call 47; refine (rat_is n c (i + 1) (v := d) _ Hn.out HA.out (by omega) HD.out).mono ?_; rintro e w' ⟨rfl, rfl⟩)
    | (go_at_call 48; refine (D.out _).mono ?_; rintro e w' ⟨rfl, rfl⟩)
  go_cut [7] from 135 to 140 (fun v wx => v = .int .i64 p1 ∧ wx = (w.alloc (rtO 0 0 0)).alloc (fvO 0 0))
  case first =>
    by_cases hz : d = 48
    · have E1 := Lib.hid (show i + 1 + 1 = p1 by rw [HP1.out, intE, ← HD.out, if_pos hz])
      subst hz
      go_wp2_with fail
      go_meet
      exact ⟨by rw [← E1.out]; go_num, rfl⟩
    · have E1 := Lib.hid (show ((p1 : Nat) : Int) = ((i + 1 + rw dg (l.drop (i + 1)) : Nat) : Int) by rw [HP1.out, intE, ← HD.out, if_neg hz])
      have z1 : (d == 48) = false := by simp; omega
      clear hz
      go_wp2_with (go_at_call 49; refine (rdigits_is n c (i + 1) (v := (p1 : Nat)) _ Hn.out HA.out hm (by omega) (by omega) E1.out).mono ?_; rintro e w' ⟨rfl, rfl⟩)
      go_meet
      exact ⟨rfl, rfl⟩
  case rest =>
    obtain ⟨rfl, rfl⟩ := hcut
    have b1 : p1 ≤ 1000000 := by have := I.out.1.2; have := Hn.out; omega
    have b2 : p2 ≤ 1000000 := by have := I.out.2.1.2; have := Hn.out; omega
    obtain ⟨a, Ha⟩ : ∃ b, Hid (b = bt l p1) := ⟨_, rfl⟩
    obtain ⟨a2, Ha2⟩ : ∃ b, Hid (b = bt l (p1 + 1)) := ⟨_, rfl⟩
    obtain ⟨fq, Hfq⟩ : ∃ q, Hid (q = (decide (a = 46) && dg a2)) := ⟨_, rfl⟩
    have DA := Lib.hid (fun w => rdg_is (c := a2) (b := dg a2) w rfl)
    go_upto_region 28 with fail
    go_cut [151] from 141 to 151 (fun q wx => q = .bool fq ∧ wx = (w.alloc (rtO 0 0 0)).alloc (fvO 0 0))
    case first =>
      by_cases hz : a = 46
      · have z := Lib.hid (show fq = dg a2 by rw [Hfq.out, decide_eq_true hz]; rfl)
        have z2 := Lib.hid hz
        have z1 : (a == 46) = true := by simp [hz]
        clear hz
        go_wp2_with first
          | (go_at_call 47; refine (rat_is n c p1 (v := a) _ Hn.out HA.out (by omega) Ha.out).mono ?_; rintro e w' ⟨rfl, rfl⟩)
          | (go_at_call 47; refine (rat_is n c (p1 + 1) (v := a2) _ Hn.out HA.out (by omega) Ha2.out).mono ?_; rintro e w' ⟨rfl, rfl⟩)
          | (go_at_call 48; refine (DA.out _).mono ?_; rintro e w' ⟨rfl, rfl⟩)
        go_meet
        exact ⟨by rw [z.out], rfl⟩
      · have z := Lib.hid (show fq = false by rw [Hfq.out, decide_eq_false hz]; rfl)
        have z1 : (a == 46) = false := by simp; omega
        clear hz
        go_wp2_with first
          | (go_at_call 47; refine (rat_is n c p1 (v := a) _ Hn.out HA.out (by omega) Ha.out).mono ?_; rintro e w' ⟨rfl, rfl⟩)
        go_meet
        exact ⟨by rw [z.out], rfl⟩
    case rest =>
    obtain ⟨rfl, rfl⟩ := hcut
    go_upto_if 151 with fail
    go_cut [7] from 152 to 155 (fun v wx => v = .int .i64 p2 ∧ wx = (w.alloc (rtO 0 0 0)).alloc (fvO 0 0))
    case first =>
      cases fq
      · have E1 := Lib.hid (show p2 = p1 by
          have h := Hfq.out.symm
          rw [HP2.out, frE, if_neg (by rw [← Ha.out, ← Ha2.out]; rintro ⟨u, v⟩; rw [decide_eq_true u, v] at h; cases h)])
        go_wp2_with fail
        go_meet
        exact ⟨by rw [E1.out], rfl⟩
      · have E1 := Lib.hid (show ((p2 : Nat) : Int) = ((p1 + 1 + rw dg (l.drop (p1 + 1)) : Nat) : Int) by
          have h := Hfq.out.symm
          rw [Bool.and_eq_true, decide_eq_true_eq] at h
          rw [HP2.out, frE, if_pos (by rw [← Ha.out, ← Ha2.out]; exact h)])
        go_wp2_with (go_at_call 49; refine (rdigits_is n c (p1 + 1) (v := (p2 : Nat)) _ Hn.out HA.out hm (by omega) (by omega) E1.out).mono ?_; rintro e w' ⟨rfl, rfl⟩)
        go_meet
        exact ⟨rfl, rfl⟩
    case rest =>
    obtain ⟨rfl, rfl⟩ := hcut
    obtain ⟨f, Hf⟩ : ∃ b, Hid (b = bt l p2) := ⟨_, rfl⟩
    obtain ⟨s1, Hs1⟩ : ∃ b, Hid (b = bt l (p2 + 1)) := ⟨_, rfl⟩
    obtain ⟨eq, Heq⟩ : ∃ q, Hid (q = decide (f = 101 ∨ f = 69)) := ⟨_, rfl⟩
    go_upto_region 30 with fail
    go_cut [165] from 156 to 165 (fun q wx => q = .bool eq ∧ wx = (w.alloc (rtO 0 0 0)).alloc (fvO 0 0))
    case first =>
      by_cases hz : f = 101
      · have z := Lib.hid (show eq = true by rw [Heq.out]; exact decide_eq_true (.inl hz))
        have z1 : (f == 101) = true := by simp [hz]
        clear hz
        go_wp2_with (go_at_call 47; refine (rat_is n c p2 (v := f) _ Hn.out HA.out (by omega) Hf.out).mono ?_; rintro e w' ⟨rfl, rfl⟩)
        go_meet
        exact ⟨by rw [z.out], rfl⟩
      · have z := Lib.hid (show eq = (f == 69) by rw [Heq.out]; by_cases q : f = 69 <;> simp [q, hz])
        have z1 : (f == 101) = false := by simp; omega
        clear hz
        go_wp2_with (go_at_call 47; refine (rat_is n c p2 (v := f) _ Hn.out HA.out (by omega) Hf.out).mono ?_; rintro e w' ⟨rfl, rfl⟩)
        go_meet
        exact ⟨by rw [z.out], rfl⟩
    case rest =>
    obtain ⟨rfl, rfl⟩ := hcut
    go_upto_if 165 with fail
    go_cut [7, 9] from 166 to 186 (fun v k wx => v = .int .i64 p3 ∧ wx = (w.alloc (rtO 0 0 0)).alloc (fvO 0 0))
    case first =>
      cases eq
      · have E1 := Lib.hid (show p3 = p2 by
          have h := of_decide_eq_false Heq.out.symm
          rw [HP3.out, exE, if_neg (by rw [← Hf.out]; exact fun u => h u.1)])
        go_wp2_with fail
        go_meet
        exact ⟨by rw [E1.out], rfl⟩
      · have he := of_decide_eq_true Heq.out.symm
        obtain ⟨s2, Hs2⟩ : ∃ s, Hid (s = sgE l (p2 + 1)) := ⟨_, rfl⟩
        have h3 : p3 = if dg (bt l s2) = true then s2 + rw dg (l.drop s2) else p2 := by
          rw [HP3.out, exE, ← Hs2.out, ← Hf.out]
          by_cases q : dg (bt l s2) = true
          · rw [if_pos q, if_pos ⟨he, q⟩]
          · rw [if_neg q, if_neg (fun u => q u.2)]
        clear he
        obtain ⟨d4, Hd4⟩ : ∃ b, Hid (b = bt l s2) := ⟨_, rfl⟩
        rw [← Hd4.out] at h3
        have hs : s2 = if s1 = 43 ∨ s1 = 45 then p2 + 1 + 1 else p2 + 1 := by rw [Hs2.out, sgE, ← Hs1.out]
        have hcase : (s1 = 43 ∧ s2 = p2 + 1 + 1) ∨ ((s1 == 43) = false ∧ s1 = 45 ∧ s2 = p2 + 1 + 1) ∨ ((s1 == 43) = false ∧ (s1 == 45) = false ∧ s2 = p2 + 1) := by
          by_cases u : s1 = 43
          · rw [if_pos (.inl u)] at hs; exact .inl ⟨u, hs⟩
          · by_cases v : s1 = 45
            · rw [if_pos (.inr v)] at hs; exact .inr (.inl ⟨by simpa using u, v, hs⟩)
            · rw [if_neg (by omega)] at hs; exact .inr (.inr ⟨by simpa using u, by simpa using v, hs⟩)
        clear hs
        cases hd4 : dg d4
        · rw [hd4, if_neg (by simp)] at h3
          have D4 := Lib.hid (fun w => rdg_is (c := d4) (b := false) w hd4.symm)
          have E1 := Lib.hid h3
          clear h3 hd4
          rcases hcase with ⟨rfl, u2⟩ | ⟨u0, rfl, u2⟩ | ⟨u0, u1, u2⟩
          all_goals
            try
              have hsd : d4 = s1 := by rw [Hs1.out, Hd4.out, u2]
              subst hsd
            go_wp2_with first
              | (go_at_call 47; refine (rat_is n c (p2 + 1) (v := _) _ Hn.out HA.out (by omega) Hs1.out).mono ?_; rintro e w' ⟨rfl, rfl⟩)
              | (go_at_call 47; refine (rat_is n c s2 (v := d4) _ Hn.out HA.out (by omega) Hd4.out).mono ?_; rintro e w' ⟨rfl, rfl⟩)
              | (go_at_call 48; refine (D4.out _).mono ?_; rintro e w' ⟨rfl, rfl⟩)
            go_meet
            exact ⟨by rw [E1.out], rfl⟩
        · rw [hd4, if_pos rfl] at h3
          have D4 := Lib.hid (fun w => rdg_is (c := d4) (b := true) w hd4.symm)
          have E1 := Lib.hid (show ((p3 : Nat) : Int) = ((s2 + rw dg (l.drop s2) : Nat) : Int) by rw [h3])
          clear h3 hd4
          rcases hcase with ⟨rfl, u2⟩ | ⟨u0, rfl, u2⟩ | ⟨u0, u1, u2⟩
          all_goals
            try
              have hsd : d4 = s1 := by rw [Hs1.out, Hd4.out, u2]
              subst hsd
            go_wp2_with first
              | (go_at_call 47; refine (rat_is n c (p2 + 1) (v := _) _ Hn.out HA.out (by omega) Hs1.out).mono ?_; rintro e w' ⟨rfl, rfl⟩)
              | (go_at_call 47; refine (rat_is n c s2 (v := d4) _ Hn.out HA.out (by omega) Hd4.out).mono ?_; rintro e w' ⟨rfl, rfl⟩)
              | (go_at_call 48; refine (D4.out _).mono ?_; rintro e w' ⟨rfl, rfl⟩)
              | (go_at_call 49; refine (rdigits_is n c s2 (v := (p3 : Nat)) _ Hn.out HA.out hm (by omega) (by omega) E1.out).mono ?_; rintro e w' ⟨rfl, rfl⟩)
            go_meet
            exact ⟨rfl, rfl⟩
    case rest =>
    obtain ⟨rfl, rfl⟩ := hcut
    have F0 := Lib.hid (RS.start (w := w) (k := 3) (i := i) (j := p3) (c := 0) (a := 0))
    go_wp2_with fail
    refine bodyPost_ret (v := .tuple #[rtV 3 i p3, fvV 0 0]) (by simp [results, Tryz.results32, go_sem, *]) rfl ?_
    exact ⟨by rw [E.out], F0.out.below⟩
end
end Jk
end Go.Proofs.YtdclhepjoifpiaaGreatDoor
/- The document's next token: a minus with no digit behind. -/
namespace Go.Proofs.YtdclhepjoifpiaaGreatDoor
open Go.RowKit
namespace Jk
section
variable {l : List UInt8} {A : Option Addr}
set_option maxHeartbeats 8000000 in
set_option maxRecDepth 100000 in
theorem rnext_minus (n c i : Nat) {B : Nat} {x : Int} (w : World) (hn : n = l.length) (hA : Byt w B A l) (hB : B ≤ w.heap.size) (hm : n ≤ 1000000) (hx : x = i) (g : bt l i = 45) (g5 : dg (bt l (i + 1)) = false) :
    Calls Tryz.prog 32 #[.slice A n c, .int .i64 x] w fun e w' => e = .returned (nxA i (nx (l.drop i))) ∧ Below w.heap.size w w' := by
  have hil : i < l.length := bt_in (by omega)
  have e0 : bt (l.drop i) 0 = 45 := by rw [bt_drop, Nat.add_zero, g]
  have em : mnE (l.drop i) = 1 := by rw [mnE, if_pos e0]
  have E := Lib.hid (show nxA i (nx (l.drop i)) = .tuple #[rtV 0 0 0, fvV 3 (i + 1)] by
    rw [nx_digit (.inl e0), em, bt_drop, g5]; rfl)
  have HA := Lib.hid (byt_two hA hB (rtO 0 0 0) (fvO 0 0))
  obtain ⟨b, off, rfl, hb, hc⟩ := hA.at_ hil
  have k0 := hc i hil
  have hbw : b < w.heap.size := by omega
  rw [g] at k0
  have S := Lib.hid (fun w => rsp_is (c := 45) (b := false) w rfl)
  obtain ⟨d2, Hb⟩ : ∃ b, Hid (b = bt l (i + 1)) := ⟨_, rfl⟩
  rw [← Hb.out] at g5
  have D := Lib.hid (fun w => rdg_is (c := d2) (b := false) w g5.symm)
  have k1 : ((w.alloc (rtO 0 0 0)).alloc (fvO 0 0)).cell? ⟨b, off + i, none⟩ = some (.int .u8 45) := by
    rw [World.cell?_alloc_lt _ _ _ (by simp; omega), World.cell?_alloc_lt _ _ _ (by simpa using hbw)]; exact k0
  have h0 : ¬ x < 0 := by omega
  have h1 : ¬ (n : Int) ≤ x := by omega
  have hin : i < n := by omega
  have hi6 : i ≤ 1000000 := by omega
  subst hx
  have hw : wrap64 ((i : Int) + 1) = i + 1 := by unfold wrap64; omega
  have Hn := Lib.hid hn
  clear hn hA hB g g5 hil hc k0 hb e0 em
  have F0 := Lib.hid (RS.start (w := w) (k := 0) (i := 0) (j := 0) (c := 0) (a := 0))
  go_enter Tryz.func32, Tryz.ntmps32
  go_wp2_with first
    | (go_at_call 46; refine (S.out _).mono ?_; rintro e w' ⟨rfl, rfl⟩)
    | (go_at_call 47; refine (rat_is n c (i + 1) (v := d2) _ Hn.out HA.out (by omega) Hb.out).mono ?_; rintro e w' ⟨rfl, rfl⟩)
    | (go_at_call 48; refine (D.out _).mono ?_; rintro e w' ⟨rfl, rfl⟩)
  refine (rsyn_is _ _).mono ?_
  rintro e w1 ⟨rfl, hb⟩
  have F1 := Lib.hid (F0.out.on hb)
  clear hb
  obtain ⟨⟨c0, c1, c2, c3, c4⟩, f0, f1, f2, f3, f4⟩ := F1.out.cells
  go_wp2_with fail
  refine bodyPost_ret (v := .tuple #[rtV 0 0 0, fvV 3 (i + 1)]) (by simp [results, Tryz.results32, go_sem, *]) rfl ?_
  exact ⟨by rw [E.out], F1.out.set.below⟩
end
end Jk
end Go.Proofs.YtdclhepjoifpiaaGreatDoor
/- The document's next token: letters, up to where the word is cut out. -/
namespace Go.Proofs.YtdclhepjoifpiaaGreatDoor
open Go.RowKit
namespace Jk

/-- The letters of a place, as a text. -/
theorem word_cut {l : List UInt8} {i : Nat} : (l.drop i).take (rw ltr (l.drop i)) = (l.take (i + rw ltr (l.drop i))).drop i := by
  rw [List.drop_take, Nat.add_sub_cancel_left]
theorem cut_two {w : World} {B : Nat} {b off : Nat} {l : List UInt8} (hA : Byt w B (some ⟨b, off, none⟩) l) {i j : Nat} (hi : i ≤ j) (hj : j ≤ l.length) : Byt w B (some ⟨b, off + i, none⟩) ((l.take j).drop i) :=
  (hA.take j).cutAt (by rw [List.length_take]; omega)
section
variable {l : List UInt8} {A : Option Addr}
set_option maxHeartbeats 8000000 in
set_option maxRecDepth 100000 in
theorem rnext_word (n c i : Nat) {B : Nat} {x : Int} (w : World) (hn : n = l.length) (hnc : n ≤ c) (_hc6 : c ≤ maxLen) (hA : Byt w B A l) (hB : B ≤ w.heap.size) (hm : n ≤ 1000000) (hx : x = i) (hi : ltr (bt l i) = true) :
    Calls Tryz.prog 32 #[.slice A n c, .int .i64 x] w fun e w' => e = .returned (nxA i (nx (l.drop i))) ∧ Below w.heap.size w w' := by
  have hm0 := ltr_v.1 hi
  have hil : i < l.length := bt_in (by omega)
  unfold maxLen at _hc6
  have E := Lib.hid (show nxA i (nx (l.drop i)) = nxA i (if words ((l.drop i).take (rw ltr (l.drop i))) = true then .tok 2 (rw ltr (l.drop i)) else .bad 0) by
    rw [nx_letter (by rw [bt_drop, Nat.add_zero]; exact hi)])
  have HA := Lib.hid (byt_two hA hB (rtO 0 0 0) (fvO 0 0))
  obtain ⟨b, off, rfl, hb, hc⟩ := hA.at_ hil
  have k0 := hc i hil
  have hbw : b < w.heap.size := by omega
  obtain ⟨d, hd⟩ : ∃ d, d = bt l i := ⟨_, rfl⟩
  rw [← hd] at k0 hi hm0
  obtain ⟨hlo, hhi⟩ := hm0
  have S := Lib.hid (fun w => rsp_is (c := d) (b := false) w (by rw [spc_no]; omega))
  have k1 : ((w.alloc (rtO 0 0 0)).alloc (fvO 0 0)).cell? ⟨b, off + i, none⟩ = some (.int .u8 d) := by
    rw [World.cell?_alloc_lt _ _ _ (by simp; omega), World.cell?_alloc_lt _ _ _ (by simpa using hbw)]; exact k0
  have h0 : ¬ x < 0 := by omega
  have h1 : ¬ (n : Int) ≤ x := by omega
  have hin : i < n := by omega
  have q1 : (d == 123) = false := by simp; omega
  have q2 : (d == 125) = false := by simp; omega
  have q3 : (d == 91) = false := by simp; omega
  have q4 : (d == 93) = false := by simp; omega
  have q5 : (d == 44) = false := by simp; omega
  have q6 : (d == 58) = false := by simp; omega
  subst hx
  have Hn := Lib.hid hn
  clear hn hA hB hi hil hc hd k0 hb
  go_enter Tryz.func32, Tryz.ntmps32
  go_wp2_with (go_at_call 46; refine (S.out _).mono ?_; rintro e w' ⟨rfl, rfl⟩)
  go_loop [7] (fun v => ∃ j : Nat, v = .int .i64 j ∧ i ≤ j ∧ j ≤ n ∧ j + rw ltr (l.drop j) = i + rw ltr (l.drop i)) (fun v => n - (intOf v).toNat)
  case atStart => exact ⟨i, rfl, Nat.le_refl _, by omega, rfl⟩
  case round =>
    obtain ⟨j, rfl, hij, hj, hs⟩ := hrel
    have HS := Lib.hid hs
    clear hs
    have G := Lib.hid (rw_at (p := ltr) ltr0 (l := l) (k := j))
    obtain ⟨d2, Hb⟩ : ∃ b, Hid (b = bt l j) := ⟨_, rfl⟩
    by_cases hd : ltr d2 = true
    · have hlt : j < n := by
        have : j < l.length := bt_in (by rw [← Hb.out]; have := ltr_v.1 hd; omega)
        have := Hn.out; omega
      have e : rw ltr (l.drop j) = rw ltr (l.drop (j + 1)) + 1 := by rw [G.out, ← Hb.out, if_pos hd]
      have E2 := Lib.hid e
      obtain ⟨hd1, hd2⟩ := ltr_v.1 hd
      clear e hd
      go_wp2_with (go_at_call 47; refine (rat_is n c j (v := d2) _ Hn.out HA.out rfl Hb.out).mono ?_; rintro e w' ⟨rfl, rfl⟩)
      go_round
      case rel => exact ⟨j + 1, by go_num, by omega, by omega, by have := HS.out; have := E2.out; omega⟩
      case measure => simp [intOf]; omega
    · have hd' : ¬ (97 ≤ d2 ∧ d2 ≤ 122) := fun g => hd (ltr_v.2 g)
      have e : rw ltr (l.drop j) = 0 := by rw [G.out, ← Hb.out, ltr_no hd']; rfl
      have hj2 : i + rw ltr (l.drop i) = j := by have := HS.out; omega
      have E := E.out
      rw [word_cut, hj2, show rw ltr (l.drop i) = j - i by omega] at E
      obtain ⟨t, ht⟩ : ∃ t, t = (l.take j).drop i := ⟨_, rfl⟩
      have hcv := conv_bytes (l := (l.take j).drop i) (w := (w.alloc (rtO 0 0 0)).alloc (fvO 0 0)) (j - i) (c - i) (by have := Hn.out; simp; omega) (cut_two HA.out hij (by have := Hn.out; omega))
      rw [← ht] at E hcv
      clear ht
      have hcase : (97 ≤ d2 ∧ ¬ d2 ≤ 122) ∨ ¬ 97 ≤ d2 := by omega
      have HD : Hid (¬ (97 ≤ d2 ∧ d2 ≤ 122)) := Lib.hid hd'
      clear hd hd' e
      by_cases hw : words t = true
      · rw [if_pos hw] at E
        have E := Lib.hid E
        have hv : t = [116, 114, 117, 101] ∨ t = [102, 97, 108, 115, 101] ∨ t = [110, 117, 108, 108] := by simpa [words] using hw
        clear hw
        have F0 := Lib.hid (RS.start (w := w) (k := 2) (i := i) (j := j) (c := 0) (a := 0))
        rcases hv with rfl | rfl | rfl <;> rcases hcase with ⟨g1, g2⟩ | g1
        all_goals
          simp only [txt] at hcv
          go_wp2_with (go_at_call 47; refine (rat_is n c j (v := d2) _ Hn.out HA.out rfl Hb.out).mono ?_; rintro e w' ⟨rfl, rfl⟩)
          refine bodyPost_ret (v := .tuple #[rtV 2 i j, fvV 0 0]) (by simp [results, Tryz.results32, go_sem, *]) rfl ?_
          exact ⟨by (try rw [E.out]); simp only [nxA]; rw [show i + (j - i) = j by omega]; rfl, F0.out.below⟩
      · have hv : ¬ (t = [116, 114, 117, 101] ∨ t = [102, 97, 108, 115, 101] ∨ t = [110, 117, 108, 108]) := by simpa [words] using hw
        rw [if_neg hw] at E
        have E := Lib.hid E
        clear hw
        obtain ⟨U, hU⟩ : ∃ U, U = txt t := ⟨_, rfl⟩
        have hne : ∀ m : List UInt8, t ≠ m → ¬ U.toList = m := fun m hm => by
          rw [hU, Lib.toList_data]
          exact hm
        have u1 := hne _ (fun e => hv (.inl e))
        have u2 := hne _ (fun e => hv (.inr (.inl e)))
        have u3 := hne _ (fun e => hv (.inr (.inr e)))
        rw [← hU] at hcv
        clear hU hne hv
        have F0 := Lib.hid (RS.start (w := w) (k := 0) (i := 0) (j := 0) (c := 0) (a := 0))
        rcases hcase with ⟨g1, g2⟩ | g1
        all_goals
          go_wp2_with first
            | (go_at_call 47; refine (rat_is n c j (v := d2) _ Hn.out HA.out rfl Hb.out).mono ?_; rintro e w' ⟨rfl, rfl⟩)
          refine (rsyn_is _ _).mono ?_
          rintro e w1 ⟨rfl, hb⟩
          have F1 := Lib.hid (F0.out.on hb)
          clear hb
          obtain ⟨⟨c0, c1, c2, c3, c4⟩, f0, f1, f2, f3, f4⟩ := F1.out.cells
          go_wp2_with fail
          refine bodyPost_ret (v := .tuple #[rtV 0 0 0, fvV 3 i]) (by simp [results, Tryz.results32, go_sem, *]) rfl ?_
          exact ⟨by (try rw [E.out]); simp only [nxA, Nat.add_zero], F1.out.set.below⟩
          all_goals
            have hq : ((!U.toList == [116, 114, 117, 101]) = false ∨ (!U.toList == [102, 97, 108, 115, 101]) = false) ∨ (!U.toList == [110, 117, 108, 108]) = false := by assumption
            rcases hq with (hq | hq) | hq <;> rw [Bool.not_eq_false', beq_iff_eq] at hq
            · exact absurd hq u1
            · exact absurd hq u2
            · exact absurd hq u3
end
end Jk
end Go.Proofs.YtdclhepjoifpiaaGreatDoor
