/- The document's words on normal forms and their order, walked. -/
import Derived.Test.YthjlnafmpcppfaaGreatDoorFo
namespace Go.Proofs.YthjlnafmpcppfaaGreatDoor
open Go.RowKit
namespace Fl

theorem ris_any {l : List UInt8} {s : ByteArray} {x : Bool} (w : World) (hs : s = txt l) (hl : l.length ≤ 1000000) (hx : x = flIs l) :
    Calls Tryz.prog 12 #[.string s] w fun e w' => e = .returned (.bool x) ∧ Below w.heap.size w w' := by
  have CN := Lib.hid (fun w => normal_any (l := l) w hs hl)
  obtain ⟨n, hn⟩ : ∃ n, n = norm l := ⟨_, rfl⟩
  obtain ⟨c1, h1⟩ : ∃ c, c = decide (l = INF) := ⟨_, rfl⟩
  obtain ⟨c2, h2⟩ : ∃ c, c = decide (l = 45 :: INF) := ⟨_, rfl⟩
  obtain ⟨c3, h3⟩ : ∃ c, c = decide (l = NAN) := ⟨_, rfl⟩
  rw [← hn] at CN
  have q1 := (II.iseq_l hs [105, 110, 102]).trans h1.symm
  have q2 := (II.iseq_l hs [45, 105, 110, 102]).trans h2.symm
  have q3 := (II.iseq_l hs [110, 97, 110]).trans h3.symm
  have hxx : x = (c1 || c2 || c3 || n) := by rw [hx, flIs, h1, h2, h3, hn]
  clear hs hl hx hn h1 h2 h3
  cases c1
  · cases c2
    · cases c3
      · have E := Lib.hid (show x = n by rw [hxx]; simp)
        clear hxx
        go_enter Tryz.func12, Tryz.ntmps12
        go_wp2_with fail
        refine (CN.out _).mono ?_
        rintro e w1 ⟨rfl, hb⟩
        have HB := Lib.hid hb
        clear hb
        go_wp2_with fail
        go_ret
        exact ⟨ret_bool E.out.symm, HB.out⟩
      · have E := Lib.hid (show x = true by rw [hxx]; simp)
        clear hxx
        go_enter Tryz.func12, Tryz.ntmps12
        go_wp2_with fail
        go_ret
        exact ⟨ret_bool E.out.symm, Below.refl _ _⟩
    · have E := Lib.hid (show x = true by rw [hxx]; simp)
      clear hxx
      go_enter Tryz.func12, Tryz.ntmps12
      go_wp2_with fail
      go_ret
      exact ⟨ret_bool E.out.symm, Below.refl _ _⟩
  · have E := Lib.hid (show x = true by rw [hxx]; simp)
    clear hxx
    go_enter Tryz.func12, Tryz.ntmps12
    go_wp2_with fail
    go_ret
    exact ⟨ret_bool E.out.symm, Below.refl _ _⟩
set_option maxHeartbeats 8000000 in
set_option maxRecDepth 100000 in
theorem rless_any {a b : List UInt8} {s t : ByteArray} {x : Bool} (w : World) (hs : s = txt a) (ht : t = txt b) (ha : a.length ≤ 1000000) (hb : b.length ≤ 1000000) (hx : x = flLess a b) :
    Calls Tryz.prog 14 #[.string s, .string t] w fun e w' => e = .returned (.bool x) ∧ Below w.heap.size w w' := by
  obtain ⟨p, hp⟩ : ∃ p, p = flIs a := ⟨_, rfl⟩
  obtain ⟨q, hq⟩ : ∃ q, q = flIs b := ⟨_, rfl⟩
  obtain ⟨d, hd⟩ : ∃ d, d = less a b := ⟨_, rfl⟩
  have CA := Lib.hid (fun w => ris_any w hs ha hp)
  have CB := Lib.hid (fun w => ris_any w ht hb hq)
  have CD := Lib.hid (fun w => less_any (a := a) (b := b) w hs ht ha hb)
  rw [← hd] at CD
  obtain ⟨c0, h0⟩ : ∃ c, c = decide (a = b) := ⟨_, rfl⟩
  obtain ⟨c1, h1⟩ : ∃ c, c = decide (a = NAN) := ⟨_, rfl⟩
  obtain ⟨c2, h2⟩ : ∃ c, c = decide (b = 45 :: INF) := ⟨_, rfl⟩
  obtain ⟨c3, h3⟩ : ∃ c, c = decide (a = INF) := ⟨_, rfl⟩
  obtain ⟨c4, h4⟩ : ∃ c, c = decide (b = NAN) := ⟨_, rfl⟩
  obtain ⟨c5, h5⟩ : ∃ c, c = decide (a = 45 :: INF) := ⟨_, rfl⟩
  obtain ⟨c6, h6⟩ : ∃ c, c = decide (b = INF) := ⟨_, rfl⟩
  have q0 := (II.iseq_txt hs ht).trans h0.symm
  have q1 := (II.iseq_l hs [110, 97, 110]).trans h1.symm
  have q2 := (II.iseq_l ht [45, 105, 110, 102]).trans h2.symm
  have q3 := (II.iseq_l hs [105, 110, 102]).trans h3.symm
  have q4 := (II.iseq_l ht [110, 97, 110]).trans h4.symm
  have q5 := (II.iseq_l hs [45, 105, 110, 102]).trans h5.symm
  have q6 := (II.iseq_l ht [105, 110, 102]).trans h6.symm
  obtain ⟨off, hoff⟩ : ∃ off, off = (!p || !q || c0 || c1 || c2 || (c3 && !c4)) := ⟨_, rfl⟩
  have hxx : x = if off = true then false else if (c5 || c4 || c6) = true then true else d := by
    rw [hx, ← docLess_is, docLess, hoff, hp, hq, h0, h1, h2, h3, h4, h5, h6, hd]
    simp only [Bool.or_eq_true, Bool.and_eq_true, Bool.not_eq_true', decide_eq_true_eq, decide_eq_false_iff_not, ne_eq, or_assoc]
  have HX := Lib.hid hxx
  clear hs ht ha hb hx hp hq hd h0 h1 h2 h3 h4 h5 h6 hxx
  go_enter Tryz.func14, Tryz.ntmps14
  go_upto_region 1 with fail
  go_cut [33] (fun v wx => v = .bool off ∧ Below w.heap.size w wx)
  case first =>
    subst hoff
    clear q5 q6 CD HX
    cases p
    · clear q0 q1 q2 q3 q4
      go_wp2_with fail
      refine (CA.out _).mono ?_
      rintro e w1 ⟨rfl, hb⟩
      have HB := Lib.hid hb
      clear hb
      go_wp2_with fail
      go_meet
      exact ⟨rfl, HB.out⟩
    · cases q
      · clear q0 q1 q2 q3 q4
        go_wp2_with fail
        refine (CA.out _).mono ?_
        rintro e w1 ⟨rfl, hb⟩
        have HB := Lib.hid hb
        clear hb
        go_wp2_with fail
        refine (CB.out _).mono ?_
        rintro e w2 ⟨rfl, hb⟩
        have HB2 := Lib.hid (II.below_tr HB.out hb)
        clear hb
        go_wp2_with fail
        go_meet
        exact ⟨rfl, HB2.out⟩
      · cases c0 <;> cases c1 <;> cases c2 <;> cases c3 <;> cases c4
        all_goals
          go_wp2_with fail
          refine (CA.out _).mono ?_
          rintro e w1 ⟨rfl, hb⟩
          have HB := Lib.hid hb
          clear hb
          go_wp2_with fail
          refine (CB.out _).mono ?_
          rintro e w2 ⟨rfl, hb⟩
          have HB2 := Lib.hid (II.below_tr HB.out hb)
          clear hb
          go_wp2_with fail
          go_meet
          exact ⟨rfl, HB2.out⟩
  case rest =>
    obtain ⟨rfl, hb⟩ := hcut
    have HB := Lib.hid hb
    clear hb hoff q0 q1 q2 q3
    cases off
    · cases c5
      · cases c4
        · cases c6
          · have E := Lib.hid (show x = d from HX.out)
            go_wp2_with fail
            refine (CD.out _).mono ?_
            rintro e w1 ⟨rfl, hb⟩
            have HB2 := Lib.hid (II.below_tr HB.out hb)
            clear hb
            go_wp2_with fail
            go_ret
            exact ⟨ret_bool E.out.symm, HB2.out⟩
          · have E := Lib.hid (show x = true from HX.out)
            go_wp2_with fail
            go_ret
            exact ⟨ret_bool E.out.symm, HB.out⟩
        · have E := Lib.hid (show x = true by rw [HX.out]; simp)
          go_wp2_with fail
          go_ret
          exact ⟨ret_bool E.out.symm, HB.out⟩
      · have E := Lib.hid (show x = true by rw [HX.out]; simp)
        go_wp2_with fail
        go_ret
        exact ⟨ret_bool E.out.symm, HB.out⟩
    · have E := Lib.hid (show x = false from HX.out)
      go_wp2_with fail
      go_ret
      exact ⟨ret_bool E.out.symm, HB.out⟩
end Fl
end Go.Proofs.YthjlnafmpcppfaaGreatDoor
