/- The laws DatesRead and DatesBack, walked. -/
import Derived.Test.YtgmlbcdakblpiaaDoorEf
namespace Go.Proofs.YtgmlbcdakblpiaaDoor
open Go.RowKit
namespace Da

theorem as_txt (s : ByteArray) : s = txt s.data.toList := by cases s; rfl
theorem as_len (s : ByteArray) : s.data.toList.length = s.size := by cases s; rfl
theorem ofD_le (l : List UInt8) : ofD l ≤ 4 := by
  unfold ofD
  split
  · unfold kd kd4
    split
    · omega
    · split
      · omega
      · split
        · omega
        · split <;> omega
  · omega
set_option maxHeartbeats 4000000 in
set_option maxRecDepth 100000 in
theorem readL_any (s : ByteArray) (w : World) : Calls Tryd.prog 3 #[.string s] w fun e w' => e = .returned (.bool true) ∧ Below w.heap.size w w' := by
  have HL := Lib.hid lives_any
  have HB0 := Lib.hid (Below.refl w.heap.size w)
  by_cases h1 : s.size ≤ 500
  · obtain ⟨l, hl⟩ : ∃ l, l = s.data.toList := ⟨_, rfl⟩
    have hs : s = txt l := by rw [hl]; exact as_txt s
    have la : l.length ≤ 500 := by rw [hl, as_len]; exact h1
    have lu := rd_len l
    obtain ⟨U, hU⟩ : ∃ U, U = txt (rdD l).1 := ⟨_, rfl⟩
    obtain ⟨c, hc⟩ : ∃ c, c = (rdD l).2 := ⟨_, rfl⟩
    obtain ⟨x, hx⟩ : ∃ x : Int, x = (ofD l : Nat) := ⟨_, rfl⟩
    obtain ⟨y, hy⟩ : ∃ x : Int, x = (ofD (rdD l).1 : Nat) := ⟨_, rfl⟩
    obtain ⟨z, hz⟩ : ∃ x : Int, x = (en l : Nat) := ⟨_, rfl⟩
    have x9 : 0 ≤ x ∧ x ≤ 4 := by have := ofD_le l; omega
    have y9 : 0 ≤ y ∧ y ≤ 4 := by have := ofD_le (rdD l).1; omega
    obtain ⟨x0, x9⟩ := x9
    obtain ⟨y0, y9⟩ := y9
    have C1 := Lib.hid (fun w => Read_is (l := l) w hs (by omega))
    have C2 := Lib.hid (fun w => rRead_is (l := l) w hs (by omega))
    rw [← hU, ← hc] at C1 C2
    have C3 := Lib.hid (fun w => Of_is w hs (by omega) hx)
    have C4 := Lib.hid (fun w => rOf_is w hs (by omega) hx)
    have C5 := Lib.hid (fun w => Of_is w hU (by omega) hy)
    have C6 := Lib.hid (fun w => rOf_is w hU (by omega) hy)
    have C7 := Lib.hid (fun w => Long_is w hs (by omega) hz)
    have C8 := Lib.hid (fun w => rLong_is w hs (by omega) hz)
    clear hl hs la lu hU hc hx hy hz
    go_enter Tryd.func3, Tryd.ntmps3
    go_wp2_with fail
    refine (C1.out _).mono ?_
    rintro e w1 ⟨rfl, hb⟩
    have HB1 := Lib.hid (below_tr HB0.out hb)
    clear hb
    go_wp2_with fail
    refine (C2.out _).mono ?_
    rintro e w2 ⟨rfl, hb⟩
    have HB2 := Lib.hid (below_tr HB1.out hb)
    clear hb
    go_wp2_with fail
    refine (C3.out _).mono ?_
    rintro e w3 ⟨rfl, hb⟩
    have HB3 := Lib.hid (below_tr HB2.out hb)
    clear hb
    go_wp2_with fail
    refine (C4.out _).mono ?_
    rintro e w4 ⟨rfl, hb⟩
    have HB4 := Lib.hid (below_tr HB3.out hb)
    clear hb
    go_wp2_with fail
    refine (C5.out _).mono ?_
    rintro e w5 ⟨rfl, hb⟩
    have HB5 := Lib.hid (below_tr HB4.out hb)
    clear hb
    go_wp2_with fail
    refine (C6.out _).mono ?_
    rintro e w6 ⟨rfl, hb⟩
    have HB6 := Lib.hid (below_tr HB5.out hb)
    clear hb
    go_wp2_with fail
    refine (C7.out _).mono ?_
    rintro e w7 ⟨rfl, hb⟩
    have HB7 := Lib.hid (below_tr HB6.out hb)
    clear hb
    go_wp2_with fail
    refine (C8.out _).mono ?_
    rintro e w8 ⟨rfl, hb⟩
    have HB8 := Lib.hid (below_tr HB7.out hb)
    clear hb
    go_wp2_with fail
    refine (HL.out _).mono ?_
    rintro e w9 ⟨rfl, hb⟩
    have HB9 := Lib.hid (below_tr HB8.out hb)
    clear hb
    go_wp2_with fail
    go_ret
    exact ⟨rfl, HB9.out⟩
  · go_enter Tryd.func3, Tryd.ntmps3
    go_wp2_with fail
    refine (HL.out _).mono ?_
    rintro e w1 ⟨rfl, hb⟩
    have HB1 := Lib.hid (below_tr HB0.out hb)
    clear hb
    go_wp2_with fail
    go_ret
    exact ⟨rfl, HB1.out⟩
theorem ofD_self {l : List UInt8} (h : (rdD l).2 = 0) : ofD (rdD l).1 ≠ 0 := by
  obtain ⟨a, b⟩ := rd_rd h
  rw [ofD, a, if_pos ⟨rfl, rfl⟩]; exact b
theorem ofD_iff {l : List UInt8} (h : (rdD l).2 = 0) : ofD l ≠ 0 ↔ l = (rdD l).1 := by
  constructor
  · intro g
    apply Decidable.byContradiction
    intro n
    rw [ofD, if_neg (fun q => n q.2.symm)] at g
    exact g rfl
  · intro g
    rw [ofD, if_pos ⟨h, g.symm⟩]
    exact (rd_code.1 (by rw [h]; decide)).2
set_option maxHeartbeats 8000000 in
set_option maxRecDepth 100000 in
theorem backL_any (s : ByteArray) (w : World) : Calls Tryd.prog 6 #[.string s] w fun e w' => e = .returned (.bool true) ∧ Below w.heap.size w w' := by
  have HL := Lib.hid lives_any
  have HB0 := Lib.hid (Below.refl w.heap.size w)
  by_cases h1 : s.size ≤ 60
  · obtain ⟨l, hl⟩ : ∃ l, l = s.data.toList := ⟨_, rfl⟩
    have hs : s = txt l := by rw [hl]; exact as_txt s
    have la : l.length ≤ 60 := by rw [hl, as_len]; exact h1
    have zs : s.size = l.length := by rw [hs, txt_size]
    have lu := rd_len l
    have hen := en_le l
    obtain ⟨U, hU⟩ : ∃ U, U = txt (rdD l).1 := ⟨_, rfl⟩
    obtain ⟨c, hc⟩ : ∃ c, c = (rdD l).2 := ⟨_, rfl⟩
    obtain ⟨x, hx⟩ : ∃ x : Int, x = (ofD l : Nat) := ⟨_, rfl⟩
    obtain ⟨y, hy⟩ : ∃ x : Int, x = (ofD (rdD l).1 : Nat) := ⟨_, rfl⟩
    obtain ⟨e, he⟩ : ∃ e, e = en l := ⟨_, rfl⟩
    have C1 := Lib.hid (fun w => Read_is (l := l) w hs (by omega))
    rw [← hU, ← hc] at C1
    have C2 := Lib.hid (fun (h : c = 0) w => lis_is (l := (rdD l).1) (u := (rdD l).1) w hU hU (by omega) (rd_rd (by rw [← hc]; exact h)).1)
    have C3 := Lib.hid (fun w => Of_is w hU (by omega) hy)
    have C4 := Lib.hid (fun w => Of_is w hs (by omega) hx)
    have C5 := Lib.hid (fun w => Long_is (k := (e : Int)) w hs (by omega) (by rw [he]))
    have CP := Lib.hid (fun (i : Nat) w => Read_is (l := l.take i) (s := s.extract 0 i) w (by rw [hs, txt_take]) (by rw [List.length_take]; omega))
    have heq := iseq_txt hs hU
    have hez : e ≤ s.size := by omega
    have Y0 := Lib.hid (fun (h : c = 0) => show (y == 0) = false by have := ofD_self (l := l) (by rw [← hc]; exact h); rw [hy]; simpa using this)
    have X0 := Lib.hid (fun (h : c = 0) => show (x != 0) = decide (l = (rdD l).1) by
      have := ofD_iff (l := l) (by rw [← hc]; exact h)
      rw [hx]
      by_cases g : l = (rdD l).1
      · rw [decide_eq_true g]; simpa using this.2 g
      · rw [decide_eq_false g]; simpa using fun q => g (this.1 q))
    have E0 := Lib.hid (fun (h : c = 0) => show e = s.size by have := (rd_ok (l := l) (by rw [← hc]; exact h)).2.2.2; omega)
    have CC := Lib.hid (show c ≠ 3 ↔ e = s.size ∧ 0 < e by rw [hc, rd_code, kd_en, he, zs])
    have BEG := Lib.hid (fun (h : 0 < e) => show (rdD (l.take e)).2 ≠ 3 by rw [he] at h ⊢; exact begin_is h)
    have NOB := Lib.hid (fun (i : Nat) (h : e < i) (hi : i ≤ s.size) => show (rdD (l.take i)).2 = 3 by rw [he] at h; exact begin_no h (by omega))
    clear hl hs la lu hU hc hx hy he zs hen
    -- what is behind the first question
    have REST : ∀ (w1 : World), Below w.heap.size w w1 → True := fun _ _ => trivial
    clear REST
    go_enter Tryd.func6, Tryd.ntmps6
    go_wp2_with fail
    refine (C1.out _).mono ?_
    rintro e1 w1 ⟨rfl, hb⟩
    have HB1 := Lib.hid (below_tr HB0.out hb)
    clear hb C1
    go_upto_region 4 with fail
    go_cut [4, 46] (fun a b wx => a = .int .i64 c ∧ b = .bool false ∧ Below w.heap.size w wx)
    case first =>
      by_cases h0 : c = 0
      · have C2x := Lib.hid (C2.out h0)
        have y0 := Y0.out h0
        have x0 := X0.out h0
        have ee := E0.out h0
        subst h0
        obtain ⟨q, hq⟩ : ∃ q, q = decide (l = (rdD l).1) := ⟨_, rfl⟩
        rw [← hq] at x0 heq
        clear hq C2 Y0 X0 E0 CC BEG NOB CP
        have ee2 : (e : Int) = (s.size : Int) := by omega
        subst ee
        cases q
        all_goals
          go_wp2_with fail
          refine (C2x.out _).mono ?_
          rintro e2 w2 ⟨rfl, hb⟩
          have HB2 := Lib.hid (below_tr HB1.out hb)
          clear hb
          go_wp2_with fail
          refine (C3.out _).mono ?_
          rintro e3 w3 ⟨rfl, hb⟩
          have HB3 := Lib.hid (below_tr HB2.out hb)
          clear hb
          go_wp2_with fail
          refine (C4.out _).mono ?_
          rintro e4 w4 ⟨rfl, hb⟩
          have HB4 := Lib.hid (below_tr HB3.out hb)
          clear hb
          go_wp2_with fail
          refine (C5.out _).mono ?_
          rintro e5 w5 ⟨rfl, hb⟩
          have HB5 := Lib.hid (below_tr HB4.out hb)
          clear hb
          go_wp2_with fail
          go_meet
          exact ⟨rfl, rfl, HB5.out⟩
      · have h0' : (c == 0) = false := by simpa using h0
        clear h0 C2 Y0 X0 E0 CC BEG NOB CP
        go_wp2_with fail
        go_meet
        exact ⟨rfl, rfl, HB1.out⟩
    case rest =>
      obtain ⟨rfl, rfl, hb⟩ := hcut
      have HB6 := Lib.hid hb
      clear hb C2 C3 C4 Y0 X0 E0 heq
      go_wp2_with fail
      refine (C5.out _).mono ?_
      rintro e7 w7 ⟨rfl, hb⟩
      have HB7 := Lib.hid (below_tr HB6.out hb)
      clear hb C5
      go_upto_region 7 with fail
      go_cut [5, 69] (fun a b wx => a = .int .i64 e ∧ b = .bool false ∧ w7 = wx)
      case first =>
        clear BEG NOB CP HL
        by_cases g : e = s.size ∧ 0 < e
        · have c3 : (c == 3) = false := by simpa using CC.out.2 g
          obtain ⟨rfl, g2⟩ := g
          clear CC
          go_wp2_with fail
          go_meet
          exact ⟨rfl, rfl, rfl⟩
        · have c3 : c = 3 := Decidable.byContradiction fun q => g (CC.out.1 q)
          subst c3
          clear CC
          by_cases g1 : e = s.size
          · have g2 : ¬ 0 < e := fun q => g ⟨g1, q⟩
            obtain rfl : e = 0 := by omega
            have hs0 : s.size = 0 := g1.symm
            clear g g1 g2 hez
            go_wp2_with fail
            go_meet
            exact ⟨rfl, rfl, rfl⟩
          · have g1' : ((e : Int) == (s.size : Int)) = false := by simp; omega
            clear g
            go_wp2_with fail
            go_meet
            exact ⟨rfl, by simp; omega, rfl⟩
      case rest =>
        obtain ⟨rfl, rfl, rfl⟩ := hcut
        clear CC
        go_wp2_with fail
        go_loopw [6, 7, 8] (fun a _ _ wr => ∃ i : Nat, 1 ≤ i ∧ i ≤ s.size + 1 ∧ a = .int .i64 i ∧ Below w.heap.size w wr) (fun a _ _ _ => s.size + 1 - (intOf a).toNat)
        case atStart => exact ⟨1, Nat.le_refl _, by omega, rfl, HB7.out⟩
        case round =>
          obtain ⟨i, hi1, hi, rfl, hbw⟩ := hrel
          have HBR := Lib.hid hbw
          clear hbw
          by_cases hlt : i ≤ s.size
          · have C1 := Lib.hid (CP.out i)
            obtain ⟨D, hD⟩ : ∃ D, D = txt (rdD (l.take i)).1 := ⟨_, rfl⟩
            obtain ⟨d, hd⟩ : ∃ D, D = (rdD (l.take i)).2 := ⟨_, rfl⟩
            rw [← hD, ← hd] at C1
            have OK := Lib.hid (show i < e ∨ i = e ∧ (d == 3) = false ∨ e < i ∧ d = 3 by
              rcases Nat.lt_trichotomy i e with g | g | g
              · exact .inl g
              · refine .inr (.inl ⟨g, ?_⟩)
                have := BEG.out (by omega)
                rw [← g, ← hd] at this
                simpa using this
              · exact .inr (.inr ⟨g, by rw [hd]; exact NOB.out i g hlt⟩))
            clear hD hd
            go_wp2_with fail
            refine (C1.out _).mono ?_
            rintro e8 w8 ⟨rfl, hb⟩
            have HB8 := Lib.hid (below_tr HBR.out hb)
            clear hb C1
            rcases OK.out with g | ⟨rfl, g⟩ | ⟨g, rfl⟩
            · have g1 : ((i : Int) == (e : Int)) = false := by simp; omega
              clear OK
              go_wp2_with fail
              go_roundw
              case rel => exact ⟨i + 1, by omega, by omega, by go_num, HB8.out⟩
              case measure => simp [intOf]; omega
            · clear OK
              have g2 : (d != 3) = true := by simpa using g
              go_wp2_with fail
              go_roundw
              case rel => exact ⟨i + 1, by omega, by omega, by go_num, HB8.out⟩
              case measure => simp [intOf]; omega
            · have g1 : ((i : Int) == (e : Int)) = false := by simp; omega
              clear OK
              go_wp2_with fail
              go_roundw
              case rel => exact ⟨i + 1, by omega, by omega, by go_num, HB8.out⟩
              case measure => simp [intOf]; omega
          · go_wp2_with fail
            refine (HL.out _).mono ?_
            rintro e9 w9 ⟨rfl, hb⟩
            have HB9 := Lib.hid (below_tr HBR.out hb)
            clear hb
            go_wp2_with fail
            go_ret
            exact ⟨rfl, HB9.out⟩
  · go_enter Tryd.func6, Tryd.ntmps6
    go_wp2_with fail
    refine (HL.out _).mono ?_
    rintro e w1 ⟨rfl, hb⟩
    have HB1 := Lib.hid (below_tr HB0.out hb)
    clear hb
    go_wp2_with fail
    go_ret
    exact ⟨rfl, HB1.out⟩
end Da
end Go.Proofs.YtgmlbcdakblpiaaDoor
