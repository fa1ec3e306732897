/- The law of edges, walked. -/
import Derived.Test.YtonfaphllpjmpaaDoorInRb
namespace Go.Proofs.YtonfaphllpjmpaaDoor
open Go.RowKit

namespace In
/-- What the law of edges reads. -/
def ex (o k i : Nat) : List UInt8 :=
  if i = 0 then 48 :: 120 :: (dN 16 o ++ List.replicate k 48) else if i = 1 then 48 :: 111 :: (dN 8 o ++ List.replicate k 48) else if i = 2 then 48 :: 98 :: (dN 2 o ++ List.replicate k 48)
  else if i = 3 then 48 :: 120 :: (List.replicate 21 48 ++ dN 16 o) else if i = 4 then dN 10 o ++ List.replicate k 48 else if i = 5 then 43 :: (dN 10 o ++ List.replicate k 48) else 45 :: (dN 10 o ++ List.replicate k 48)
theorem ex_all {o k : Nat} (h1 : 9223372036854775808 ≤ o) (h2 : o < 18446744073709551616) (hk : k ≤ 20) (N : Nat) (hN : N = 6 ∨ N = 7 ∧ 9223372036854775808 < o) (i : Nat) (hi : i < N) : rd (ex o k i) = .big ∧ (ex o k i).length ≤ 200 := by
  have L2 := dN_64 (b := 2) (by omega) h2
  have L8 := dN_64 (b := 8) (by omega) h2
  have L10 := dN_64 (b := 10) (by omega) h2
  have L16 := dN_64 (b := 16) (by omega) h2
  by_cases e0 : i = 0
  · subst e0; exact ⟨rd_zx h1, by show (48 :: 120 :: (dN 16 o ++ List.replicate k 48)).length ≤ 200; simp; omega⟩
  by_cases e1 : i = 1
  · subst e1; exact ⟨rd_zo h1, by show (48 :: 111 :: (dN 8 o ++ List.replicate k 48)).length ≤ 200; simp; omega⟩
  by_cases e2 : i = 2
  · subst e2; exact ⟨rd_zb h1, by show (48 :: 98 :: (dN 2 o ++ List.replicate k 48)).length ≤ 200; simp; omega⟩
  by_cases e3 : i = 3
  · subst e3; exact ⟨rd_0x h1, by show (48 :: 120 :: (List.replicate 21 48 ++ dN 16 o)).length ≤ 200; simp; omega⟩
  by_cases e4 : i = 4
  · subst e4; exact ⟨rd_zd h1, by show (dN 10 o ++ List.replicate k 48).length ≤ 200; simp; omega⟩
  by_cases e5 : i = 5
  · subst e5; exact ⟨rd_zp h1, by show (43 :: (dN 10 o ++ List.replicate k 48)).length ≤ 200; simp; omega⟩
  have h3 : 9223372036854775808 < o := by rcases hN with rfl | ⟨_, h⟩ <;> omega
  have e : ex o k i = 45 :: (dN 10 o ++ List.replicate k 48) := by rw [ex, if_neg e0, if_neg e1, if_neg e2, if_neg e3, if_neg e4, if_neg e5]
  rw [e]
  exact ⟨rd_zm h3, by simp; omega⟩
end In
theorem or63 (n : Nat) (hn : n < 18446744073709551616) : ∃ o : Nat, bits .or .u64 (n : Int) 9223372036854775808 = (o : Int) ∧ 9223372036854775808 ≤ o ∧ o < 18446744073709551616 := by
  refine ⟨n ||| 9223372036854775808, ?_, Nat.right_le_or, ?_⟩
  · exact bits_or_u64_nat n 9223372036854775808 hn (by omega)
  · exact Nat.or_lt_two_pow (n := 64) (by omega) (by omega)
theorem one_one (a : ByteArray) : ∀ u ∈ ([.string a] : List Value), u.oneCell' = true := by
  intro u hu
  simp at hu
  rcases hu with rfl
  rfl
set_option maxHeartbeats 16000000 in
set_option maxRecDepth 100000 in
theorem edge_any (n : Nat) (hn : n < 18446744073709551616) (c : Int) (c0 : 0 ≤ c) (c1 : c ≤ 255) (w : World) (hT : Tab w) (hT10 : Tab10 w) (hD : Deb w) :
    Calls Tryd.prog 6 #[.int .u64 n, .int .u8 c] w fun e w' => e = .returned (.bool true) ∧ Below w.heap.size w w' := by
  obtain ⟨k, hk⟩ : ∃ k : Nat, c.tmod 20 = k := ⟨(c % 20).toNat, by rw [Int.tmod_eq_emod_of_nonneg c0]; omega⟩
  have hk20 : k ≤ 20 := by rw [Int.tmod_eq_emod_of_nonneg c0] at hk; omega
  obtain ⟨o, ho, o1, o2⟩ := or63 n hn
  have L2 := In.dN_64 (b := 2) (by omega) o2
  have L8 := In.dN_64 (b := 8) (by omega) o2
  have L10 := In.dN_64 (b := 10) (by omega) o2
  have L16 := In.dN_64 (b := 16) (by omega) o2
  obtain ⟨Z, hZ⟩ : ∃ x, x = txt (List.replicate k 48) := ⟨_, rfl⟩
  obtain ⟨D16, hD16⟩ : ∃ x, x = txt (In.dN 16 o) := ⟨_, rfl⟩
  obtain ⟨D8, hD8⟩ : ∃ x, x = txt (In.dN 8 o) := ⟨_, rfl⟩
  obtain ⟨D2, hD2⟩ : ∃ x, x = txt (In.dN 2 o) := ⟨_, rfl⟩
  obtain ⟨D10, hD10⟩ : ∃ x, x = txt (In.dN 10 o) := ⟨_, rfl⟩
  obtain ⟨p0, hp0⟩ : ∃ x, ByteArray.mk #[48, 120] ++ D16 = x := ⟨_, rfl⟩
  obtain ⟨T0, hT0⟩ : ∃ x, p0 ++ Z = x := ⟨_, rfl⟩
  obtain ⟨p1, hp1⟩ : ∃ x, ByteArray.mk #[48, 111] ++ D8 = x := ⟨_, rfl⟩
  obtain ⟨T1, hT1⟩ : ∃ x, p1 ++ Z = x := ⟨_, rfl⟩
  obtain ⟨p2, hp2⟩ : ∃ x, ByteArray.mk #[48, 98] ++ D2 = x := ⟨_, rfl⟩
  obtain ⟨T2, hT2⟩ : ∃ x, p2 ++ Z = x := ⟨_, rfl⟩
  obtain ⟨T3, hT3⟩ : ∃ x, ByteArray.mk #[48, 120, 48, 48, 48, 48, 48, 48, 48, 48, 48, 48, 48, 48, 48, 48, 48, 48, 48, 48, 48, 48, 48] ++ D16 = x := ⟨_, rfl⟩
  obtain ⟨T4, hT4⟩ : ∃ x, D10 ++ Z = x := ⟨_, rfl⟩
  obtain ⟨p5, hp5⟩ : ∃ x, ByteArray.mk #[43] ++ D10 = x := ⟨_, rfl⟩
  obtain ⟨T5, hT5⟩ : ∃ x, p5 ++ Z = x := ⟨_, rfl⟩
  obtain ⟨p6, hp6⟩ : ∃ x, ByteArray.mk #[45] ++ D10 = x := ⟨_, rfl⟩
  obtain ⟨T6, hT6⟩ : ∃ x, p6 ++ Z = x := ⟨_, rfl⟩
  have t0 : T0 = txt (In.ex o k 0) := by rw [← hT0, ← hp0, hD16, hZ]; show txt [48, 120] ++ txt _ ++ txt _ = _; rw [txt_app, txt_app]; rfl
  have t1 : T1 = txt (In.ex o k 1) := by rw [← hT1, ← hp1, hD8, hZ]; show txt [48, 111] ++ txt _ ++ txt _ = _; rw [txt_app, txt_app]; rfl
  have t2 : T2 = txt (In.ex o k 2) := by rw [← hT2, ← hp2, hD2, hZ]; show txt [48, 98] ++ txt _ ++ txt _ = _; rw [txt_app, txt_app]; rfl
  have t3 : T3 = txt (In.ex o k 3) := by rw [← hT3, hD16]; show txt (48 :: 120 :: List.replicate 21 48) ++ txt _ = _; rw [txt_app]; rfl
  have t4 : T4 = txt (In.ex o k 4) := by rw [← hT4, hD10, hZ, txt_app]; rfl
  have t5 : T5 = txt (In.ex o k 5) := by rw [← hT5, ← hp5, hD10, hZ]; show txt [43] ++ txt _ ++ txt _ = _; rw [txt_app, txt_app]; rfl
  have t6 : T6 = txt (In.ex o k 6) := by rw [← hT6, ← hp6, hD10, hZ]; show txt [45] ++ txt _ ++ txt _ = _; rw [txt_app, txt_app]; rfl
  have zZ : Z.size ≤ 20 := by rw [hZ, txt_size, List.length_replicate]; exact hk20
  have zD16 : D16.size ≤ 64 := by rw [hD16, txt_size]; exact L16
  have zD8 : D8.size ≤ 64 := by rw [hD8, txt_size]; exact L8
  have zD2 : D2.size ≤ 64 := by rw [hD2, txt_size]; exact L2
  have zD10 : D10.size ≤ 64 := by rw [hD10, txt_size]; exact L10
  have zp0 : p0.size ≤ 100 := by rw [← hp0, ByteArray.size_append]; show 2 + _ ≤ _; omega
  have zp1 : p1.size ≤ 100 := by rw [← hp1, ByteArray.size_append]; show 2 + _ ≤ _; omega
  have zp2 : p2.size ≤ 100 := by rw [← hp2, ByteArray.size_append]; show 2 + _ ≤ _; omega
  have zp5 : p5.size ≤ 100 := by rw [← hp5, ByteArray.size_append]; show 1 + _ ≤ _; omega
  have zp6 : p6.size ≤ 100 := by rw [← hp6, ByteArray.size_append]; show 1 + _ ≤ _; omega
  have hze : Z.toList.isEmpty = decide (k = 0) := by
    rw [iempty_txt hZ]
    cases k <;> simp
  have F16 := Lib.hid (fun w D => fuint_any 16 4 (by simp [Rx]) o o2 16 rfl w D)
  have F8 := Lib.hid (fun w D => fuint_any 8 3 (by simp [Rx]) o o2 8 rfl w D)
  have F2 := Lib.hid (fun w D => fuint_any 2 1 (by simp [Rx]) o o2 2 rfl w D)
  have F10 := Lib.hid (fun w h => fuint10_any o (by omega) o2 w h)
  rw [← hD16] at F16
  rw [← hD8] at F8
  rw [← hD2] at F2
  rw [← hD10] at F10
  have FR := Lib.hid (fun w => repeat_any k hk20 w)
  rw [← hZ] at FR
  have HY := Lib.hid (fun N (hN : N = 6 ∨ N = 7 ∧ 9223372036854775808 < o) i hi => In.ex_all o1 o2 hk20 N hN i hi)
  have I1 := Lib.hid (fun w h => is_lit (BA #[45, 57, 50, 50, 51, 51, 55, 50, 48, 51, 54, 56, 53, 52, 55, 55, 53, 56, 48, 56]) (BA #[45, 57, 50, 50, 51, 51, 55, 50, 48, 51, 54, 56, 53, 52, 55, 55, 53, 56, 48, 56]) rfl rfl (by simp) (by decide +kernel) w h)
  have I2 := Lib.hid (fun w h => is_lit (BA #[57, 50, 50, 51, 51, 55, 50, 48, 51, 54, 56, 53, 52, 55, 55, 53, 56, 48, 55]) (BA #[57, 50, 50, 51, 51, 55, 50, 48, 51, 54, 56, 53, 52, 55, 55, 53, 56, 48, 55]) rfl rfl (by simp) (by decide +kernel) w h)
  have I3 := Lib.hid (fun w h => is_lit (BA #[48, 120, 55, 102, 102, 102, 102, 102, 102, 102, 102, 102, 102, 102, 102, 102, 102, 102]) (BA #[57, 50, 50, 51, 51, 55, 50, 48, 51, 54, 56, 53, 52, 55, 55, 53, 56, 48, 55]) rfl rfl (by simp) (by decide +kernel) w h)
  have HX0 := Lib.hid t0
  have HX1 := Lib.hid t1
  have HX2 := Lib.hid t2
  have HX3 := Lib.hid t3
  have HX4 := Lib.hid t4
  have HX5 := Lib.hid t5
  have HX6 := Lib.hid t6
  have H1 := Lib.hid (And.intro hp0 (And.intro hT0 (And.intro hp1 (And.intro hT1 (And.intro hp2 (And.intro hT2 (And.intro hT3 (And.intro hT4 (And.intro hp5 hT5)))))))))
  have H2 := Lib.hid (And.intro hp6 hT6)
  have HT := Lib.hid hT
  have HT10 := Lib.hid hT10
  have HDb := Lib.hid hD
  have LV := Lib.hid lives_any
  have HB0 := Lib.hid (Below.refl w.heap.size w)
  have HO1 := Lib.hid o1
  have HZE := Lib.hid hze
  have n0 : (0 : Int) ≤ n := by omega
  have hnI : (n : Int) < 18446744073709551616 := by omega
  clear L2 L8 L10 L16 hZ hD16 hD8 hD2 hD10 hp0 hT0 hp1 hT1 hp2 hT2 hT3 hT4 hp5 hT5 hp6 hT6 t0 t1 t2 t3 t4 t5 t6 hT hT10 hD o1 o2 hn hze
  go_enter Tryd.func6, Tryd.ntmps6
  go_wp2_with fail
  refine (FR.out _).mono ?_
  rintro en w1 ⟨rfl, hb⟩
  have HB1 := Lib.hid (below_tr HB0.out hb)
  clear hb
  obtain ⟨g1, g2, g3, g4, g5, g6, g7, g8, g9, g10⟩ := H1.out
  go_wp2_with fail
  refine (F16.out _ (HDb.out.below HB1.out)).mono ?_
  rintro en w2 ⟨rfl, hb⟩
  have HB2 := Lib.hid (below_tr HB1.out hb)
  clear hb
  go_wp2_with fail
  refine (F8.out _ (HDb.out.below HB2.out)).mono ?_
  rintro en w3 ⟨rfl, hb⟩
  have HB3 := Lib.hid (below_tr HB2.out hb)
  clear hb
  go_wp2_with fail
  refine (F2.out _ (HDb.out.below HB3.out)).mono ?_
  rintro en w4 ⟨rfl, hb⟩
  have HB4 := Lib.hid (below_tr HB3.out hb)
  clear hb
  go_wp2_with fail
  refine (F16.out _ (HDb.out.below HB4.out)).mono ?_
  rintro en w5 ⟨rfl, hb⟩
  have HB5 := Lib.hid (below_tr HB4.out hb)
  clear hb
  go_wp2_with fail
  refine (F10.out _ (HT10.out.below HB5.out)).mono ?_
  rintro en w6 ⟨rfl, hb⟩
  have HB6 := Lib.hid (below_tr HB5.out hb)
  clear hb
  go_wp2_with fail
  refine (F10.out _ (HT10.out.below HB6.out)).mono ?_
  rintro en w7 ⟨rfl, hb⟩
  have HB7 := Lib.hid (below_tr HB6.out hb)
  clear hb
  clear ho hnI n0 c0 c1 hk
  go_upto_region 4 with fail
  clear g1 g2 g3 g4 g5 g6 g7 g8 g9 g10
  have HL2 := Lib.hid (show LS w (In.ex o k) w7.heap.size 6 (w7.alloc (.cells #[.string T0, .string T1, .string T2, .string T3, .string T4, .string T5] 9)) from
    ⟨HB7.out.alloc HB7.out.size _, by simp, fun i hi => by
      have : i = 0 ∨ i = 1 ∨ i = 2 ∨ i = 3 ∨ i = 4 ∨ i = 5 := by omega
      rcases this with rfl | rfl | rfl | rfl | rfl | rfl
      · rw [← HX0.out]; simp [go_sem]
      · rw [← HX1.out]; simp [go_sem]
      · rw [← HX2.out]; simp [go_sem]
      · rw [← HX3.out]; simp [go_sem]
      · rw [← HX4.out]; simp [go_sem]
      · rw [← HX5.out]; simp [go_sem]⟩)
  have HH := Lib.hid (show (w7.alloc (.cells #[.string T0, .string T1, .string T2, .string T3, .string T4, .string T5] 9)).heap[w7.heap.size]? = some (.cells #[.string T0, .string T1, .string T2, .string T3, .string T4, .string T5] 9 (0, 0)) by
    show (w7.heap.push _)[w7.heap.size]? = _
    simp)
  generalize hW7 : w7.alloc (.cells #[.string T0, .string T1, .string T2, .string T3, .string T4, .string T5] 9) = wl at HL2 HH
  generalize hg : w7.heap.size = g at HL2 HH
  have hg0 : w.heap.size ≤ g := by rw [← hg]; exact HB7.out.size
  have HBL := Lib.hid HL2.out.below
  clear hW7 hg HB1 HB2 HB3 HB4 HB5 HB6 HB7 HB0 H1 F16 F8 F2 FR
  go_upto_if 44 with fail
  go_cut [7] (fun x wx => ∃ (g N cap : Nat), x = .slice (some ⟨g, 0, none⟩) N cap ∧ LS w (In.ex o k) g N wx ∧ (N = 6 ∨ N = 7 ∧ 9223372036854775808 < o))
  case first =>
    by_cases hn0 : 9223372036854775808 < o
    · obtain ⟨g1, g2⟩ := H2.out
      have hnI2 : decide ((9223372036854775808 : Int) < o) = true := decide_eq_true (by omega)
      have HP := Lib.hid hn0
      clear hn0
      rw [hnI2]
      clear hnI2
      go_wp2_with fail
      refine (F10.out _ (HT10.out.below HBL.out)).mono ?_
      rintro en w20 ⟨rfl, hb⟩
      have HB20 := Lib.hid (below_tr HBL.out hb)
      have HH8 := Lib.hid ((hb.block g HL2.out.more).trans HH.out)
      clear hb
      obtain ⟨i9, hi9, hz0, hz1, hz2⟩ := info_parts (show (Tryd.prog.info? 9).map (fun i => (i.zero, i.size, i.bytes)) = some (some (.string ⟨#[]⟩), 1, 16) by kernel_rfl)
      have hown : w20.ownsRow w.heap.size 9 1 (.slice (some ⟨g, 0, none⟩) 6 6) 6 [.string T0, .string T1, .string T2, .string T3, .string T4, .string T5] :=
        ⟨rfl, .inr ⟨g, 6, #[.string T0, .string T1, .string T2, .string T3, .string T4, .string T5], rfl, hg0, HH8.out, by omega, by unfold maxLen; omega, rfl, rfl⟩⟩
      go_wp2_with (at_builtin; refine wpList_append_own _ rfl (.tmp 45) (.tmp 51) 33 rfl w.heap.size 9 i9 (.string ⟨#[]⟩) 1 16 Tryd.underlying33 hi9 hz0 hz1 hz2 rfl (by decide) _ 6 [.string T0, .string T1, .string T2, .string T3, .string T4, .string T5] rfl (hown.alloc _) ⟨w20.heap.size, 0, none⟩ 1 1 [.string T6] rfl rfl (cells_new _ _ _) (one_one _) (by unfold maxLen; omega) (by omega) (by have := HB20.out.size; simp; omega) ?_; intro v2 wz hown2 hg2 _)
      have hbz : Below w.heap.size w wz := (HB20.out.alloc HB20.out.size _).grown hg2 (by have := HB20.out.size; simp; omega) (fun k hk => by cases hk; exact hg0)
      have hown3 := hown2
      rcases hown3.2 with ⟨_, h0⟩ | ⟨g', cap', cur, rfl, hbg, hh, hle, _, _, _⟩
      · omega
      · have hlz : g' < wz.heap.size := by
          rcases Nat.lt_or_ge g' wz.heap.size with h | h
          · exact h
          · rw [Array.getElem?_eq_none h] at hh; cases hh
        have HLZ := Lib.hid (show LS w (In.ex o k) g' 7 wz from ⟨hbz, hlz, fun i hi => by
          have hc := hown2.cellAt i (by omega)
          rw [hc]
          have : i = 0 ∨ i = 1 ∨ i = 2 ∨ i = 3 ∨ i = 4 ∨ i = 5 ∨ i = 6 := by omega
          rcases this with rfl | rfl | rfl | rfl | rfl | rfl | rfl
          · rw [← HX0.out]; rfl
          · rw [← HX1.out]; rfl
          · rw [← HX2.out]; rfl
          · rw [← HX3.out]; rfl
          · rw [← HX4.out]; rfl
          · rw [← HX5.out]; rfl
          · rw [← HX6.out]; rfl⟩)
        clear hown hown2 hown3 hg2 hbz hh hlz hbg hle
        go_wp2_with fail
        go_meet
        exact ⟨g', 7, cap', rfl, HLZ.out, Or.inr ⟨rfl, HP.out⟩⟩
    · have hnI2 : decide ((9223372036854775808 : Int) < o) = false := decide_eq_false (by omega)
      clear hn0
      rw [hnI2]
      clear hnI2
      by_cases hk0 : k = 0
      · have hze := HZE.out
        rw [decide_eq_true hk0] at hze
        have HK := Lib.hid hk0
        clear hk0
        go_wp2_with fail
        refine (I1.out _ (HT.out.below HBL.out)).mono ?_
        rintro en w20 ⟨rfl, hb⟩
        have HL3 := Lib.hid (HL2.out.on hb)
        clear hb
        go_wp2_with fail
        go_meet
        exact ⟨g, 6, 6, rfl, HL3.out, Or.inl rfl⟩
      · have hze := HZE.out
        rw [decide_eq_false hk0] at hze
        clear hk0
        go_wp2_with fail
        go_meet
        exact ⟨g, 6, 6, rfl, HL2.out, Or.inl rfl⟩
  case rest =>
    obtain ⟨g, N, cap, rfl, hls, hN⟩ := hcut
    have HLS := Lib.hid hls
    have HNN := Lib.hid hN
    have hN4 : N ≤ 7 := by omega
    clear hls hN F10 I1 H2 HX0 HX1 HX2 HX3 HX4 HX5 HX6 HH HL2 HBL hg0
    go_wp2_with fail
    go_loopw [8] (fun x wr => ∃ i : Nat, i ≤ N ∧ x = .int .i64 i ∧ LS w (In.ex o k) g N wr) (fun x _ => N - (intOf x).toNat)
    case atStart => exact ⟨0, Nat.zero_le _, rfl, HLS.out⟩
    case round =>
      obtain ⟨i, hi, rfl, hls⟩ := hrel
      have HL0 := Lib.hid hls
      clear hls
      by_cases hlt : i < N
      · have y := HY.out N HNN.out i hlt
        obtain ⟨t, ht⟩ : ∃ t, t = txt (In.ex o k i) := ⟨_, rfl⟩
        have hc := HL0.out.cells i hlt
        rw [← ht] at hc
        have R0 := Lib.hid (fun w h => fl_lit t 8 (.inr rfl) ht (by omega) (by rw [y.1]; rfl) w h)
        clear y ht
        go_wp2_with fail
        refine (R0.out _ (HT.out.below HL0.out.below)).mono ?_
        rintro en w21 ⟨rfl, hb⟩
        have HL1 := Lib.hid (HL0.out.on hb)
        clear hb hc
        go_wp2_with fail
        go_roundw
        case rel => exact ⟨i + 1, by omega, by go_num, HL1.out⟩
        case measure => simp [intOf]; omega
      · obtain rfl : i = N := by omega
        go_wp2_with fail
        refine (I2.out _ (HT.out.below HL0.out.below)).mono ?_
        rintro en w21 ⟨rfl, hb⟩
        have HL1 := Lib.hid (HL0.out.on hb)
        clear hb
        go_wp2_with fail
        refine (I3.out _ (HT.out.below HL1.out.below)).mono ?_
        rintro en w22 ⟨rfl, hb⟩
        have HL2 := Lib.hid (HL1.out.on hb)
        clear hb
        go_wp2_with fail
        refine (LV.out _ (HT.out.below HL2.out.below)).mono ?_
        rintro en w23 ⟨rfl, hb⟩
        have HL3 := Lib.hid (HL2.out.on hb)
        clear hb
        go_wp2_with fail
        go_ret
        exact ⟨rfl, HL3.out.below⟩
end Go.Proofs.YtonfaphllpjmpaaDoor
