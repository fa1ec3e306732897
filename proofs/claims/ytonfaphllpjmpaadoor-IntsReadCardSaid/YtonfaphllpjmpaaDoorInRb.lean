/- The law of radixes, walked. -/
import Derived.Test.YtonfaphllpjmpaaDoorInRa
import Derived.Test.YtonfaphllpjmpaaDoorInY
import Derived.OwnWalk
import Derived.Laws.AppendOwn
namespace Go.Proofs.YtonfaphllpjmpaaDoor
open Go.RowKit

theorem one_two (a b : ByteArray) : ∀ u ∈ ([.string a, .string b] : List Value), u.oneCell' = true := by
  intro u hu
  simp at hu
  rcases hu with rfl | rfl <;> rfl
theorem one_five (a b c d e : ByteArray) : ∀ u ∈ ([.string a, .string b, .string c, .string d, .string e] : List Value), u.oneCell' = true := by
  intro u hu
  simp at hu
  rcases hu with rfl | rfl | rfl | rfl | rfl <;> rfl
set_option maxHeartbeats 16000000 in
set_option maxRecDepth 100000 in
theorem radix_any {v : Int} (hv : In.fits v) (a : Nat) (ha : a < 18446744073709551616) (w : World) (hT : Tab w) (hT10 : Tab10 w) (hD : Deb w) :
    Calls Tryd.prog 5 #[.int .i64 v, .int .u64 a] w fun e w' => e = .returned (.bool true) ∧ Below w.heap.size w w' := by
  have hb64 : v.natAbs < 18446744073709551616 := by have := hv.1; have := hv.2; omega
  have L10 := In.dN_64 (b := 10) (by omega) hb64
  have L16 := In.dN_64 (b := 16) (by omega) hb64
  have L8 := In.dN_64 (b := 8) (by omega) hb64
  have L2 := In.dN_64 (b := 2) (by omega) hb64
  have hxl := nfI_len hv
  obtain ⟨X, hX⟩ : ∃ x, x = txt (In.nfI v) := ⟨_, rfl⟩
  obtain ⟨D, hDd⟩ : ∃ x, x = txt (In.dN 10 v.natAbs) := ⟨_, rfl⟩
  obtain ⟨D16, hD16⟩ : ∃ x, x = txt (In.dN 16 v.natAbs) := ⟨_, rfl⟩
  obtain ⟨D8, hD8⟩ : ∃ x, x = txt (In.dN 8 v.natAbs) := ⟨_, rfl⟩
  obtain ⟨D2, hD2⟩ : ∃ x, x = txt (In.dN 2 v.natAbs) := ⟨_, rfl⟩
  obtain ⟨U16, hU16⟩ : ∃ x, x = txt ((In.dN 16 v.natAbs).map In.up) := ⟨_, rfl⟩
  obtain ⟨M10, hM10⟩ : ∃ x, x = txt (In.mkL (mf a) 0 (In.dN 10 v.natAbs)) := ⟨_, rfl⟩
  obtain ⟨M16, hM16⟩ : ∃ x, x = txt (In.mkL (mf a) 0 (In.dN 16 v.natAbs)) := ⟨_, rfl⟩
  obtain ⟨M8, hM8⟩ : ∃ x, x = txt (In.mkL (mf a) 0 (In.dN 8 v.natAbs)) := ⟨_, rfl⟩
  obtain ⟨M2, hM2⟩ : ∃ x, x = txt (In.mkL (mf a) 0 (In.dN 2 v.natAbs)) := ⟨_, rfl⟩
  obtain ⟨G, hG⟩ : ∃ x, x = txt (In.sg v) := ⟨_, rfl⟩
  obtain ⟨T1, hT1⟩ : ∃ x, G ++ M10 = x := ⟨_, rfl⟩
  obtain ⟨T2, hT2⟩ : ∃ x, ByteArray.mk #[43] ++ X = x := ⟨_, rfl⟩
  obtain ⟨T3, hT3⟩ : ∃ x, ByteArray.mk #[48, 120] ++ M16 = x := ⟨_, rfl⟩
  obtain ⟨T4, hT4⟩ : ∃ x, ByteArray.mk #[48, 120, 48, 95, 48] ++ U16 = x := ⟨_, rfl⟩
  obtain ⟨T5, hT5⟩ : ∃ x, ByteArray.mk #[48, 111] ++ M8 = x := ⟨_, rfl⟩
  obtain ⟨T6, hT6⟩ : ∃ x, ByteArray.mk #[48, 98] ++ M2 = x := ⟨_, rfl⟩
  have t1 : T1 = txt (In.rx v (mf a) 1) := by rw [← hT1, hG, hM10, txt_app]; rfl
  have t2 : T2 = txt (In.rx v (mf a) 2) := by rw [← hT2, hX]; show txt [43] ++ txt _ = _; rw [txt_app]; rfl
  have t3 : T3 = txt (In.rx v (mf a) 3) := by rw [← hT3, hM16]; show txt [48, 120] ++ txt _ = _; rw [txt_app]; rfl
  have t4 : T4 = txt (In.rx v (mf a) 4) := by rw [← hT4, hU16]; show txt [48, 120, 48, 95, 48] ++ txt _ = _; rw [txt_app]; rfl
  have t5 : T5 = txt (In.rx v (mf a) 5) := by rw [← hT5, hM8]; show txt [48, 111] ++ txt _ = _; rw [txt_app]; rfl
  have t6 : T6 = txt (In.rx v (mf a) 6) := by rw [← hT6, hM2]; show txt [48, 98] ++ txt _ = _; rw [txt_app]; rfl
  have zX : X.size ≤ 21 := by rw [hX, txt_size]; exact hxl
  have zG : G.size ≤ 1 := by rw [hG, txt_size]; exact In.sg_len v
  have zM10 : M10.size ≤ 200 := by rw [hM10, txt_size]; have := In.mkL_len (mf a) (In.dN 10 v.natAbs) 0; omega
  have zM16 : M16.size ≤ 200 := by rw [hM16, txt_size]; have := In.mkL_len (mf a) (In.dN 16 v.natAbs) 0; omega
  have zM8 : M8.size ≤ 200 := by rw [hM8, txt_size]; have := In.mkL_len (mf a) (In.dN 8 v.natAbs) 0; omega
  have zM2 : M2.size ≤ 200 := by rw [hM2, txt_size]; have := In.mkL_len (mf a) (In.dN 2 v.natAbs) 0; omega
  have zU16 : U16.size ≤ 200 := by rw [hU16, txt_size, List.length_map]; omega
  have F0 := Lib.hid (fun w h => fint10_any hv w h)
  rw [← hX] at F0
  have FT := Lib.hid (fun w => trim_any (v := v) hX w)
  rw [← hDd] at FT
  have F16 := Lib.hid (fun (h0 : 0 ≤ v) w D => fintv_any 16 4 (by simp [Rx]) hv (by omega) 16 rfl w D)
  have F8 := Lib.hid (fun (h0 : 0 ≤ v) w D => fintv_any 8 3 (by simp [Rx]) hv (by omega) 8 rfl w D)
  have F2 := Lib.hid (fun (h0 : 0 ≤ v) w D => fintv_any 2 1 (by simp [Rx]) hv (by omega) 2 rfl w D)
  rw [← hD16] at F16
  rw [← hD8] at F8
  rw [← hD2] at F2
  have FU := Lib.hid (fun w => upper_any (n := v.natAbs) hD16 (by omega) w)
  rw [← hU16] at FU
  have K10 := Lib.hid (fun w => mark_any a ha w hDd (by omega))
  have K16 := Lib.hid (fun w => mark_any a ha w hD16 (by omega))
  have K8 := Lib.hid (fun w => mark_any a ha w hD8 (by omega))
  have K2 := Lib.hid (fun w => mark_any a ha w hD2 (by omega))
  rw [← hM10] at K10
  rw [← hM16] at K16
  rw [← hM8] at K8
  rw [← hM2] at K2
  have HY := Lib.hid (fun N (hN : N = 2 ∨ N = 7 ∧ 0 ≤ v) i hi => In.rx_all (v := v) (mf a) hv N (by omega) i hi)
  have HG0 := Lib.hid (show v < 0 → G = ⟨#[45]⟩ by intro h; rw [hG, In.sg, if_pos h]; rfl)
  have HG1 := Lib.hid (show 0 ≤ v → G = ⟨#[]⟩ by intro h; rw [hG, In.sg, if_neg (by omega)]; rfl)
  have HWA := Lib.hid hX
  have HX0 := Lib.hid (show X = txt (In.rx v (mf a) 0) from hX)
  have HT1 := Lib.hid t1
  have HT2 := Lib.hid t2
  have HT3 := Lib.hid t3
  have HT4 := Lib.hid t4
  have HT5 := Lib.hid t5
  have HT6 := Lib.hid t6
  have H1 := Lib.hid hT1
  have H5 := Lib.hid (And.intro hT2 (And.intro hT3 (And.intro hT4 (And.intro hT5 hT6))))
  have HT := Lib.hid hT
  have HT10 := Lib.hid hT10
  have HDb := Lib.hid hD
  have LV := Lib.hid lives_any
  have HB0 := Lib.hid (Below.refl w.heap.size w)
  clear hb64 L10 L16 L8 L2 hxl hX hDd hD16 hD8 hD2 hU16 hM10 hM16 hM8 hM2 hG hT1 hT2 hT3 hT4 hT5 hT6 t1 t2 t3 t4 t5 t6 hT hT10 hD ha hv
  go_enter Tryd.func5, Tryd.ntmps5
  go_wp2_with fail
  refine (F0.out _ HT10.out).mono ?_
  rintro en w1 ⟨rfl, hb⟩
  have HB1 := Lib.hid (below_tr HB0.out hb)
  clear hb
  go_wp2_with fail
  refine (FT.out _).mono ?_
  rintro en w2 ⟨rfl, rfl⟩
  go_upto_if 15 with fail
  go_cut [7] (fun x wx => x = .string G ∧ w1 = wx)
  case first =>
    by_cases h : v < 0
    · have E := Lib.hid (HG0.out h)
      go_wp2_with fail
      go_meet
      exact ⟨by rw [E.out], rfl⟩
    · have E := Lib.hid (HG1.out (by omega))
      go_wp2_with fail
      go_meet
      exact ⟨by rw [E.out], rfl⟩
  case rest =>
    obtain ⟨rfl, rfl⟩ := hcut
    clear HG0 HG1 F0 FT
    have g1 := H1.out
    go_wp2_with fail
    refine (K10.out _).mono ?_
    rintro en w3 ⟨rfl, rfl⟩
    go_upto_region 7 with fail
    clear g1
    have HL2 := Lib.hid (show LS w (In.rx v (mf a)) w1.heap.size 2 (w1.alloc (.cells #[.string X, .string T1] 9)) from
      ⟨HB1.out.alloc HB1.out.size _, by simp, fun i hi => by
        have : i = 0 ∨ i = 1 := by omega
        rcases this with rfl | rfl
        · rw [← HX0.out]; simp [go_sem]
        · rw [← HT1.out]; simp [go_sem]⟩)
    have HH := Lib.hid (show (w1.alloc (.cells #[.string X, .string T1] 9)).heap[w1.heap.size]? = some (.cells #[.string X, .string T1] 9 (0, 0)) by
      show (w1.heap.push _)[w1.heap.size]? = _
      simp)
    generalize hW7 : w1.alloc (.cells #[.string X, .string T1] 9) = w7 at HL2 HH
    generalize hg : w1.heap.size = g at HL2 HH
    have hg0 : w.heap.size ≤ g := by rw [← hg]; exact HB1.out.size
    have HB7 := Lib.hid HL2.out.below
    clear hW7 hg HB1 HB0 H1 K10
    go_upto_if 24 with fail
    go_cut [8] (fun x wx => ∃ (g N cap : Nat), x = .slice (some ⟨g, 0, none⟩) N cap ∧ LS w (In.rx v (mf a)) g N wx ∧ (N = 2 ∨ N = 7 ∧ 0 ≤ v))
    case first =>
      by_cases hn0 : 0 ≤ v
      · obtain ⟨g2, g3, g4, g5, g6⟩ := H5.out
        have HP := Lib.hid hn0
        have h2s : T2.size ≤ 1000 := by rw [← g2, ByteArray.size_append]; show 1 + _ ≤ _; omega
        go_wp2_with fail
        refine (F16.out HP.out _ (HDb.out.below HB7.out)).mono ?_
        rintro en w10 ⟨rfl, hb⟩
        have HB10 := Lib.hid (below_tr HB7.out hb)
        have HW10 := Lib.hid hb
        clear hb
        go_wp2_with fail
        refine (K16.out _).mono ?_
        rintro en w11 ⟨rfl, rfl⟩
        go_wp2_with fail
        refine (F16.out HP.out _ (HDb.out.below HB10.out)).mono ?_
        rintro en w12 ⟨rfl, hb⟩
        have HB12 := Lib.hid (below_tr HB10.out hb)
        have HW12 := Lib.hid (below_tr HW10.out hb)
        clear hb
        go_wp2_with fail
        refine (FU.out _).mono ?_
        rintro en w13 ⟨rfl, hb⟩
        have HB13 := Lib.hid (below_tr HB12.out hb)
        have HW13 := Lib.hid (below_tr HW12.out hb)
        clear hb
        go_wp2_with fail
        refine (F8.out HP.out _ (HDb.out.below HB13.out)).mono ?_
        rintro en w14 ⟨rfl, hb⟩
        have HB14 := Lib.hid (below_tr HB13.out hb)
        have HW14 := Lib.hid (below_tr HW13.out hb)
        clear hb
        go_wp2_with fail
        refine (K8.out _).mono ?_
        rintro en w15 ⟨rfl, rfl⟩
        go_wp2_with fail
        refine (F2.out HP.out _ (HDb.out.below HB14.out)).mono ?_
        rintro en w16 ⟨rfl, hb⟩
        have HB16 := Lib.hid (below_tr HB14.out hb)
        have HW16 := Lib.hid (below_tr HW14.out hb)
        clear hb
        go_wp2_with fail
        refine (K2.out _).mono ?_
        rintro en w17 ⟨rfl, rfl⟩
        have HH8 := Lib.hid ((HW16.out.block g HL2.out.more).trans HH.out)
        obtain ⟨i9, hi9, hz0, hz1, hz2⟩ := info_parts (show (Tryd.prog.info? 9).map (fun i => (i.zero, i.size, i.bytes)) = some (some (.string ⟨#[]⟩), 1, 16) by kernel_rfl)
        have hown : w16.ownsRow w.heap.size 9 1 (.slice (some ⟨g, 0, none⟩) 2 2) 2 [.string X, .string T1] :=
          ⟨rfl, .inr ⟨g, 2, #[.string X, .string T1], rfl, hg0, HH8.out, by omega, by unfold maxLen; omega, rfl, rfl⟩⟩
        go_wp2_with (at_builtin; refine wpList_append_own _ rfl (.tmp 25) (.tmp 47) 33 rfl w.heap.size 9 i9 (.string ⟨#[]⟩) 1 16 Tryd.underlying33 hi9 hz0 hz1 hz2 rfl (by decide) _ 2 [.string X, .string T1] rfl (hown.alloc _) ⟨w16.heap.size, 0, none⟩ 5 5 [.string T2, .string T3, .string T4, .string T5, .string T6] rfl rfl (cells_new _ _ _) (one_five _ _ _ _ _) (by unfold maxLen; omega) (by omega) (by have := HB16.out.size; simp; omega) ?_; intro v2 wz hown2 hg2 _)
        have hbz : Below w.heap.size w wz := (HB16.out.alloc HB16.out.size _).grown hg2 (by have := HB16.out.size; simp; omega) (fun k hk => by cases hk; exact hg0)
        have hown3 := hown2
        rcases hown3.2 with ⟨_, h0⟩ | ⟨g', cap', cur, rfl, hbg, hh, hle, _, _, _⟩
        · omega
        · have hlz : g' < wz.heap.size := by
            rcases Nat.lt_or_ge g' wz.heap.size with h | h
            · exact h
            · rw [Array.getElem?_eq_none h] at hh; cases hh
          have HLZ := Lib.hid (show LS w (In.rx v (mf a)) g' 7 wz from ⟨hbz, hlz, fun i hi => by
            have hc := hown2.cellAt i (by omega)
            rw [hc]
            have : i = 0 ∨ i = 1 ∨ i = 2 ∨ i = 3 ∨ i = 4 ∨ i = 5 ∨ i = 6 := by omega
            rcases this with rfl | rfl | rfl | rfl | rfl | rfl | rfl
            · rw [← HX0.out]; rfl
            · rw [← HT1.out]; rfl
            · rw [← HT2.out]; rfl
            · rw [← HT3.out]; rfl
            · rw [← HT4.out]; rfl
            · rw [← HT5.out]; rfl
            · rw [← HT6.out]; rfl⟩)
          clear hown hown2 hown3 hg2 hbz hh hlz hbg hle
          go_wp2_with fail
          go_meet
          exact ⟨g', 7, cap', rfl, HLZ.out, Or.inr ⟨rfl, HP.out⟩⟩
      · have HP := Lib.hid hn0
        go_wp2_with fail
        go_meet
        exact ⟨g, 2, 2, rfl, HL2.out, Or.inl rfl⟩
    case rest =>
      obtain ⟨g, N, cap, rfl, hls, hN⟩ := hcut
      have HLS := Lib.hid hls
      have HNN := Lib.hid hN
      have hN4 : N ≤ 7 := by omega
      clear hls hN F16 F8 F2 FU K16 K8 K2 H5 HT1 HT2 HT3 HT4 HT5 HT6 HX0 HH HL2 HB7 hg0
      go_wp2_with fail
      go_loopw [9] (fun x wr => ∃ i : Nat, i ≤ N ∧ x = .int .i64 i ∧ LS w (In.rx v (mf a)) g N wr) (fun x _ => N - (intOf x).toNat)
      case atStart => exact ⟨0, Nat.zero_le _, rfl, HLS.out⟩
      case round =>
        obtain ⟨i, hi, rfl, hls⟩ := hrel
        have HL0 := Lib.hid hls
        clear hls
        by_cases hlt : i < N
        · have y := HY.out N HNN.out i hlt
          obtain ⟨t, ht⟩ : ∃ t, t = txt (In.rx v (mf a) i) := ⟨_, rfl⟩
          have hc := HL0.out.cells i hlt
          rw [← ht] at hc
          have hlen := y.len
          have hts : t.size ≤ 200 := by rw [ht, txt_size]; exact hlen
          obtain ⟨ta, hta⟩ : ∃ x, t ++ ByteArray.mk #[95] = x := ⟨_, rfl⟩
          obtain ⟨tb, htb⟩ : ∃ x, t ++ ByteArray.mk #[95, 95, 49] = x := ⟨_, rfl⟩
          obtain ⟨tc, htc⟩ : ∃ x, ByteArray.mk #[95] ++ t = x := ⟨_, rfl⟩
          obtain ⟨td, htd⟩ : ∃ x, t ++ ByteArray.mk #[32] = x := ⟨_, rfl⟩
          obtain ⟨te, hte⟩ : ∃ x, t ++ ByteArray.mk #[46] = x := ⟨_, rfl⟩
          have R0 := Lib.hid (fun w h => is_lit (s := t) (t := X) ht HWA.out (by omega) y.ok w h)
          have R1 := Lib.hid (fun w h => fl_lit (l := In.rx v (mf a) i ++ [95]) ta 3 (.inl rfl) (by rw [← hta, ht]; show txt _ ++ txt [95] = _; rw [txt_app]) (by simp; omega) (by rw [y.one]; rfl) w h)
          have R2 := Lib.hid (fun w h => fl_lit (l := In.rx v (mf a) i ++ [95, 95, 49]) tb 3 (.inl rfl) (by rw [← htb, ht]; show txt _ ++ txt [95, 95, 49] = _; rw [txt_app]) (by simp; omega) (by rw [y.two]; rfl) w h)
          have R3 := Lib.hid (fun w h => fl_lit (l := 95 :: In.rx v (mf a) i) tc 3 (.inl rfl) (by rw [← htc, ht]; show txt [95] ++ txt _ = _; rw [txt_app]; rfl) (by simp; omega) (by rw [y.under]; rfl) w h)
          have R4 := Lib.hid (fun w h => fl_lit (l := In.rx v (mf a) i ++ [32]) td 3 (.inl rfl) (by rw [← htd, ht]; show txt _ ++ txt [32] = _; rw [txt_app]) (by simp; omega) (by rw [y.blank]; rfl) w h)
          have R5 := Lib.hid (fun w h => fl_lit (l := In.rx v (mf a) i ++ [46]) te 3 (.inl rfl) (by rw [← hte, ht]; show txt _ ++ txt [46] = _; rw [txt_app]) (by simp; omega) (by rw [y.dot]; rfl) w h)
          have HTT := Lib.hid ht
          have HA := Lib.hid hta
          have HBb := Lib.hid htb
          have HC := Lib.hid htc
          have HD := Lib.hid htd
          have HE := Lib.hid hte
          clear y ht hlen hta htb htc htd hte
          go_wp2_with fail
          refine (R0.out _ (HT.out.below HL0.out.below)).mono ?_
          rintro en w21 ⟨rfl, hb⟩
          have HL1 := Lib.hid (HL0.out.on hb)
          clear hb hc
          have hc := HL1.out.cells i hlt
          rw [← HTT.out] at hc
          have hx := HA.out
          go_wp2_with fail
          clear hx
          refine (R1.out _ (HT.out.below HL1.out.below)).mono ?_
          rintro en w22 ⟨rfl, hb⟩
          have HL2 := Lib.hid (HL1.out.on hb)
          clear hb hc
          have hc := HL2.out.cells i hlt
          rw [← HTT.out] at hc
          have hx := HBb.out
          go_wp2_with fail
          clear hx
          refine (R2.out _ (HT.out.below HL2.out.below)).mono ?_
          rintro en w23 ⟨rfl, hb⟩
          have HL3 := Lib.hid (HL2.out.on hb)
          clear hb hc
          have hc := HL3.out.cells i hlt
          rw [← HTT.out] at hc
          have hx := HC.out
          go_wp2_with fail
          clear hx
          refine (R3.out _ (HT.out.below HL3.out.below)).mono ?_
          rintro en w24 ⟨rfl, hb⟩
          have HL4 := Lib.hid (HL3.out.on hb)
          clear hb hc
          have hc := HL4.out.cells i hlt
          rw [← HTT.out] at hc
          have hx := HD.out
          go_wp2_with fail
          clear hx
          refine (R4.out _ (HT.out.below HL4.out.below)).mono ?_
          rintro en w25 ⟨rfl, hb⟩
          have HL5 := Lib.hid (HL4.out.on hb)
          clear hb hc
          have hc := HL5.out.cells i hlt
          rw [← HTT.out] at hc
          have hx := HE.out
          go_wp2_with fail
          clear hx
          refine (R5.out _ (HT.out.below HL5.out.below)).mono ?_
          rintro en w26 ⟨rfl, hb⟩
          have HL6 := Lib.hid (HL5.out.on hb)
          clear hb hc
          go_wp2_with fail
          go_roundw
          case rel => exact ⟨i + 1, by omega, by go_num, HL6.out⟩
          case measure => simp [intOf]; omega
        · obtain rfl : i = N := by omega
          go_wp2_with fail
          refine (LV.out _ (HT.out.below HL0.out.below)).mono ?_
          rintro en w21 ⟨rfl, hb⟩
          have HL1 := Lib.hid (HL0.out.on hb)
          clear hb
          go_wp2_with fail
          go_ret
          exact ⟨rfl, HL1.out.below⟩
end Go.Proofs.YtonfaphllpjmpaaDoor
