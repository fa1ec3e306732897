/- The document's reading, its kinds, its longest beginning. -/
import Derived.Test.YtgmlbcdakblpiaaDoorEd
import Derived.Test.YtgmlbcdakblpiaaDoorDx
namespace Go.Proofs.YtgmlbcdakblpiaaDoor
open Go.RowKit
namespace Da

theorem st0_zero {p : List UInt8} : st0 (p ++ [48]) = st0 p := by
  unfold st0
  rw [List.reverse_append]; rfl
theorem st0_stop {p : List UInt8} {c : UInt8} (h : c ≠ 48) : st0 (p ++ [c]) = p ++ [c] := by
  unfold st0
  rw [List.reverse_append]
  show (List.dropWhile (· == 48) (c :: p.reverse)).reverse = _
  rw [List.dropWhile_cons, if_neg (by simpa using h)]
  simp
theorem last_split {p : List UInt8} (h : 0 < p.length) : ∃ q c, p = q ++ [c] ∧ bt p (p.length - 1) = (c.toNat : Int) ∧ q = p.take (p.length - 1) := by
  have hne : p ≠ [] := List.length_pos_iff.1 h
  refine ⟨p.dropLast, p.getLast hne, (List.dropLast_concat_getLast hne).symm, ?_, List.dropLast_eq_take⟩
  have : p.length - 1 < p.length := by omega
  simp only [bt, List.getD_eq_getElem?_getD, List.getElem?_eq_getElem this, Option.getD_some]
  rw [List.getLast_eq_getElem]
def szOf (v : Value) : Nat := match v with | .string s => s.size | _ => 0
/-- What is left of a text when it is cut as the document says. -/
structure CL (G p : List UInt8) (S : ByteArray) : Prop where
  s : S = txt p
  g : stp p = G
theorem CL.zero {G p : List UInt8} {S : ByteArray} (h : CL G p S) (h0 : 0 < p.length) (hb : bt p (p.length - 1) = 48) : CL G (p.take (p.length - 1)) (S.extract 0 (S.size - 1)) := by
  obtain ⟨q, c, e, e2, e3⟩ := last_split h0
  have hc : c = 48 := UInt8.toNat_inj.1 (by show c.toNat = 48; omega)
  refine ⟨by rw [h.s, txt_size, txt_take], ?_⟩
  rw [← e3, ← h.g]
  have : stp p = stp q := by
    rw [stp, stp, e, hc, st0_zero]
  exact this.symm
theorem CL.dot {G : List UInt8} {S : ByteArray} (h : CL G [46] S) : CL G [] (S.extract 0 (S.size - 1)) := by
  refine ⟨by rw [h.s]; rfl, ?_⟩
  rw [← h.g]; rfl
theorem CL.stop {G p : List UInt8} {S : ByteArray} (h : CL G p S) (h0 : p.length = 0 ∨ bt p (p.length - 1) ≠ 48 ∧ p ≠ [46]) : S = txt G := by
  rw [h.s, ← h.g]
  rcases h0 with h0 | ⟨h1, h2⟩
  · rw [List.eq_nil_of_length_eq_zero h0]; rfl
  · by_cases hz : p.length = 0
    · rw [List.eq_nil_of_length_eq_zero hz]; rfl
    · obtain ⟨q, c, e, e2, e3⟩ := last_split (p := p) (by omega)
      have hc : c ≠ 48 := by rintro rfl; exact h1 e2
      have : st0 p = p := by rw [e]; exact st0_stop hc
      rw [stp, this, if_neg h2]
theorem eq_dot {s : ByteArray} {p : List UInt8} (h : s = txt p) : (s.toList == [46]) = decide (p = [46]) := by
  rw [h, toList_txt]
  by_cases g : p = [46]
  · simp [g]
  · simp [g]
theorem txt_mid {l : List UInt8} {a b : Nat} : (txt l).extract a b = txt ((l.take b).drop a) := txt_cut l a b
/-- The parts of a text that is of the form whole, by its places. -/
theorem at_two {l : List UInt8} (hk : kd l = 2) : hT l = true ∧ tp l = 0 ∧ nZ l = 0 ∧ pD l = [] ∧ pZ l = [] := by
  have hz : pZ l = [] := Decidable.byContradiction fun g => by rw [kd, kd4, if_pos g] at hk; cases hk
  have hd : dte l = false := by
    cases hd : dte l
    · rfl
    · have a : pD l ≠ [] := fun e => by have := pD_len hd; rw [e] at this; cases this
      rw [kd, kd4, hz, if_neg (fun h => h rfl)] at hk
      split at hk
      · cases hk
      · rename_i h1
        split at hk
        · rename_i h2; exact absurd ⟨a, h2⟩ h1
        · first | cases hk | (rw [if_pos a] at hk; cases hk)
  have hh : hT l = true := by
    cases hh : hT l
    · rw [kd_zero hd hh] at hk; cases hk
    · rfl
  exact ⟨hh, by rw [tp, hd]; rfl, by rw [← pZ_len, hz]; rfl, by rw [pD, hd]; rfl, hz⟩
theorem at_three {l : List UInt8} (hk : kd l = 3) : dte l = true ∧ hT l = true ∧ tp l = 11 ∧ nZ l = 0 ∧ pZ l = [] := by
  have hz : pZ l = [] := Decidable.byContradiction fun g => by rw [kd, kd4, if_pos g] at hk; cases hk
  have hdt : pD l ≠ [] ∧ pT l ≠ [] := by
    apply Decidable.byContradiction
    intro g
    rw [kd, kd4, hz, if_neg (fun h => h rfl), if_neg g] at hk
    split at hk
    · cases hk
    · split at hk <;> cases hk
  have hd : dte l = true := by
    cases hd : dte l
    · exact absurd (by rw [pD, hd]; rfl) hdt.1
    · rfl
  have hh : hT l = true := by
    cases hh : hT l
    · exact absurd (by rw [pT, hh]; rfl) hdt.2
    · rfl
  exact ⟨hd, hh, by rw [tp, hd]; rfl, by rw [← pZ_len, hz]; rfl, hz⟩
theorem at_four {l : List UInt8} (hk : kd l = 4) : dte l = true ∧ hT l = true ∧ tp l = 11 ∧ 0 < nZ l ∧ pZ l ≠ [] := by
  have hz : pZ l ≠ [] := by
    intro g
    rw [kd, kd4, g, if_neg (fun h => h rfl)] at hk
    split at hk
    · cases hk
    · split at hk
      · cases hk
      · split at hk <;> cases hk
  obtain ⟨a, b, _⟩ := pZ_zt hz
  exact ⟨a, b, by rw [tp, a]; rfl, by rw [← pZ_len]; exact List.length_pos_iff.2 hz, hz⟩
theorem at_one {l : List UInt8} (hk : kd l = 1) (he : en l = l.length) : nm (pD l) (pT l) (pF l) (pZ l) = l := by
  obtain ⟨c, hc, h1, h2⟩ := join (l := l) (by omega)
  rw [he, List.drop_length, List.append_nil] at h1
  have hz : pZ l = [] := Decidable.byContradiction fun g => by rw [kd, kd4, if_pos g] at hk; cases hk
  have ht : pT l = [] := by
    apply Decidable.byContradiction
    intro g
    rw [kd, kd4, hz, if_neg (fun h => h rfl)] at hk
    split at hk
    · cases hk
    · cases hk
  have hf : pF l = [] := Decidable.byContradiction fun g => ((sh_of (l := l) (by omega)).f g).1 ht
  rw [ht, hf, hz] at h1 ⊢
  have e : nm (pD l) [] [] [] = asm c (pD l) [] [] [] := by
    rw [nm, asm, asm, md, md, if_neg (fun h => h.2 rfl), if_neg (fun h => h.2 rfl)]; rfl
  rw [e]; exact h1.symm
theorem mid_is {l : List UInt8} {a n : Nat} : (l.take (a + n)).drop a = (l.drop a).take n := by
  rw [List.take_drop]
set_option maxHeartbeats 8000000 in
set_option maxRecDepth 100000 in
theorem rRead_is {l : List UInt8} {s : ByteArray} (w : World) (hs : s = txt l) (hl : l.length ≤ 1000000) :
    Calls Tryd.prog 9 #[.string s] w fun e w' => e = .returned (.tuple #[.string (txt (rdD l).1), .int .i64 (rdD l).2]) ∧ Below w.heap.size w w' := by
  have zs : s.size = l.length := by rw [hs, txt_size]
  have hsz : s.size ≤ 1000000 := by omega
  have CF := Lib.hid (fun w => form_is (V := fmv l) w hs hl rfl)
  have hle := en_le l
  obtain ⟨K, hK⟩ : ∃ K : Int, K = (kd l : Nat) := ⟨_, rfl⟩
  obtain ⟨T, hTt⟩ : ∃ K : Int, K = tmI l := ⟨_, rfl⟩
  obtain ⟨Z, hZ⟩ : ∃ K : Int, K = znI l := ⟨_, rfl⟩
  obtain ⟨e, he⟩ : ∃ e : Nat, e = en l := ⟨_, rfl⟩
  rw [fmv, ← hK, ← hTt, ← hZ, ← he] at CF
  obtain ⟨x, hx⟩ : ∃ x, x = ok (pD l) (pT l) (pZ l) := ⟨_, rfl⟩
  have CM := Lib.hid (fun (h : kd l ≠ 0) w => rmay_is (E := (e : Int)) w hs hl h hK hTt hZ (by rw [he]) hx)
  have WRONG := Lib.hid (fun (h : ¬ (en l = l.length ∧ kd l ≠ 0)) => show rdD l = ([], 3) by rw [rdD, if_neg h])
  have BAD := Lib.hid (fun (h : en l = l.length) (h2 : kd l ≠ 0) (h3 : x = false) => show rdD l = ([], 9) by rw [rdD, if_pos ⟨h, h2⟩, if_neg (by rw [← hx, h3]; simp)])
  have GOOD := Lib.hid (fun (h : en l = l.length) (h2 : kd l ≠ 0) (h3 : x = true) => show rdD l = (nm (pD l) (pT l) (pF l) (pZ l), 0) by rw [rdD, if_pos ⟨h, h2⟩, if_pos (by rw [← hx, h3])])
  have hez : e ≤ s.size := by omega
  by_cases hk0 : kd l = 0
  · have E := Lib.hid (WRONG.out (fun h => h.2 hk0))
    have k0 : K = 0 := by rw [hK, hk0]; rfl
    rw [E.out]
    subst k0
    clear hs hl zs hle hK hTt hZ he hx hk0 CM WRONG BAD GOOD
    go_enter Tryd.func9, Tryd.ntmps9
    go_wp2_with fail
    refine (CF.out _).mono ?_
    rintro en1 w1 ⟨rfl, hb⟩
    have HB1 := Lib.hid hb
    have HB2 := Lib.hid (HB1.out.alloc HB1.out.size (fob 0 T Z e))
    clear hb
    go_wp2_with fail
    go_ret2
    exact ⟨rfl, HB2.out⟩
  have kn : (K == 0) = false := by rw [hK]; simpa using hk0
  have CMx := Lib.hid (CM.out hk0)
  clear CM
  by_cases hee : en l = l.length
  rotate_left
  · have E := Lib.hid (WRONG.out (fun h => hee h.1))
    rw [E.out]
    have hne : ((e : Int) != (s.size : Int)) = true := by simp; omega
    clear hs hl zs hle hK hTt hZ he hx hk0 WRONG BAD GOOD CMx
    go_enter Tryd.func9, Tryd.ntmps9
    go_wp2_with fail
    refine (CF.out _).mono ?_
    rintro en1 w1 ⟨rfl, hb⟩
    have HB1 := Lib.hid hb
    have HB2 := Lib.hid (HB1.out.alloc HB1.out.size (fob K T Z e))
    clear hb
    go_wp2_with fail
    go_ret2
    exact ⟨rfl, HB2.out⟩
  obtain rfl : e = s.size := by omega
  cases x
  · have E := Lib.hid (BAD.out hee hk0 rfl)
    rw [E.out]
    clear hs hl zs hle hK hTt hZ he hx hk0 WRONG BAD GOOD hee
    go_enter Tryd.func9, Tryd.ntmps9
    go_wp2_with fail
    refine (CF.out _).mono ?_
    rintro en1 w1 ⟨rfl, hb⟩
    have HB1 := Lib.hid hb
    clear hb
    go_wp2_with fail
    refine (CMx.out _).mono ?_
    rintro en2 w2 ⟨rfl, hb⟩
    have HB2 := Lib.hid (below_tr (HB1.out.alloc HB1.out.size (fob K T Z s.size)) hb)
    clear hb
    go_wp2_with fail
    go_ret2
    exact ⟨rfl, HB2.out⟩
  have GD := Lib.hid (GOOD.out hee hk0 rfl)
  rw [GD.out]
  have HS := Lib.hid hs
  obtain ⟨N, hN⟩ : ∃ N, N = txt (nm (pD l) (pT l) (pF l) (pZ l)) := ⟨_, rfl⟩
  rw [← hN]
  obtain ⟨G, hG⟩ : ∃ G, G = txt (stp (pF l)) := ⟨_, rfl⟩
  have hgl : G.size ≤ 1000000 := by rw [hG, txt_size]; have := stp_len (pF l); have := pF_le l; omega
  have hkc : kd l = 1 ∨ kd l = 2 ∨ kd l = 3 ∨ kd l = 4 := by
    have : kd l ≤ 4 := by unfold kd kd4; split <;> (try split) <;> (try split) <;> (try split) <;> omega
    omega
  clear WRONG BAD GOOD hk0 hx hle GD
  rcases hkc with hk | hk | hk | hk
  · skip
    have EN := Lib.hid (show N = s by rw [hN, at_one hk hee, ← hs])
    have k1 : K = 1 := by rw [hK, hk]; rfl
    subst k1
    clear hs hl zs hK hTt hZ hee hN hG hk he
    go_enter Tryd.func9, Tryd.ntmps9
    go_wp2_with fail
    refine (CF.out _).mono ?_
    rintro en1 w1 ⟨rfl, hb⟩
    have HB1 := Lib.hid hb
    clear hb
    go_wp2_with fail
    refine (CMx.out _).mono ?_
    rintro en2 w2 ⟨rfl, hb⟩
    have F2 := Lib.hid (BW.start.on hb)
    have HB2 := Lib.hid (below_tr HB1.out F2.out.1)
    obtain ⟨⟨c0, c1, c2, c3⟩, f0, f1, f2, f3⟩ := four_cells F2.out.2
    clear hb f0 f1 f2 f3
    go_wp2_with fail
    go_ret2
    exact ⟨by rw [EN.out]; rfl, HB2.out⟩
  · skip
    obtain ⟨hh, htp, hnz, hpd, hpzz⟩ := at_two hk
    have k2 : K = 2 := by rw [hK, hk]; rfl
    have t0 : T = 0 := by rw [hTt, tmI, if_pos hh, htp]; rfl
    have z1 : Z = -1 := by rw [hZ, znI, if_neg (by omega)]
    obtain ⟨O1, hO1⟩ : ∃ O, O = txt (pT l) := ⟨_, rfl⟩
    obtain ⟨P0, hP0⟩ : ∃ O, O = txt (pF l) := ⟨_, rfl⟩
    have hen : en l = 8 + nF l := by rw [en, if_pos hh, htp, hnz]; omega
    have s8 : 8 ≤ s.size := by omega
    have EO := Lib.hid (show s.extract 0 8 = O1 by rw [hO1, hs, txt_mid, List.drop_zero, pT, if_pos hh, htp]; rfl)
    have EP := Lib.hid (show s.extract 8 s.size = P0 by rw [hP0, pF, htp, zs, ← hee, hen, hs, txt_mid, mid_is])
    have EN := Lib.hid (show N = O1 ++ G by rw [hN, hO1, hG, txt_app, nm, asm, hpd, hpzz, md, if_neg (fun h => h.1 rfl)]; simp)
    have HGG := Lib.hid hG
    have CL0 := Lib.hid (show CL (stp (pF l)) (pF l) P0 from ⟨hP0, rfl⟩)
    have hpz : P0.size ≤ 1000000 := by rw [hP0, txt_size]; have := pF_le l; omega
    have hoz : O1.size = 8 := by rw [hO1, txt_size, pT_len hh]
    subst k2 t0 z1
    clear hs hl zs hK hTt hZ hee hN hG hk he hh htp hnz hpd hpzz hO1 hP0 hen kn
    go_enter Tryd.func9, Tryd.ntmps9
    go_wp2_with fail
    refine (CF.out _).mono ?_
    rintro en1 w1 ⟨rfl, hb⟩
    have HB1 := Lib.hid hb
    clear hb
    go_wp2_with fail
    refine (CMx.out _).mono ?_
    rintro en2 w2 ⟨rfl, hb⟩
    have F2 := Lib.hid (BW.start.on hb)
    have HB2 := Lib.hid (below_tr HB1.out F2.out.1)
    obtain ⟨⟨c0, c1, c2, c3⟩, f0, f1, f2, f3⟩ := four_cells F2.out.2
    clear hb f0 f1 f2 f3
    go_upto_region 9 with fail
    rw [EO.out]
    go_upto_region 13 with fail
    rw [EP.out]
    go_loop [7] (fun v => ∃ (p : List UInt8) (S : ByteArray), v = .string S ∧ Hid (CL (stp (pF l)) p S) ∧ S.size ≤ 1000000) (fun v => szOf v)
    case atStart => exact ⟨_, _, rfl, CL0, hpz⟩
    case round =>
      obtain ⟨p, S, rfl, HC, hSz⟩ := hrel
      clear CL0 hpz
      have zp : S.size = p.length := by rw [HC.out.s, txt_size]
      have ed := eq_dot HC.out.s
      by_cases h0 : 0 < S.size
      · have hq := txt_at HC.out.s (k := S.size - 1)
        obtain ⟨q, hqq⟩ : ∃ q, q = bt p (S.size - 1) := ⟨_, rfl⟩
        rw [← hqq] at hq
        have hqi : S.size - 1 < S.size := by omega
        have ei : ((S.size : Int) - 1) = ((S.size - 1 : Nat) : Int) := by omega
        by_cases g1 : q = 48
        · have N1 := Lib.hid (HC.out.zero (by omega) (by rw [← zp, ← hqq]; exact g1))
          rw [zp] at hqq
          clear zp hqq ed
          subst g1
          go_wp2_with fail
          go_round
          case rel => exact ⟨_, _, rfl, N1, by rw [ByteArray.size_extract]; omega⟩
          case measure => simp [szOf, ByteArray.size_extract]; omega
        · have g1' : (q == 48) = false := by simpa using g1
          by_cases g2 : p = [46]
          · have N1 := Lib.hid (CL.dot (by rw [← g2]; exact HC.out))
            rw [decide_eq_true g2] at ed
            clear zp hqq g2 g1
            go_wp2_with fail
            go_round
            case rel => exact ⟨_, _, rfl, N1, by rw [ByteArray.size_extract]; omega⟩
            case measure => simp [szOf, ByteArray.size_extract]; omega
          · have ES := Lib.hid (show S = G from (HC.out.stop (.inr ⟨by rw [← zp, ← hqq]; exact g1, g2⟩)).trans HGG.out.symm)
            rw [decide_eq_false g2] at ed
            clear zp hqq g2 g1
            go_wp2_with fail
            go_ret2
            exact ⟨by rw [EN.out, ← ES.out]; rfl, HB2.out⟩
      · have ES := Lib.hid (show S = G from (HC.out.stop (.inl (by omega))).trans HGG.out.symm)
        have ez : S.size = 0 := by omega
        clear zp ed
        go_wp2_with fail
        go_ret2
        exact ⟨by rw [EN.out, ← ES.out]; rfl, HB2.out⟩
  · skip
    obtain ⟨hd, hh, htp, hnz, hpzz⟩ := at_three hk
    have k2 : K = 3 := by rw [hK, hk]; rfl
    have t0 : T = 11 := by rw [hTt, tmI, if_pos hh, htp]; rfl
    have z1 : Z = -1 := by rw [hZ, znI, if_neg (by omega)]
    obtain ⟨O1, hO1⟩ : ∃ O, O = txt (pT l) := ⟨_, rfl⟩
    obtain ⟨P0, hP0⟩ : ∃ O, O = txt (pF l) := ⟨_, rfl⟩
    obtain ⟨D0, hD0⟩ : ∃ O, O = txt (pD l) := ⟨_, rfl⟩
    have hen : en l = 19 + nF l := by rw [en, if_pos hh, htp, hnz]; rfl
    have s8 : 19 ≤ s.size := by omega
    have da : pD l ≠ [] := fun e => by have := pD_len hd; rw [e] at this; cases this
    have ta : pT l ≠ [] := fun e => by have := pT_len hh; rw [e] at this; cases this
    have ED := Lib.hid (show s.extract 0 10 = D0 by rw [hD0, hs, txt_take, pD, if_pos hd])
    have EO := Lib.hid (show s.extract 11 19 = O1 by rw [hO1, hs, txt_mid, mid_is (a := 11) (n := 8), pT, if_pos hh, htp])
    have EP := Lib.hid (show s.extract 19 s.size = P0 by rw [hP0, pF, htp, zs, ← hee, hen, hs, txt_mid, mid_is])
    have EN := Lib.hid (show N = D0 ++ ⟨#[84]⟩ ++ (O1 ++ G) by rw [hN, hD0, hO1, hG, show (⟨#[84]⟩ : ByteArray) = txt [84] from rfl, txt_app, txt_app, txt_app, nm, asm, hpzz, md, if_pos ⟨da, ta⟩]; congr 1; simp)
    have hdz : D0.size = 10 := by rw [hD0, txt_size, pD_len hd]
    have HGG := Lib.hid hG
    have CL0 := Lib.hid (show CL (stp (pF l)) (pF l) P0 from ⟨hP0, rfl⟩)
    have hpz : P0.size ≤ 1000000 := by rw [hP0, txt_size]; have := pF_le l; omega
    have hoz : O1.size = 8 := by rw [hO1, txt_size, pT_len hh]
    subst k2 t0 z1
    clear hs hl zs hK hTt hZ hee hN hG hk he hd hh htp hnz hpzz hO1 hP0 hD0 hen kn da ta
    go_enter Tryd.func9, Tryd.ntmps9
    go_wp2_with fail
    refine (CF.out _).mono ?_
    rintro en1 w1 ⟨rfl, hb⟩
    have HB1 := Lib.hid hb
    clear hb
    go_wp2_with fail
    refine (CMx.out _).mono ?_
    rintro en2 w2 ⟨rfl, hb⟩
    have F2 := Lib.hid (BW.start.on hb)
    have HB2 := Lib.hid (below_tr HB1.out F2.out.1)
    obtain ⟨⟨c0, c1, c2, c3⟩, f0, f1, f2, f3⟩ := four_cells F2.out.2
    clear hb f0 f1 f2 f3
    go_upto_region 9 with fail
    rw [EO.out]
    go_upto_region 13 with fail
    rw [EP.out]
    go_loop [7] (fun v => ∃ (p : List UInt8) (S : ByteArray), v = .string S ∧ Hid (CL (stp (pF l)) p S) ∧ S.size ≤ 1000000) (fun v => szOf v)
    case atStart => exact ⟨_, _, rfl, CL0, hpz⟩
    case round =>
      obtain ⟨p, S, rfl, HC, hSz⟩ := hrel
      clear CL0 hpz
      have zp : S.size = p.length := by rw [HC.out.s, txt_size]
      have ed := eq_dot HC.out.s
      by_cases h0 : 0 < S.size
      · have hq := txt_at HC.out.s (k := S.size - 1)
        obtain ⟨q, hqq⟩ : ∃ q, q = bt p (S.size - 1) := ⟨_, rfl⟩
        rw [← hqq] at hq
        have hqi : S.size - 1 < S.size := by omega
        have ei : ((S.size : Int) - 1) = ((S.size - 1 : Nat) : Int) := by omega
        by_cases g1 : q = 48
        · have N1 := Lib.hid (HC.out.zero (by omega) (by rw [← zp, ← hqq]; exact g1))
          rw [zp] at hqq
          clear zp hqq ed
          subst g1
          go_wp2_with fail
          go_round
          case rel => exact ⟨_, _, rfl, N1, by rw [ByteArray.size_extract]; omega⟩
          case measure => simp [szOf, ByteArray.size_extract]; omega
        · have g1' : (q == 48) = false := by simpa using g1
          by_cases g2 : p = [46]
          · have N1 := Lib.hid (CL.dot (by rw [← g2]; exact HC.out))
            rw [decide_eq_true g2] at ed
            clear zp hqq g2 g1
            go_wp2_with fail
            go_round
            case rel => exact ⟨_, _, rfl, N1, by rw [ByteArray.size_extract]; omega⟩
            case measure => simp [szOf, ByteArray.size_extract]; omega
          · have ES := Lib.hid (show S = G from (HC.out.stop (.inr ⟨by rw [← zp, ← hqq]; exact g1, g2⟩)).trans HGG.out.symm)
            rw [decide_eq_false g2] at ed
            clear zp hqq g2 g1
            go_upto_region 18 with fail
            obtain ⟨O2, hO2⟩ : ∃ O, O = O1 ++ S := ⟨_, rfl⟩
            have hz2 : O2.size ≤ 1000008 := by rw [hO2, ByteArray.size_append]; omega
            have EN2 := Lib.hid (show N = D0 ++ ⟨#[84]⟩ ++ O2 by rw [EN.out, hO2, ← ES.out])
            rw [← hO2]
            clear hO2
            go_upto_region 19 with fail
            rw [ED.out]
            go_wp2_with fail
            go_ret2
            exact ⟨by rw [EN2.out]; rfl, HB2.out⟩
      · have ES := Lib.hid (show S = G from (HC.out.stop (.inl (by omega))).trans HGG.out.symm)
        have ez : S.size = 0 := by omega
        clear zp ed
        go_upto_region 18 with fail
        obtain ⟨O2, hO2⟩ : ∃ O, O = O1 ++ S := ⟨_, rfl⟩
        have hz2 : O2.size ≤ 1000008 := by rw [hO2, ByteArray.size_append]; omega
        have EN2 := Lib.hid (show N = D0 ++ ⟨#[84]⟩ ++ O2 by rw [EN.out, hO2, ← ES.out])
        rw [← hO2]
        clear hO2
        go_upto_region 19 with fail
        rw [ED.out]
        go_wp2_with fail
        go_ret2
        exact ⟨by rw [EN2.out]; rfl, HB2.out⟩
  · skip
    obtain ⟨hd, hh, htp, hnz, hpzz⟩ := at_four hk
    have k2 : K = 4 := by rw [hK, hk]; rfl
    have t0 : T = 11 := by rw [hTt, tmI, if_pos hh, htp]; rfl
    obtain ⟨z, hzz⟩ : ∃ z, z = 19 + nF l := ⟨_, rfl⟩
    have z1 : Z = (z : Int) := by rw [hZ, znI, if_pos hnz, htp, hzz]
    obtain ⟨O1, hO1⟩ : ∃ O, O = txt (pT l) := ⟨_, rfl⟩
    obtain ⟨P0, hP0⟩ : ∃ O, O = txt (pF l) := ⟨_, rfl⟩
    obtain ⟨D0, hD0⟩ : ∃ O, O = txt (pD l) := ⟨_, rfl⟩
    obtain ⟨V, hV⟩ : ∃ O, O = txt ((pZ l).map up) := ⟨_, rfl⟩
    have hen : en l = z + nZ l := by rw [en, if_pos hh, htp, hzz]
    have zlt : z < s.size := by omega
    have s8 : 19 ≤ z := by omega
    have da : pD l ≠ [] := fun e => by have := pD_len hd; rw [e] at this; cases this
    have ta : pT l ≠ [] := fun e => by have := pT_len hh; rw [e] at this; cases this
    have ED := Lib.hid (show s.extract 0 10 = D0 by rw [hD0, hs, txt_take, pD, if_pos hd])
    have EO := Lib.hid (show s.extract 11 19 = O1 by rw [hO1, hs, txt_mid, mid_is (a := 11) (n := 8), pT, if_pos hh, htp])
    have EP := Lib.hid (show s.extract 19 z = P0 by rw [hP0, pF, htp, hzz, hs, txt_mid, mid_is])
    have EN := Lib.hid (show N = D0 ++ ⟨#[84]⟩ ++ (O1 ++ G) ++ V by rw [hN, hD0, hO1, hG, hV, show (⟨#[84]⟩ : ByteArray) = txt [84] from rfl, txt_app, txt_app, txt_app, txt_app, nm, asm, md, if_pos ⟨da, ta⟩]; congr 1; simp)
    have hdz : D0.size = 10 := by rw [hD0, txt_size, pD_len hd]
    have hbz := txt_at hs (k := z)
    obtain ⟨y, hy⟩ : ∃ y, y = bt l z := ⟨_, rfl⟩
    rw [← hy] at hbz
    have hfz := (pZ_zt hpzz).2.2
    have hb0 : bt (pZ l) 0 = y := by rw [pZ, bt_take _ hnz, bt_drop, htp, hy, hzz, Nat.add_zero]
    have hpl := pZ_len l
    have EV := Lib.hid (show (y = 90 ∨ y = 122) ∧ V = ⟨#[90]⟩ ∨ ¬ y = 90 ∧ ¬ y = 122 ∧ V = s.extract z s.size by
      rcases hfz with ⟨h1, h2⟩ | ⟨h1, h2⟩
      · rw [hb0] at h2
        unfold zc at h2
        have h3 := of_decide_eq_true h2
        refine .inl ⟨h3, ?_⟩
        rw [hV]
        match hq : pZ l, h1 with
        | [c], _ =>
          rw [hq, bt_c] at hb0
          have : up c = 90 := by
            unfold up
            split
            · rfl
            · rename_i hne
              rcases h3 with h3 | h3
              · exact UInt8.toNat_inj.1 (by show c.toNat = 90; omega)
              · exact absurd (UInt8.toNat_inj.1 (by show c.toNat = 122; omega)) hne
          show txt [up c] = _
          rw [this]; rfl
      · have h3 := (zs_iff.1 h2).1
        rw [hb0] at h3
        refine .inr ⟨by omega, by omega, ?_⟩
        rw [hV, six_up h1 h2, hs, txt_drop, pZ, htp, hzz, List.take_of_length_le]
        rw [List.length_drop]; omega)
    have hvz : V.size ≤ 6 := by
      rw [hV, txt_size, List.length_map]
      rcases hfz with ⟨h1, _⟩ | ⟨h1, _⟩ <;> omega
    have HGG := Lib.hid hG
    have CL0 := Lib.hid (show CL (stp (pF l)) (pF l) P0 from ⟨hP0, rfl⟩)
    have hpz : P0.size ≤ 1000000 := by rw [hP0, txt_size]; have := pF_le l; omega
    have hoz : O1.size = 8 := by rw [hO1, txt_size, pT_len hh]
    subst k2 t0 z1
    clear hs hl zs hK hTt hZ hee hN hG hk he hd hh htp hnz hpzz hO1 hP0 hD0 hen kn da ta hzz hV hy hb0 hpl hfz
    go_enter Tryd.func9, Tryd.ntmps9
    go_wp2_with fail
    refine (CF.out _).mono ?_
    rintro en1 w1 ⟨rfl, hb⟩
    have HB1 := Lib.hid hb
    clear hb
    go_wp2_with fail
    refine (CMx.out _).mono ?_
    rintro en2 w2 ⟨rfl, hb⟩
    have F2 := Lib.hid (BW.start.on hb)
    have HB2 := Lib.hid (below_tr HB1.out F2.out.1)
    obtain ⟨⟨c0, c1, c2, c3⟩, f0, f1, f2, f3⟩ := four_cells F2.out.2
    clear hb f0 f1 f2 f3
    go_upto_region 9 with fail
    rw [EO.out]
    go_upto_region 13 with fail
    rw [EP.out]
    go_loop [7] (fun v => ∃ (p : List UInt8) (S : ByteArray), v = .string S ∧ Hid (CL (stp (pF l)) p S) ∧ S.size ≤ 1000000) (fun v => szOf v)
    case atStart => exact ⟨_, _, rfl, CL0, hpz⟩
    case round =>
      obtain ⟨p, S, rfl, HC, hSz⟩ := hrel
      clear CL0 hpz
      have zp : S.size = p.length := by rw [HC.out.s, txt_size]
      have ed := eq_dot HC.out.s
      by_cases h0 : 0 < S.size
      · have hq := txt_at HC.out.s (k := S.size - 1)
        obtain ⟨q, hqq⟩ : ∃ q, q = bt p (S.size - 1) := ⟨_, rfl⟩
        rw [← hqq] at hq
        have hqi : S.size - 1 < S.size := by omega
        have ei : ((S.size : Int) - 1) = ((S.size - 1 : Nat) : Int) := by omega
        by_cases g1 : q = 48
        · have N1 := Lib.hid (HC.out.zero (by omega) (by rw [← zp, ← hqq]; exact g1))
          rw [zp] at hqq
          clear zp hqq ed
          subst g1
          go_wp2_with fail
          go_round
          case rel => exact ⟨_, _, rfl, N1, by rw [ByteArray.size_extract]; omega⟩
          case measure => simp [szOf, ByteArray.size_extract]; omega
        · have g1' : (q == 48) = false := by simpa using g1
          by_cases g2 : p = [46]
          · have N1 := Lib.hid (CL.dot (by rw [← g2]; exact HC.out))
            rw [decide_eq_true g2] at ed
            clear zp hqq g2 g1
            go_wp2_with fail
            go_round
            case rel => exact ⟨_, _, rfl, N1, by rw [ByteArray.size_extract]; omega⟩
            case measure => simp [szOf, ByteArray.size_extract]; omega
          · have ES := Lib.hid (show S = G from (HC.out.stop (.inr ⟨by rw [← zp, ← hqq]; exact g1, g2⟩)).trans HGG.out.symm)
            rw [decide_eq_false g2] at ed
            clear zp hqq g2 g1
            go_upto_region 18 with fail
            obtain ⟨O2, hO2⟩ : ∃ O, O = O1 ++ S := ⟨_, rfl⟩
            have hz2 : O2.size ≤ 1000008 := by rw [hO2, ByteArray.size_append]; omega
            have EN2 := Lib.hid (show N = D0 ++ ⟨#[84]⟩ ++ O2 ++ V by rw [EN.out, hO2, ← ES.out])
            rw [← hO2]
            clear hO2
            go_upto_region 19 with fail
            rw [ED.out]
            obtain ⟨O3, hO3⟩ : ∃ O, O = D0 ++ ⟨#[84]⟩ ++ O2 := ⟨_, rfl⟩
            have hz3 : O3.size ≤ 1000019 := by
              rw [hO3, ByteArray.size_append, ByteArray.size_append]
              have : (⟨#[84]⟩ : ByteArray).size = 1 := rfl
              omega
            have EN3 := Lib.hid (show N = O3 ++ V by rw [EN2.out, hO3])
            rw [← hO3]
            clear hO3
            rcases EV.out with ⟨rfl | rfl, ev⟩ | ⟨h1, h2, ev⟩
            · have EN4 := Lib.hid (show N = O3 ++ ⟨#[90]⟩ by rw [EN3.out, ev])
              clear ev EV EN2 EN3 EN
              go_wp2_with fail
              go_ret2
              exact ⟨by rw [EN4.out]; rfl, HB2.out⟩
            · have EN4 := Lib.hid (show N = O3 ++ ⟨#[90]⟩ by rw [EN3.out, ev])
              clear ev EV EN2 EN3 EN
              go_wp2_with fail
              go_ret2
              exact ⟨by rw [EN4.out]; rfl, HB2.out⟩
            · have EN4 := Lib.hid (show N = O3 ++ s.extract z s.size by rw [EN3.out, ev])
              have h1' : (y == 90) = false := by simpa using h1
              have h2' : (y == 122) = false := by simpa using h2
              clear ev EV EN2 EN3 EN h1 h2
              go_wp2_with fail
              go_ret2
              exact ⟨by rw [EN4.out]; rfl, HB2.out⟩
      · have ES := Lib.hid (show S = G from (HC.out.stop (.inl (by omega))).trans HGG.out.symm)
        have ez : S.size = 0 := by omega
        clear zp ed
        go_upto_region 18 with fail
        obtain ⟨O2, hO2⟩ : ∃ O, O = O1 ++ S := ⟨_, rfl⟩
        have hz2 : O2.size ≤ 1000008 := by rw [hO2, ByteArray.size_append]; omega
        have EN2 := Lib.hid (show N = D0 ++ ⟨#[84]⟩ ++ O2 ++ V by rw [EN.out, hO2, ← ES.out])
        rw [← hO2]
        clear hO2
        go_upto_region 19 with fail
        rw [ED.out]
        obtain ⟨O3, hO3⟩ : ∃ O, O = D0 ++ ⟨#[84]⟩ ++ O2 := ⟨_, rfl⟩
        have hz3 : O3.size ≤ 1000019 := by
          rw [hO3, ByteArray.size_append, ByteArray.size_append]
          have : (⟨#[84]⟩ : ByteArray).size = 1 := rfl
          omega
        have EN3 := Lib.hid (show N = O3 ++ V by rw [EN2.out, hO3])
        rw [← hO3]
        clear hO3
        rcases EV.out with ⟨rfl | rfl, ev⟩ | ⟨h1, h2, ev⟩
        · have EN4 := Lib.hid (show N = O3 ++ ⟨#[90]⟩ by rw [EN3.out, ev])
          clear ev EV EN2 EN3 EN
          go_wp2_with fail
          go_ret2
          exact ⟨by rw [EN4.out]; rfl, HB2.out⟩
        · have EN4 := Lib.hid (show N = O3 ++ ⟨#[90]⟩ by rw [EN3.out, ev])
          clear ev EV EN2 EN3 EN
          go_wp2_with fail
          go_ret2
          exact ⟨by rw [EN4.out]; rfl, HB2.out⟩
        · have EN4 := Lib.hid (show N = O3 ++ s.extract z s.size by rw [EN3.out, ev])
          have h1' : (y == 90) = false := by simpa using h1
          have h2' : (y == 122) = false := by simpa using h2
          clear ev EV EN2 EN3 EN h1 h2
          go_wp2_with fail
          go_ret2
          exact ⟨by rw [EN4.out]; rfl, HB2.out⟩
theorem field_0 (w : World) (a b c d : Int) : (Instr.field 49 (fv a b c d) 0).run Tryd.prog w = .ok (.int .i64 a) w := by kernel_rfl
theorem field_3 (w : World) (a b c d : Int) : (Instr.field 49 (fv a b c d) 3).run Tryd.prog w = .ok (.int .i64 d) w := by kernel_rfl
set_option maxHeartbeats 4000000 in
set_option maxRecDepth 100000 in
theorem rOf_is {l : List UInt8} {s : ByteArray} {k : Int} (w : World) (hs : s = txt l) (hl : l.length ≤ 1000000) (hk : k = (ofD l : Nat)) :
    Calls Tryd.prog 11 #[.string s] w fun e w' => e = .returned (.int .i64 k) ∧ Below w.heap.size w w' := by
  have CR := Lib.hid (fun w => rRead_is w hs hl)
  have CF := Lib.hid (fun w => form_is (V := fmv l) w hs hl rfl)
  obtain ⟨X, hX⟩ : ∃ X, X = txt (rdD l).1 := ⟨_, rfl⟩
  obtain ⟨c, hc⟩ : ∃ c, c = (rdD l).2 := ⟨_, rfl⟩
  rw [← hX, ← hc] at CR
  have heq := iseq_txt hX hs
  obtain ⟨j, hj⟩ : ∃ j : Int, j = (kd l : Nat) := ⟨_, rfl⟩
  obtain ⟨t, ht⟩ : ∃ t, t = tmI l := ⟨_, rfl⟩
  obtain ⟨z, hz⟩ : ∃ t, t = znI l := ⟨_, rfl⟩
  obtain ⟨e, he⟩ : ∃ t : Int, t = (en l : Nat) := ⟨_, rfl⟩
  rw [fmv, ← hj, ← ht, ← hz, ← he] at CF
  unfold ofD at hk
  rw [← hc] at hk
  by_cases h0 : c = 0
  · by_cases h1 : (rdD l).1 = l
    · have EX := Lib.hid (show k = j by rw [hk, if_pos ⟨h0, h1⟩, hj])
      rw [decide_eq_true h1] at heq
      subst h0
      clear hs hl hk hX hc hj ht hz he h1
      go_enter Tryd.func11, Tryd.ntmps11
      go_wp2_with fail
      refine (CR.out _).mono ?_
      rintro e1 w1 ⟨rfl, hb⟩
      have HB1 := Lib.hid hb
      clear hb
      go_wp2_with fail
      refine (CF.out _).mono ?_
      rintro e2 w2 ⟨rfl, hb⟩
      have HB2 := Lib.hid (below_tr HB1.out hb)
      clear hb
      have hfld := field_0 w2 j t z e
      go_wp2_with fail
      refine bodyPost_ret (v := .int .i64 j) (by simp [results, Tryd.results11, go_sem, *]) rfl ?_
      exact ⟨by rw [EX.out], HB2.out⟩
    · have EX := Lib.hid (show k = 0 by rw [hk, if_neg (fun g => h1 g.2)]; rfl)
      rw [decide_eq_false h1] at heq
      subst h0
      clear hs hl hk hX hc hj ht hz he h1
      go_enter Tryd.func11, Tryd.ntmps11
      go_wp2_with fail
      refine (CR.out _).mono ?_
      rintro e1 w1 ⟨rfl, hb⟩
      have HB1 := Lib.hid hb
      clear hb
      go_wp2_with fail
      go_ret
      exact ⟨by rw [EX.out]; rfl, HB1.out⟩
  · have EX := Lib.hid (show k = 0 by rw [hk, if_neg (fun g => h0 g.1)]; rfl)
    have h0' : (c != 0) = true := by simpa using h0
    clear hs hl hk hX hc hj ht hz he h0 heq
    go_enter Tryd.func11, Tryd.ntmps11
    go_wp2_with fail
    refine (CR.out _).mono ?_
    rintro e1 w1 ⟨rfl, hb⟩
    have HB1 := Lib.hid hb
    clear hb
    go_wp2_with fail
    go_ret
    exact ⟨by rw [EX.out]; rfl, HB1.out⟩
set_option maxHeartbeats 4000000 in
set_option maxRecDepth 100000 in
theorem rLong_is {l : List UInt8} {s : ByteArray} {k : Int} (w : World) (hs : s = txt l) (hl : l.length ≤ 1000000) (hk : k = (en l : Nat)) :
    Calls Tryd.prog 13 #[.string s] w fun e w' => e = .returned (.int .i64 k) ∧ Below w.heap.size w w' := by
  have CF := Lib.hid (fun w => form_is (V := fmv l) w hs hl rfl)
  obtain ⟨j, hj⟩ : ∃ j : Int, j = (kd l : Nat) := ⟨_, rfl⟩
  obtain ⟨t, ht⟩ : ∃ t, t = tmI l := ⟨_, rfl⟩
  obtain ⟨z, hz⟩ : ∃ t, t = znI l := ⟨_, rfl⟩
  rw [fmv, ← hj, ← ht, ← hz, ← hk] at CF
  clear hs hl hj ht hz hk
  go_enter Tryd.func13, Tryd.ntmps13
  go_wp2_with fail
  refine (CF.out _).mono ?_
  rintro e1 w1 ⟨rfl, hb⟩
  have HB1 := Lib.hid hb
  clear hb
  have hfld := field_3 w1 j t z k
  go_wp2_with fail
  refine bodyPost_ret (v := .int .i64 k) (by simp [results, Tryd.results13, go_sem, *]) rfl ?_
  exact ⟨rfl, HB1.out⟩
end Da
end Go.Proofs.YtgmlbcdakblpiaaDoor
