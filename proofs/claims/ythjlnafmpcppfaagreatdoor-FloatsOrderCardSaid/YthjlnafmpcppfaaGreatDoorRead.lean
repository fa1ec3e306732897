/- The document's answer on Read, walked. -/
import Derived.Test.YthjlnafmpcppfaaGreatDoorReadM
import Derived.Deep.LoopGhost
import Derived.Deep.QuietTactic
import Derived.BigQuiet
import Derived.Deep.CutBlock
namespace Go.Proofs.YthjlnafmpcppfaaGreatDoor
open Go.RowKit

theorem ret_sc {a b : ByteArray} {x y : Int} (h : a = b) (h' : x = y) : Ending.returned (.tuple #[.string a, .int .i64 x]) = .returned (.tuple #[.string b, .int .i64 y]) := by rw [h, h']
set_option maxHeartbeats 1000000 in
theorem read_any {l : List UInt8} {s : ByteArray} (w : World) (hs : s = txt l) (hm : l.length ≤ 1000000) :
    Calls Tryz.prog 25 #[.string s] w fun e w' => e = .returned (.tuple #[.string (txt (rd l).1), .int .i64 (rd l).2]) ∧ Below w.heap.size w w' := by
  have HZ := Lib.hid (show s.size = l.length by rw [hs, txt_size])
  have HS := Lib.hid hs
  have HM := Lib.hid hm
  have hsz : s.size ≤ 1000000 := by have := HZ.out; omega
  obtain ⟨o1, o2, o3, o4, o5, o6, o7, o8⟩ := q_order (l := l)
  have ⟨r1, r2⟩ := powR_range l (q4 l) (q5 l) o8
  have O7 := Lib.hid o7
  have O8 := Lib.hid o8
  have o6' : q5 l ≤ s.size := by have := HZ.out; omega
  clear hs hm o6 o7 o8
  go_enter Tryz.func25, Tryz.ntmps25
  go_wp2_with fail
  refine (is_any w HS.out HM.out).mono ?_
  rintro e w1 ⟨a, b, c, d, f, g, rfl, hp, hb1⟩
  by_cases hB : isB l = true
  · obtain ⟨rfl, rfl, rfl, rfl, rfl, rfl⟩ := hp hB
    have HB := Lib.hid hB
    have HB1 := Lib.hid hb1
    rw [hB]
    clear hB hp hb1
    go_wp2_with fail
    refine (power_any _ _ _ _ (q4 l) (q5 l) _ HS.out o5 (by have := HZ.out; omega) HM.out O8.out O7.out).mono ?_
    rintro e w2 ⟨rfl, rfl⟩
    obtain ⟨pn, hpn⟩ : ∃ x, (powR l (q4 l) (q5 l)).1 = x := ⟨_, rfl⟩
    obtain ⟨pb, hpb⟩ : ∃ x, (powR l (q4 l) (q5 l)).2 = x := ⟨_, rfl⟩
    rw [hpn] at r1 r2 ⊢
    rw [hpb]
    have HPN := Lib.hid hpn
    have HPB := Lib.hid hpb
    clear hpn hpb
    cases pb
    · go_wp2_with fail
      go_ret2
      exact ⟨ret_sc (by rw [rd_exp HB.out HPB.out]; rfl) (by rw [rd_exp HB.out HPB.out]), (HB1.out.alloc HB1.out.size _).alloc (Nat.le_trans HB1.out.size (by simp)) _⟩
    · go_upto_region 7 with fail
      have HDT := Lib.hid (show s.extract (q0 l) (q1 l) ++ s.extract (q2 l) (q3 l) = txt (rdD l) by rw [HS.out, txt_cut, txt_cut, txt_app]; rfl)
      have hdl : (rdD l).length ≤ 2000000 := by have := rdD_len l; have := HM.out; omega
      go_quiet (fail)
      go_upto_block 0 with fail
      have HBW := Lib.hid (belowDrewN ((HB1.out.alloc HB1.out.size (six (q0 l) (q1 l) (q2 l) (q3 l) (q4 l) (q5 l))).alloc (Nat.le_trans HB1.out.size (by simp)) (six (q0 l) (q1 l) (q2 l) (q3 l) (q4 l) (q5 l))) nq)
      go_cut [6, 7] (fun x y wx => x = .int .i64 (rdN l) ∧ y = .string (txt (trimR (rdD l))) ∧ Below w.heap.size w wx)
      case first =>
        go_wp2_with fail
        go_loop [6, 7] (fun x y => ∃ (d : List UInt8) (m : Int) (t : ByteArray), x = .int .i64 m ∧ y = .string t ∧ t = txt d ∧ t.size ≤ (rdD l).length ∧ trimR d = trimR (rdD l) ∧ m = pn - ((q3 l : Int) - q2 l) + ((rdD l).length - t.size)) (fun _ y => match y with | .string t => t.size | _ => 0)
        case atStart => exact ⟨rdD l, _, _, rfl, rfl, HDT.out, by rw [HDT.out, txt_size]; exact Nat.le_refl _, rfl, by rw [HDT.out, txt_size]; omega⟩
        case round =>
          obtain ⟨d, m, t, rfl, rfl, ht, hts, htr, hmm⟩ := hrel
          have HT := Lib.hid ht
          have HTR := Lib.hid htr
          have HTL := Lib.hid (show t.size = d.length by rw [ht, txt_size])
          have HMM := Lib.hid hmm
          have hm1 : -2000000000 ≤ m := by omega
          have hm2 : m ≤ 2000000000 := by omega
          clear ht htr hmm
          by_cases h0 : t.size = 0
          · have E : trimR (rdD l) = d := by rw [← HTR.out]; exact trimR_end (by have := HTL.out; omega)
            have E2 : m = rdN l := by have := HMM.out; have := HTL.out; unfold rdN; rw [HPN.out, E]; omega
            have HE := Lib.hid E
            have HE2 := Lib.hid E2
            clear E E2
            go_wp2_with fail
            go_meet
            exact ⟨by rw [HE2.out], by rw [HT.out, HE.out], HBW.out⟩
          · obtain ⟨n, hn⟩ : ∃ n, t.size = n + 1 := ⟨t.size - 1, by omega⟩
            have HN := Lib.hid hn
            have hx := txt_at HT.out (k := n)
            have hxn : n < t.size := by omega
            clear h0
            by_cases g : bt d n = 48
            · have E := Lib.hid (show trimR d = trimR (d.take n) by
                have := HTL.out
                have e : d.length - 1 = n := by omega
                rw [trimR_on (by omega) (by rw [e]; exact g), e])
              have ET := Lib.hid (show t.extract 0 n = txt (d.take n) by rw [HT.out, txt_take])
              go_wp2_with fail
              go_round
              case rel => exact ⟨d.take n, m + 1, _, rfl, rfl, ET.out, by rw [ET.out, txt_size]; simp; omega, by rw [← E.out, HTR.out], by have := HMM.out; have := HTL.out; rw [ET.out, txt_size]; simp; omega⟩
              case measure =>
              rw [ET.out]
              show (txt (d.take n)).size < t.size
              rw [txt_size]; have := HTL.out; simp; omega
            · have E : trimR (rdD l) = d := by
                rw [← HTR.out]; refine trimR_end (fun h => g ?_)
                have := HTL.out
                rw [show n = d.length - 1 by omega]; exact h.2
              have E2 : m = rdN l := by have := HMM.out; have := HTL.out; unfold rdN; rw [HPN.out, E]; omega
              have HE := Lib.hid E
              have HE2 := Lib.hid E2
              clear E E2
              go_wp2_with fail
              go_meet
              exact ⟨by rw [HE2.out], by rw [HT.out, HE.out], HBW.out⟩
      case rest =>
        obtain ⟨rfl, rfl, hbw⟩ := hcut
        have HBW2 := Lib.hid hbw
        clear hbw
        go_upto_block 2 with fail
        go_cut [7] (fun y wx => y = .string (txt (rdT l)) ∧ Below w.heap.size w wx)
        case first =>
          have hts0 : (txt (trimR (rdD l))).size ≤ 2000000 := by have := trimR_len (rdD l); rw [txt_size]; omega
          have HT0 := Lib.hid (show ∀ t, txt (trimR (rdD l)) = t → t = txt (trimR (rdD l)) ∧ t.size ≤ 2000000 from fun t h => ⟨h.symm, h ▸ hts0⟩)
          generalize hgt : txt (trimR (rdD l)) = t0
          have HG := Lib.hid hgt
          clear hgt hts0
          go_wp2_with fail
          go_loop [7] (fun y => ∃ (d : List UInt8) (t : ByteArray), y = .string t ∧ t = txt d ∧ t.size ≤ 2000000 ∧ trimL d = rdT l) (fun y => match y with | .string t => t.size | _ => 0)
          case atStart => exact ⟨trimR (rdD l), _, rfl, HG.out.symm, (HT0.out _ HG.out).2, rfl⟩
          case round =>
            obtain ⟨d, t, rfl, ht, hts, htr⟩ := hrel
            have HT := Lib.hid ht
            have HTR := Lib.hid htr
            have HTL := Lib.hid (show t.size = d.length by rw [ht, txt_size])
            clear ht htr
            by_cases h0 : t.size = 0
            · have HE := Lib.hid (show rdT l = d by rw [← HTR.out]; exact trimL_end (by have := HTL.out; omega))
              go_wp2_with fail
              go_meet
              exact ⟨by rw [HT.out, HE.out], HBW2.out⟩
            · have hx := txt_at HT.out (k := 0)
              have hxn : 0 < t.size := by omega
              clear h0
              by_cases g : bt d 0 = 48
              · have E := Lib.hid (show trimL d = trimL (d.drop 1) from trimL_on (by have := HTL.out; omega) g)
                have ET := Lib.hid (show t.extract 1 t.size = txt (d.drop 1) by rw [HT.out, txt_drop])
                go_wp2_with fail
                go_round
                case rel => exact ⟨d.drop 1, _, rfl, ET.out, by rw [ET.out, txt_size]; have := HTL.out; simp; omega, by rw [← E.out, HTR.out]⟩
                case measure =>
                  rw [ET.out]
                  show (txt (d.drop 1)).size < t.size
                  rw [txt_size]; have := HTL.out; simp; omega
              · have HE := Lib.hid (show rdT l = d by
                  rw [← HTR.out]; exact trimL_end (fun h => g h.2))
                go_wp2_with fail
                go_meet
                exact ⟨by rw [HT.out, HE.out], HBW2.out⟩
        case rest =>
          obtain ⟨rfl, hbw⟩ := hcut
          have HBW3 := Lib.hid hbw
          clear hbw
          go_upto_if 72 with fail
          rw [txt_list]
          by_cases hT : rdT l = []
          · have HT := Lib.hid hT
            have E := Lib.hid (rd_zero HB.out HPB.out hT)
            rw [show (rdT l).isEmpty = true by rw [hT]; rfl]
            clear hT
            go_wp2_with fail
            go_ret2
            exact ⟨ret_sc (by rw [E.out]; rfl) (by rw [E.out]), HBW3.out⟩
          · have HT := Lib.hid hT
            have hTs : (txt (rdT l)).size ≤ 2000000 := by have := trimL_len (trimR (rdD l)); have := trimR_len (rdD l); rw [txt_size]; unfold rdT; omega
            have hNb : -2000000000 ≤ rdN l ∧ rdN l ≤ 3000000000 := by have := trimR_len (rdD l); unfold rdN; rw [HPN.out]; have := HM.out; omega
            rw [show (rdT l).isEmpty = false by cases h : rdT l with | nil => exact absurd h hT | cons => rfl]
            clear hT
            obtain ⟨hN1, hN2⟩ := hNb
            obtain ⟨N, hN⟩ : ∃ N, rdN l = N := ⟨_, rfl⟩
            rw [hN] at hN1 hN2 ⊢
            have HN := Lib.hid hN
            clear hN
            by_cases h1 : N > 1000000000
            · have E := Lib.hid (rd_far HB.out HPB.out HT.out (Or.inl (by rw [HN.out]; exact h1)))
              go_wp2_with fail
              go_ret2
              exact ⟨ret_sc (by rw [E.out]; rfl) (by rw [E.out]), HBW3.out⟩
            · by_cases h2 : N < -1000000000
              · have E := Lib.hid (rd_far HB.out HPB.out HT.out (Or.inr (by rw [HN.out]; exact h2)))
                go_wp2_with fail
                go_ret2
                exact ⟨ret_sc (by rw [E.out]; rfl) (by rw [E.out]), HBW3.out⟩
              · have E := Lib.hid (rd_ok HB.out HPB.out HT.out (by rw [HN.out]; exact fun h => h.elim h1 h2))
                have hs0 : 0 < s.size := by have := isB_size HB.out; have := HZ.out; omega
                have hx := txt_at HS.out (k := 0)
                have hiL : (txt (itoL N)).size ≤ 1000000003 := by have := itoL_len (n := N) (by omega) (by omega); rw [txt_size]; exact this
                have I := Lib.hid (fun w => itoa_any N (by omega) (by omega) w)
                by_cases g : bt l 0 = 45
                · have HGT := Lib.hid (show ByteArray.mk #[45] ++ txt (rdT l) ++ ByteArray.mk #[101] ++ txt (itoL N) = txt (rd l).1 by
                    rw [E.out, HN.out, if_pos g]
                    show txt [45] ++ txt (rdT l) ++ txt [101] ++ txt (itoL N) = _
                    rw [txt_app, txt_app, txt_app])
                  go_wp2_with fail
                  refine (I.out _).mono ?_
                  rintro e w4 ⟨rfl, hb4⟩
                  have HB4 := Lib.hid hb4
                  clear hb4
                  go_wp2_with fail
                  go_ret2
                  exact ⟨ret_sc HGT.out (by rw [E.out]), HBW3.out.trans (HB4.out.mono HBW3.out.size)⟩
                · have HGT := Lib.hid (show txt (rdT l) ++ ByteArray.mk #[101] ++ txt (itoL N) = txt (rd l).1 by
                    rw [E.out, HN.out, if_neg g]
                    show txt (rdT l) ++ txt [101] ++ txt (itoL N) = _
                    rw [txt_app, txt_app]; rfl)
                  go_wp2_with fail
                  refine (I.out _).mono ?_
                  rintro e w4 ⟨rfl, hb4⟩
                  have HB4 := Lib.hid hb4
                  clear hb4
                  go_wp2_with fail
                  go_ret2
                  exact ⟨ret_sc HGT.out (by rw [E.out]), HBW3.out.trans (HB4.out.mono HBW3.out.size)⟩
  · have hB : isB l = false := by simpa using hB
    rw [hB]
    clear hp
    have HB := Lib.hid hB
    have HB1 := Lib.hid hb1
    clear hB hb1
    go_wp2_with fail
    go_ret2
    exact ⟨ret_sc (by rw [rd_syntax HB.out]; rfl) (by rw [rd_syntax HB.out]), HB1.out.alloc HB1.out.size _⟩
end Go.Proofs.YthjlnafmpcppfaaGreatDoor
