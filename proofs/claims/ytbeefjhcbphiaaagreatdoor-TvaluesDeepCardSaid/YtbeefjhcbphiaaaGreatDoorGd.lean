/- The document's answer on Read, walked. -/
import Derived.Test.YtbeefjhcbphiaaaGreatDoorGc
import Derived.Deep.DeepCutAuto
import Derived.Lib.Strings
import Derived.Deep.LoopGhost
import Derived.Deep.QuietTactic
import Derived.BigQuiet
import Derived.Deep.CutBlock
namespace Go.Proofs.YtbeefjhcbphiaaaGreatDoor.De
open Go.RowKit

/-- The noughts at an end taken off. -/
def trimR (d : List UInt8) : List UInt8 := if 0 < d.length ∧ bt d (d.length - 1) = 48 then trimR (d.take (d.length - 1)) else d
termination_by d.length
decreasing_by simp; omega
def trimL (d : List UInt8) : List UInt8 := if 0 < d.length ∧ bt d 0 = 48 then trimL (d.drop 1) else d
termination_by d.length
decreasing_by simp; omega
/-- The numerals ahead of and behind the point. -/
def rdD (l : List UInt8) : List UInt8 := (l.take (q1 l)).drop (q0 l) ++ (l.take (q3 l)).drop (q2 l)
def rdT (l : List UInt8) : List UInt8 := trimL (trimR (rdD l))
/-- The exponent of the normal form. -/
def rdN (l : List UInt8) : Int := (powR l (q4 l) (q5 l)).1 - ((q3 l : Int) - q2 l) + (((rdD l).length : Int) - (trimR (rdD l)).length)
/-- The document's answer: text and code. -/
def rd (l : List UInt8) : List UInt8 × Int :=
  if isB l = false then ([], 3) else
  if (powR l (q4 l) (q5 l)).2 = false then ([], 7) else
  if rdT l = [] then ([48], 0) else
  if rdN l > 1000000000 ∨ rdN l < -1000000000 then ([], 7) else
  ((if bt l 0 = 45 then [45] else []) ++ rdT l ++ [101] ++ itoL (rdN l), 0)

theorem runE_nmr (l : List UInt8) (i : Nat) : ∀ k, i ≤ k → k < runE l i → nmr (bt l k) = true := by
  intro k hk hk2
  by_cases h : i < l.length ∧ nmr (bt l i) = true
  · rw [runE_on h.1 h.2] at hk2
    rcases Nat.eq_or_lt_of_le hk with h3 | h3
    · rw [← h3]; exact h.2
    · exact runE_nmr l (i + 1) k h3 hk2
  · rw [runE_end h] at hk2; omega
termination_by l.length - i
/-- What lies where. -/
theorem q_order {l : List UInt8} : q0 l ≤ q1 l ∧ q1 l ≤ q2 l ∧ q2 l ≤ q3 l ∧ q3 l ≤ q4 l ∧ q4 l ≤ q5 l ∧ q5 l ≤ l.length ∧ (q4 l < q5 l → 1 ≤ q4 l) ∧ ∀ k, q4 l ≤ k → k < q5 l → nmr (bt l k) = true := by
  have h0 : q0 l ≤ l.length := by
    unfold q0; split
    · rename_i h
      rcases Nat.eq_zero_or_pos l.length with h2 | h2
      · rw [bt_far (by omega)] at h; omega
      · omega
    · omega
  have h1 : q1 l ≤ l.length := runE_le l (q0 l) h0
  have h2 : q2 l ≤ l.length := by
    unfold q2; split
    · rename_i h
      rcases Nat.lt_or_ge (q1 l) l.length with h2 | h2
      · exact h2
      · unfold dot at h; rw [bt_far (by omega)] at h; cases h
    · exact h1
  have h23 : q2 l ≤ q3 l ∧ q3 l ≤ l.length := by
    unfold q3; split
    · exact ⟨runE_ge .., runE_le l _ h2⟩
    · rename_i h
      unfold q2; rw [if_neg h]; exact ⟨Nat.le_refl _, h1⟩
  have h4 : q3 l ≤ q4 l ∧ q4 l ≤ l.length := by
    unfold q4; split
    · rename_i h
      have hl : q3 l < l.length := by
        rcases Nat.lt_or_ge (q3 l) l.length with h2 | h2
        · exact h2
        · unfold exq at h; rw [bt_far (by omega)] at h; cases h
      split
      · rename_i hsg
        rcases Nat.lt_or_ge (q3 l + 1) l.length with h2 | h2
        · omega
        · unfold sgn at hsg; rw [bt_far (by omega)] at hsg; cases hsg
      · omega
    · omega
  have h5 : q4 l ≤ q5 l ∧ q5 l ≤ l.length ∧ (q4 l < q5 l → 1 ≤ q4 l) ∧ ∀ k, q4 l ≤ k → k < q5 l → nmr (bt l k) = true := by
    by_cases h : exq l = true
    · have e : q5 l = runE l (q4 l) := by unfold q5; rw [if_pos h]
      rw [e]
      refine ⟨runE_ge .., runE_le l _ h4.2, fun _ => ?_, runE_nmr l _⟩
      unfold q4; rw [if_pos h]; split <;> omega
    · have e : q5 l = q4 l := by unfold q5 q4; rw [if_neg h, if_neg h]
      rw [e]
      exact ⟨Nat.le_refl _, h4.2, fun h => by omega, fun k h1 h2 => by omega⟩
  exact ⟨runE_ge .., by unfold q2; split <;> omega, h23.1, h4.1, h5⟩
theorem powA_range (l : List UInt8) (e i : Nat) (n : Int) (hn : 0 ≤ n) (hb : n ≤ 1000000000) (hd : ∀ k, i ≤ k → k < e → nmr (bt l k) = true) : ∀ m, powA l e i n = some m → 0 ≤ m ∧ m ≤ 1000000000 := by
  intro m hm
  by_cases h : i < e
  · by_cases h2 : 10 * n + (bt l i - 48) > 1000000000
    · rw [powA_big h h2] at hm; cases hm
    · rw [powA_on h h2] at hm
      have h3 : 48 ≤ bt l i ∧ bt l i ≤ 57 := by simpa [nmr] using hd i (Nat.le_refl _) h
      exact powA_range l e (i + 1) _ (by omega) (by omega) (fun k h1 h2 => hd k (by omega) h2) m hm
  · rw [powA_end h] at hm; cases hm; exact ⟨hn, hb⟩
termination_by e - i
theorem powR_range (l : List UInt8) (i e : Nat) (hd : ∀ k, i ≤ k → k < e → nmr (bt l k) = true) : -1000000000 ≤ (powR l i e).1 ∧ (powR l i e).1 ≤ 1000000000 := by
  unfold powR
  split
  · simp
  · rename_i n h
    have := powA_range l e i 0 (by omega) (by omega) hd n h
    dsimp only
    split <;> omega
theorem trimR_on {d : List UInt8} (h : 0 < d.length) (h2 : bt d (d.length - 1) = 48) : trimR d = trimR (d.take (d.length - 1)) := by rw [trimR, if_pos ⟨h, h2⟩]
theorem trimR_end {d : List UInt8} (h : ¬ (0 < d.length ∧ bt d (d.length - 1) = 48)) : trimR d = d := by rw [trimR, if_neg h]
theorem trimL_on {d : List UInt8} (h : 0 < d.length) (h2 : bt d 0 = 48) : trimL d = trimL (d.drop 1) := by rw [trimL, if_pos ⟨h, h2⟩]
theorem trimL_end {d : List UInt8} (h : ¬ (0 < d.length ∧ bt d 0 = 48)) : trimL d = d := by rw [trimL, if_neg h]
theorem trimR_len (d : List UInt8) : (trimR d).length ≤ d.length := by
  by_cases h : 0 < d.length ∧ bt d (d.length - 1) = 48
  · rw [trimR_on h.1 h.2]; have := trimR_len (d.take (d.length - 1)); simp at *; omega
  · rw [trimR_end h]; exact Nat.le_refl _
termination_by d.length
decreasing_by simp; omega
theorem trimL_len (d : List UInt8) : (trimL d).length ≤ d.length := by
  by_cases h : 0 < d.length ∧ bt d 0 = 48
  · rw [trimL_on h.1 h.2]; have := trimL_len (d.drop 1); simp at *; omega
  · rw [trimL_end h]; exact Nat.le_refl _
termination_by d.length
decreasing_by simp; omega
theorem txt_take (d : List UInt8) (n : Nat) : (txt d).extract 0 n = txt (d.take n) := by rw [txt_cut]; rfl
theorem txt_drop (d : List UInt8) (i : Nat) : (txt d).extract i (txt d).size = txt (d.drop i) := by rw [txt_cut, txt_size, List.take_length]
theorem rdD_len (l : List UInt8) : (rdD l).length ≤ 2 * l.length := by simp [rdD]; omega
theorem belowDrewN {B : Nat} {a w : World} (h : Below B a w) (k : Nat) : Below B a (w.drewN k) := ⟨h.os, h.tape, h.output, h.size, h.block⟩
theorem rd_syntax {l : List UInt8} (h : isB l = false) : rd l = ([], 3) := by unfold rd; rw [if_pos h]
theorem rd_exp {l : List UInt8} (h : isB l = true) (h2 : (powR l (q4 l) (q5 l)).2 = false) : rd l = ([], 7) := by unfold rd; rw [if_neg (by rw [h]; simp), if_pos h2]
theorem rd_zero {l : List UInt8} (h : isB l = true) (h2 : (powR l (q4 l) (q5 l)).2 = true) (h3 : rdT l = []) : rd l = ([48], 0) := by unfold rd; rw [if_neg (by rw [h]; simp), if_neg (by rw [h2]; simp), if_pos h3]
theorem rd_far {l : List UInt8} (h : isB l = true) (h2 : (powR l (q4 l) (q5 l)).2 = true) (h3 : rdT l ≠ []) (h4 : rdN l > 1000000000 ∨ rdN l < -1000000000) : rd l = ([], 7) := by
  unfold rd; rw [if_neg (by rw [h]; simp), if_neg (by rw [h2]; simp), if_neg h3, if_pos h4]
theorem rd_ok {l : List UInt8} (h : isB l = true) (h2 : (powR l (q4 l) (q5 l)).2 = true) (h3 : rdT l ≠ []) (h4 : ¬ (rdN l > 1000000000 ∨ rdN l < -1000000000)) : rd l = ((if bt l 0 = 45 then [45] else []) ++ rdT l ++ [101] ++ itoL (rdN l), 0) := by
  unfold rd; rw [if_neg (by rw [h]; simp), if_neg (by rw [h2]; simp), if_neg h3, if_neg h4]
theorem itoL_len {n : Int} (h1 : -1000000000 ≤ n) (h2 : n ≤ 1000000000) : (itoL n).length ≤ 1000000003 := by
  unfold itoL; split
  · have := itoN_len (-n).toNat; simp; omega
  · have := itoN_len n.toNat; omega
theorem txt_list (l : List UInt8) : (txt l).toList = l := by rw [Lib.toList_data]; rfl
theorem isB_size {l : List UInt8} (h : isB l = true) : q0 l < q1 l ∧ 0 < l.length := by
  have ⟨o1, o2, o3, o4, o5, o6, _, _⟩ := q_order (l := l)
  have hb : bad1 l = false := by
    unfold isB at h
    cases h2 : bad1 l
    · rfl
    · rw [h2] at h; simp at h
  unfold bad1 at hb
  have hb2 := of_decide_eq_false hb
  have : q1 l ≠ q0 l := fun e => hb2 (Or.inl e)
  omega
end Go.Proofs.YtbeefjhcbphiaaaGreatDoor.De
/- The document's answer on Read, walked. -/
namespace Go.Proofs.YtbeefjhcbphiaaaGreatDoor.De
open Go.RowKit

theorem ret_sc {a b : ByteArray} {x y : Int} (h : a = b) (h' : x = y) : Ending.returned (.tuple #[.string a, .int .i64 x]) = .returned (.tuple #[.string b, .int .i64 y]) := by rw [h, h']
set_option maxHeartbeats 1000000 in
theorem read_any {l : List UInt8} {s : ByteArray} (w : World) (hs : s = txt l) (hm : l.length ≤ 1000000) :
    Calls Tryz.prog 93 #[.string s] w fun e w' => e = .returned (.tuple #[.string (txt (rd l).1), .int .i64 (rd l).2]) ∧ Below w.heap.size w w' := by
  have HZ := Lib.hid (show s.size = l.length by rw [hs, txt_size])
  have HS := Lib.hid hs
  have HM := Lib.hid hm
  have hsz : s.size ≤ 1000000 := by have := HZ.out; omega
  obtain ⟨o1, o2, o3, o4, o5, o6, o7, o8⟩ := q_order (l := l)
  have ⟨r1, r2⟩ := powR_range l (q4 l) (q5 l) o8
  have O7 := Lib.hid o7
  have O8 := Lib.hid o8
  have o6' : q5 l ≤ s.size := by have := HZ.out; omega
  clear hs hm o6 o7 o8
  go_enter Tryz.func93, Tryz.ntmps93
  go_wp2_with fail
  refine (is_any w HS.out HM.out).mono ?_
  rintro e w1 ⟨a, b, c, d, f, g, rfl, hp, hb1⟩
  by_cases hB : isB l = true
  · obtain ⟨rfl, rfl, rfl, rfl, rfl, rfl⟩ := hp hB
    have HB := Lib.hid hB
    have HB1 := Lib.hid hb1
    rw [hB]
    clear hB hp hb1
    go_wp2_with fail
    refine (power_any _ _ _ _ (q4 l) (q5 l) _ HS.out o5 (by have := HZ.out; omega) HM.out O8.out O7.out).mono ?_
    rintro e w2 ⟨rfl, rfl⟩
    obtain ⟨pn, hpn⟩ : ∃ x, (powR l (q4 l) (q5 l)).1 = x := ⟨_, rfl⟩
    obtain ⟨pb, hpb⟩ : ∃ x, (powR l (q4 l) (q5 l)).2 = x := ⟨_, rfl⟩
    rw [hpn] at r1 r2 ⊢
    rw [hpb]
    have HPN := Lib.hid hpn
    have HPB := Lib.hid hpb
    clear hpn hpb
    cases pb
    · go_wp2_with fail
      go_ret2
      exact ⟨ret_sc (by rw [rd_exp HB.out HPB.out]; rfl) (by rw [rd_exp HB.out HPB.out]), (HB1.out.alloc HB1.out.size _).alloc (Nat.le_trans HB1.out.size (by simp)) _⟩
    · go_upto_region 7 with fail
      have HDT := Lib.hid (show s.extract (q0 l) (q1 l) ++ s.extract (q2 l) (q3 l) = txt (rdD l) by rw [HS.out, txt_cut, txt_cut, txt_app]; rfl)
      have hdl : (rdD l).length ≤ 2000000 := by have := rdD_len l; have := HM.out; omega
      go_quiet (fail)
      go_upto_block 0 with fail
      have HBW := Lib.hid (belowDrewN ((HB1.out.alloc HB1.out.size (six (q0 l) (q1 l) (q2 l) (q3 l) (q4 l) (q5 l))).alloc (Nat.le_trans HB1.out.size (by simp)) (six (q0 l) (q1 l) (q2 l) (q3 l) (q4 l) (q5 l))) nq)
      go_cut [6, 7] (fun x y wx => x = .int .i64 (rdN l) ∧ y = .string (txt (trimR (rdD l))) ∧ Below w.heap.size w wx)
      case first =>
        go_wp2_with fail
        go_loop [6, 7] (fun x y => ∃ (d : List UInt8) (m : Int) (t : ByteArray), x = .int .i64 m ∧ y = .string t ∧ t = txt d ∧ t.size ≤ (rdD l).length ∧ trimR d = trimR (rdD l) ∧ m = pn - ((q3 l : Int) - q2 l) + ((rdD l).length - t.size)) (fun _ y => match y with | .string t => t.size | _ => 0)
        case atStart => exact ⟨rdD l, _, _, rfl, rfl, HDT.out, by rw [HDT.out, txt_size]; exact Nat.le_refl _, rfl, by rw [HDT.out, txt_size]; omega⟩
        case round =>
          obtain ⟨d, m, t, rfl, rfl, ht, hts, htr, hmm⟩ := hrel
          have HT := Lib.hid ht
          have HTR := Lib.hid htr
          have HTL := Lib.hid (show t.size = d.length by rw [ht, txt_size])
          have HMM := Lib.hid hmm
          have hm1 : -2000000000 ≤ m := by omega
          have hm2 : m ≤ 2000000000 := by omega
          clear ht htr hmm
          by_cases h0 : t.size = 0
          · have E : trimR (rdD l) = d := by rw [← HTR.out]; exact trimR_end (by have := HTL.out; omega)
            have E2 : m = rdN l := by have := HMM.out; have := HTL.out; unfold rdN; rw [HPN.out, E]; omega
            have HE := Lib.hid E
            have HE2 := Lib.hid E2
            clear E E2
            go_wp2_with fail
            go_meet
            exact ⟨by rw [HE2.out], by rw [HT.out, HE.out], HBW.out⟩
          · obtain ⟨n, hn⟩ : ∃ n, t.size = n + 1 := ⟨t.size - 1, by omega⟩
            have HN := Lib.hid hn
            have hx := txt_at HT.out (k := n)
            have hxn : n < t.size := by omega
            clear h0
            by_cases g : bt d n = 48
            · have E := Lib.hid (show trimR d = trimR (d.take n) by
                have := HTL.out
                have e : d.length - 1 = n := by omega
                rw [trimR_on (by omega) (by rw [e]; exact g), e])
              have ET := Lib.hid (show t.extract 0 n = txt (d.take n) by rw [HT.out, txt_take])
              go_wp2_with fail
              go_round
              case rel => exact ⟨d.take n, m + 1, _, rfl, rfl, ET.out, by rw [ET.out, txt_size]; simp; omega, by rw [← E.out, HTR.out], by have := HMM.out; have := HTL.out; rw [ET.out, txt_size]; simp; omega⟩
              case measure =>
              rw [ET.out]
              show (txt (d.take n)).size < t.size
              rw [txt_size]; have := HTL.out; simp; omega
            · have E : trimR (rdD l) = d := by
                rw [← HTR.out]; refine trimR_end (fun h => g ?_)
                have := HTL.out
                rw [show n = d.length - 1 by omega]; exact h.2
              have E2 : m = rdN l := by have := HMM.out; have := HTL.out; unfold rdN; rw [HPN.out, E]; omega
              have HE := Lib.hid E
              have HE2 := Lib.hid E2
              clear E E2
              go_wp2_with fail
              go_meet
              exact ⟨by rw [HE2.out], by rw [HT.out, HE.out], HBW.out⟩
      case rest =>
        obtain ⟨rfl, rfl, hbw⟩ := hcut
        have HBW2 := Lib.hid hbw
        clear hbw
        go_upto_block 2 with fail
        go_cut [7] (fun y wx => y = .string (txt (rdT l)) ∧ Below w.heap.size w wx)
        case first =>
          have hts0 : (txt (trimR (rdD l))).size ≤ 2000000 := by have := trimR_len (rdD l); rw [txt_size]; omega
          have HT0 := Lib.hid (show ∀ t, txt (trimR (rdD l)) = t → t = txt (trimR (rdD l)) ∧ t.size ≤ 2000000 from fun t h => ⟨h.symm, h ▸ hts0⟩)
          generalize hgt : txt (trimR (rdD l)) = t0
          have HG := Lib.hid hgt
          clear hgt hts0
          go_wp2_with fail
          go_loop [7] (fun y => ∃ (d : List UInt8) (t : ByteArray), y = .string t ∧ t = txt d ∧ t.size ≤ 2000000 ∧ trimL d = rdT l) (fun y => match y with | .string t => t.size | _ => 0)
          case atStart => exact ⟨trimR (rdD l), _, rfl, HG.out.symm, (HT0.out _ HG.out).2, rfl⟩
          case round =>
            obtain ⟨d, t, rfl, ht, hts, htr⟩ := hrel
            have HT := Lib.hid ht
            have HTR := Lib.hid htr
            have HTL := Lib.hid (show t.size = d.length by rw [ht, txt_size])
            clear ht htr
            by_cases h0 : t.size = 0
            · have HE := Lib.hid (show rdT l = d by rw [← HTR.out]; exact trimL_end (by have := HTL.out; omega))
              go_wp2_with fail
              go_meet
              exact ⟨by rw [HT.out, HE.out], HBW2.out⟩
            · have hx := txt_at HT.out (k := 0)
              have hxn : 0 < t.size := by omega
              clear h0
              by_cases g : bt d 0 = 48
              · have E := Lib.hid (show trimL d = trimL (d.drop 1) from trimL_on (by have := HTL.out; omega) g)
                have ET := Lib.hid (show t.extract 1 t.size = txt (d.drop 1) by rw [HT.out, txt_drop])
                go_wp2_with fail
                go_round
                case rel => exact ⟨d.drop 1, _, rfl, ET.out, by rw [ET.out, txt_size]; have := HTL.out; simp; omega, by rw [← E.out, HTR.out]⟩
                case measure =>
                  rw [ET.out]
                  show (txt (d.drop 1)).size < t.size
                  rw [txt_size]; have := HTL.out; simp; omega
              · have HE := Lib.hid (show rdT l = d by
                  rw [← HTR.out]; exact trimL_end (fun h => g h.2))
                go_wp2_with fail
                go_meet
                exact ⟨by rw [HT.out, HE.out], HBW2.out⟩
        case rest =>
          obtain ⟨rfl, hbw⟩ := hcut
          have HBW3 := Lib.hid hbw
          clear hbw
          go_upto_if 72 with fail
          rw [txt_list]
          by_cases hT : rdT l = []
          · have HT := Lib.hid hT
            have E := Lib.hid (rd_zero HB.out HPB.out hT)
            rw [show (rdT l).isEmpty = true by rw [hT]; rfl]
            clear hT
            go_wp2_with fail
            go_ret2
            exact ⟨ret_sc (by rw [E.out]; rfl) (by rw [E.out]), HBW3.out⟩
          · have HT := Lib.hid hT
            have hTs : (txt (rdT l)).size ≤ 2000000 := by have := trimL_len (trimR (rdD l)); have := trimR_len (rdD l); rw [txt_size]; unfold rdT; omega
            have hNb : -2000000000 ≤ rdN l ∧ rdN l ≤ 3000000000 := by have := trimR_len (rdD l); unfold rdN; rw [HPN.out]; have := HM.out; omega
            rw [show (rdT l).isEmpty = false by cases h : rdT l with | nil => exact absurd h hT | cons => rfl]
            clear hT
            obtain ⟨hN1, hN2⟩ := hNb
            obtain ⟨N, hN⟩ : ∃ N, rdN l = N := ⟨_, rfl⟩
            rw [hN] at hN1 hN2 ⊢
            have HN := Lib.hid hN
            clear hN
            by_cases h1 : N > 1000000000
            · have E := Lib.hid (rd_far HB.out HPB.out HT.out (Or.inl (by rw [HN.out]; exact h1)))
              go_wp2_with fail
              go_ret2
              exact ⟨ret_sc (by rw [E.out]; rfl) (by rw [E.out]), HBW3.out⟩
            · by_cases h2 : N < -1000000000
              · have E := Lib.hid (rd_far HB.out HPB.out HT.out (Or.inr (by rw [HN.out]; exact h2)))
                go_wp2_with fail
                go_ret2
                exact ⟨ret_sc (by rw [E.out]; rfl) (by rw [E.out]), HBW3.out⟩
              · have E := Lib.hid (rd_ok HB.out HPB.out HT.out (by rw [HN.out]; exact fun h => h.elim h1 h2))
                have hs0 : 0 < s.size := by have := isB_size HB.out; have := HZ.out; omega
                have hx := txt_at HS.out (k := 0)
                have hiL : (txt (itoL N)).size ≤ 1000000003 := by have := itoL_len (n := N) (by omega) (by omega); rw [txt_size]; exact this
                have I := Lib.hid (fun w => itoa_any N (by omega) (by omega) w)
                by_cases g : bt l 0 = 45
                · have HGT := Lib.hid (show ByteArray.mk #[45] ++ txt (rdT l) ++ ByteArray.mk #[101] ++ txt (itoL N) = txt (rd l).1 by
                    rw [E.out, HN.out, if_pos g]
                    show txt [45] ++ txt (rdT l) ++ txt [101] ++ txt (itoL N) = _
                    rw [txt_app, txt_app, txt_app])
                  go_wp2_with fail
                  refine (I.out _).mono ?_
                  rintro e w4 ⟨rfl, hb4⟩
                  have HB4 := Lib.hid hb4
                  clear hb4
                  go_wp2_with fail
                  go_ret2
                  exact ⟨ret_sc HGT.out (by rw [E.out]), HBW3.out.trans (HB4.out.mono HBW3.out.size)⟩
                · have HGT := Lib.hid (show txt (rdT l) ++ ByteArray.mk #[101] ++ txt (itoL N) = txt (rd l).1 by
                    rw [E.out, HN.out, if_neg g]
                    show txt (rdT l) ++ txt [101] ++ txt (itoL N) = _
                    rw [txt_app, txt_app]; rfl)
                  go_wp2_with fail
                  refine (I.out _).mono ?_
                  rintro e w4 ⟨rfl, hb4⟩
                  have HB4 := Lib.hid hb4
                  clear hb4
                  go_wp2_with fail
                  go_ret2
                  exact ⟨ret_sc HGT.out (by rw [E.out]), HBW3.out.trans (HB4.out.mono HBW3.out.size)⟩
  · have hB : isB l = false := by simpa using hB
    rw [hB]
    clear hp
    have HB := Lib.hid hB
    have HB1 := Lib.hid hb1
    clear hB hb1
    go_wp2_with fail
    go_ret2
    exact ⟨ret_sc (by rw [rd_syntax HB.out]; rfl) (by rw [rd_syntax HB.out]), HB1.out.alloc HB1.out.size _⟩
end Go.Proofs.YtbeefjhcbphiaaaGreatDoor.De
/- Lists of the parts of a normal form. -/
namespace Go.Proofs.YtbeefjhcbphiaaaGreatDoor.De
open Go.RowKit

def norm (l : List UInt8) : Bool := decide ((rd l).2 = 0) && decide ((rd l).1 = l)
theorem leq (a b : List UInt8) : (a == b) = decide (a = b) := by rw [Bool.eq_iff_iff]; simp
/-- The document's answer on Parts: below nought?, the numerals, the exponent; is it a normal form? -/
def ptM (l : List UInt8) : Bool := norm l && (decide (l ≠ [48]) && decide (bt l 0 = 45))
def ptD (l : List UInt8) : List UInt8 := if norm l = false then [] else if l = [48] then [48] else (l.take (q1 l)).drop (q0 l)
def ptX (l : List UInt8) : Int := if norm l = false ∨ l = [48] then 0 else (powR l (q4 l) (q5 l)).1
end Go.Proofs.YtbeefjhcbphiaaaGreatDoor.De
/- Lists: less. -/
namespace Go.Proofs.YtbeefjhcbphiaaaGreatDoor.De
open Go.RowKit

/-- From place i on: which numerals come first? -/
def ltA (d e : List UInt8) (i : Nat) : Bool :=
  if i < d.length ∧ i < e.length then (if bt d i = bt e i then ltA d e (i + 1) else decide (bt d i < bt e i)) else decide (d.length < e.length)
termination_by d.length - i
theorem ltA_on {d e : List UInt8} {i : Nat} (h1 : i < d.length) (h2 : i < e.length) (h : bt d i = bt e i) : ltA d e i = ltA d e (i + 1) := by rw [ltA, if_pos ⟨h1, h2⟩, if_pos h]
theorem ltA_off {d e : List UInt8} {i : Nat} (h1 : i < d.length) (h2 : i < e.length) (h : ¬ bt d i = bt e i) : ltA d e i = decide (bt d i < bt e i) := by rw [ltA, if_pos ⟨h1, h2⟩, if_neg h]
theorem ltA_end {d e : List UInt8} {i : Nat} (h : ¬ (i < d.length ∧ i < e.length)) : ltA d e i = decide (d.length < e.length) := by rw [ltA, if_neg h]
/-- Which of two sizes is less: numerals and exponents. -/
def ltM (d : List UInt8) (x : Int) (e : List UInt8) (y : Int) : Bool :=
  if x + d.length = y + e.length then ltA d e 0 else decide (x + d.length < y + e.length)
end Go.Proofs.YtbeefjhcbphiaaaGreatDoor.De
