/- The law DecimalsValue, walked. -/
import Derived.Test.YtbbcjnbpghjklaaDoorSmall2
import Derived.Deep.CutBlock
namespace Go.Proofs.YtbbcjnbpghjklaaDoor
open Go.RowKit

theorem raise_bd {n : Int} (h1 : -2147483648 ≤ n) (h2 : n ≤ 2147483648) (j : Nat) (hj : j ≤ 8) : -214748364800000000 ≤ n * 10 ^ j ∧ n * 10 ^ j ≤ 214748364800000000 := by
  have : j = 0 ∨ j = 1 ∨ j = 2 ∨ j = 3 ∨ j = 4 ∨ j = 5 ∨ j = 6 ∨ j = 7 ∨ j = 8 := by omega
  rcases this with rfl | rfl | rfl | rfl | rfl | rfl | rfl | rfl | rfl <;> simp <;> omega
theorem raise_any {n : Int} {k : Nat} (w : World) (h1 : -2147483648 ≤ n) (h2 : n ≤ 2147483648) (hk : k ≤ 8) {y : Int} (hy : y = n * 10 ^ k) :
    Calls Tryd.prog 18 #[.int .i64 n, .int .i64 k] w fun e w' => e = .returned (.int .i64 y) ∧ w = w' := by
  have HB := Lib.hid (raise_bd h1 h2)
  have HY := Lib.hid hy
  clear hy h1 h2
  go_enter Tryd.func18, Tryd.ntmps18
  go_wp2
  go_loop [0, 5] (fun x i => ∃ (j : Nat) (z : Int), j ≤ k ∧ i = .int .i64 j ∧ x = .int .i64 z ∧ z = n * 10 ^ j) (fun _ i => k - (intOf i).toNat)
  case atStart => exact ⟨0, n, Nat.zero_le _, rfl, rfl, by simp⟩
  case round =>
    obtain ⟨j, z, hj, rfl, rfl, hz⟩ := hrel
    have hb := HB.out j (by omega)
    rw [← hz] at hb
    have HZ := Lib.hid hz
    clear hz
    obtain ⟨hb1, hb2⟩ := hb
    by_cases hlt : j < k
    · go_wp2
      go_round
      case rel => exact ⟨j + 1, 10 * z, by omega, by go_num, by go_num, by rw [HZ.out, Int.pow_succ, Int.mul_comm 10 (n * 10 ^ j), Int.mul_assoc]⟩
      case measure => simp [intOf]; omega
    · obtain rfl : j = k := by omega
      go_wp2
      go_ret
      exact ⟨ret_int (by rw [HY.out, HZ.out]), rfl⟩
theorem format_is {n : Int} {x : ByteArray} (hx : x = txt (itoL n)) (h0 : -9223372036854775808 ≤ n) (h1 : n ≤ 9223372036854775807) (w : World) (ht : Tab w) :
    Calls Tryd.prog 19 #[.int .i64 n, .int .i64 10] w fun e w' => e = .returned (.string x) ∧ Below w.heap.size w w' := by
  refine (Tryd.strconv_FormatInt_10 n h0 h1 w ht).mono ?_
  rintro e w' ⟨rfl, k, os, rfl⟩
  exact ⟨by rw [hx, itoL_itoa]; rfl, ⟨rfl, rfl, rfl, by simp [Sort.grow], fun j hj => Sort.heap_grow_old _ _ hj⟩⟩
theorem neg_is {n : Int} {x : ByteArray} {q : Bool} (hx : x = txt (itoL n)) (hq : q = decide (n < 0)) (w : World) :
    Calls Tryd.prog 30 #[.string x, .string ⟨#[45]⟩] w fun e w' => e = .returned (.bool q) ∧ w = w' := by
  refine (Tryd.strings_HasPrefix x ⟨#[45]⟩ w).mono ?_
  rintro e w' ⟨rfl, rfl⟩
  refine ⟨ret_bool ?_, rfl⟩
  rw [hq, hx]
  show Lib.hasPrefix (itoL n) [45] = _
  obtain ⟨d1, _, d3⟩ := itoN_spec n.natAbs
  rw [itoL_sg]
  by_cases h : n < 0
  · simp [h, sg, Lib.hasPrefix]
  · cases hd : itoN n.natAbs with
    | nil => exact absurd hd d3
    | cons y r =>
      have hy := nbN (d1 y (by rw [hd]; simp))
      have hne : ¬ (45 : UInt8) = y := by intro e; subst e; simp at hy
      simp [h, sg, Lib.hasPrefix, List.isPrefixOf, hne]
theorem ret_si {a b : ByteArray} {x y u v : Int} (h : a = b) (h1 : x = y) (h2 : u = v) : Ending.returned (.tuple #[.string a, .int .i64 x, .int .i64 u]) = .returned (.tuple #[.string b, .int .i64 y, .int .i64 v]) := by rw [h, h1, h2]
set_option maxHeartbeats 2000000 in
theorem small_any {n c : Int} {k : Nat} (w : World) (htab : Tab w) (h1 : -2147483648 ≤ n) (h2 : n ≤ 2147483647) (hk : c.tmod 9 = k) (hk8 : k ≤ 8) (hc1 : 0 ≤ c) (hc2 : c ≤ 255) :
    Calls Tryd.prog 15 #[.int .i32 n, .int .u8 c] w fun e w' => e = .returned (.tuple #[.string (txt (smL n k)), .int .i64 n, .int .i64 k]) ∧ Below w.heap.size w w' := by
  obtain ⟨x, hx⟩ : ∃ x, x = txt (itoL n) := ⟨_, rfl⟩
  obtain ⟨q, hq⟩ : ∃ q, q = decide (n < 0) := ⟨_, rfl⟩
  have FI := Lib.hid (fun w h => format_is hx (by omega) (by omega) w h)
  have NG := Lib.hid (fun w => neg_is hx hq w)
  have hN20 : (itoN n.natAbs).length ≤ 20 := itoN_short2 (by omega)
  have hxl : x.size ≤ 21 := by
    rw [hx, txt_size, itoL_sg]
    have : (sg (decide (n < 0))).length ≤ 1 := by unfold sg; split <;> simp
    simp; omega
  have HX0 := Lib.hid (show q = false → x = txt (itoN n.natAbs) by
    intro h; rw [hx, itoL_sg, ← hq, h]; rfl)
  have HX1 := Lib.hid (show q = true → 1 ≤ x.size ∧ x.extract 1 x.size = txt (itoN n.natAbs) by
    intro h
    have e : itoL n = [45] ++ itoN n.natAbs := by rw [itoL_sg, ← hq, h]; rfl
    rw [hx, e]
    exact ⟨by rw [txt_size]; simp, by rw [txt_drop]; rfl⟩)
  have HQ := Lib.hid hq
  have HT := Lib.hid htab
  have HN := Lib.hid hN20
  have hc : IntKind.i64.wrap c = c := IntWalk.i64_in _ (by omega)
  clear hx hq htab hN20
  go_enter Tryd.func15, Tryd.ntmps15
  go_wp2_with fail
  refine (FI.out _ HT.out).mono ?_
  rintro e w1 ⟨rfl, hb1⟩
  have HB := Lib.hid hb1
  clear hb1
  go_wp2_with fail
  refine (NG.out _).mono ?_
  rintro e w2 ⟨rfl, rfl⟩
  clear FI NG HT
  go_upto_if 18 with fail
  go_cut [8] (fun v wx => v = .string (txt (itoN n.natAbs)) ∧ w1 = wx)
  case first =>
    cases q
    · have E := Lib.hid (HX0.out rfl)
      go_wp2_with fail
      go_meet
      exact ⟨by rw [E.out], rfl⟩
    · obtain ⟨g1, g2⟩ := HX1.out rfl
      have E := Lib.hid g2
      clear g2
      go_wp2_with fail
      go_meet
      exact ⟨by rw [E.out], rfl⟩
  case rest =>
    obtain ⟨rfl, rfl⟩ := hcut
    clear HX0 HX1
    obtain ⟨t0, ht0⟩ : ∃ t, t = txt (itoN n.natAbs) := ⟨_, rfl⟩
    rw [← ht0]
    have HT0 := Lib.hid ht0
    have h0l : t0.size ≤ 20 := by rw [ht0, txt_size]; exact HN.out
    clear ht0
    go_wp2_with fail
    go_loop [8] (fun v => ∃ (D : List UInt8) (t : ByteArray), v = .string t ∧ t = txt D ∧ t.size ≤ 30 ∧ pad k D = smD n k) (fun v => match v with | .string t => k + 1 - t.size | _ => 0)
    case atStart => exact ⟨_, t0, rfl, HT0.out, by omega, rfl⟩
    case round =>
      obtain ⟨D, t, rfl, ht, hts, hp⟩ := hrel
      have HTT := Lib.hid ht
      have HP := Lib.hid hp
      have HTL := Lib.hid (show t.size = D.length by rw [ht, txt_size])
      clear ht hp
      by_cases hlt : t.size ≤ k
      · have hlt' : (t.size : Int) ≤ k := by omega
        have ET := Lib.hid (show ByteArray.mk #[48] ++ t = txt (48 :: D) by rw [HTT.out]; show txt [48] ++ txt D = _; rw [txt_app]; rfl)
        have n1 : ¬ (9223372036854775807 < 1 + t.size) := by omega
        have n1' : ¬ (9223372036854775807 < ByteArray.size ⟨#[48]⟩ + t.size) := by show ¬ (9223372036854775807 < 1 + t.size); omega
        go_wp2_with fail
        go_round
        case rel => exact ⟨48 :: D, _, rfl, ET.out, by rw [ByteArray.size_append]; show 1 + t.size ≤ 30; omega, by rw [← pad_on (by have := HTL.out; omega), HP.out]⟩
        case measure =>
          show k + 1 - (ByteArray.mk #[48] ++ t).size < k + 1 - t.size
          rw [ByteArray.size_append]; show k + 1 - (1 + t.size) < _; omega
      · have hlt' : ¬ (t.size : Int) ≤ k := by omega
        have E := Lib.hid (show t = txt (smD n k) by rw [HTT.out, ← HP.out, pad_end (by have := HTL.out; omega)])
        have hsz : t.size = (smD n k).length := by rw [E.out, txt_size]
        have HS := Lib.hid hsz
        clear hsz
        go_upto_if 28 with fail
        go_cut [8] (fun v wx => v = .string (txt (smW n k ++ smP n k)) ∧ Below w.heap.size w wx)
        case first =>
          by_cases h0 : 0 < k
          · obtain ⟨a, ha⟩ : ∃ a : Int, (t.size : Int) - k = a := ⟨_, rfl⟩
            have ha0 : 0 ≤ a := by omega
            have ha1 : a ≤ t.size := by omega
            have hw : IntKind.i64.wrap (t.size - k) = a := by rw [IntWalk.i64_in _ (by omega), ha]
            have h0' : (0 : Int) < k := by omega
            have ht1 : (t.extract 0 a.toNat ++ ByteArray.mk #[46]) ++ t.extract a.toNat t.size = txt (smW n k ++ smP n k) := by
              have e : a.toNat = (smD n k).length - k := by have := HS.out; omega
              rw [E.out, txt_size, e, txt_cut, txt_cut]
              show txt _ ++ txt [46] ++ txt _ = _
              rw [txt_app, txt_app]
              congr 1
              unfold smW smP smF
              rw [if_pos h0]; simp
            have HT1 := Lib.hid ht1
            clear ht1
            go_upto_region 9 with fail
            go_quiet (fail)
            go_wp2_with fail
            go_meet
            exact ⟨by rw [HT1.out], belowDrewN HB.out _⟩
          · have hk0 : k = 0 := by omega
            have E2 := Lib.hid (show t = txt (smW n k ++ smP n k) by
              rw [E.out]; congr 1; unfold smW smP; rw [if_neg h0, List.append_nil, hk0]; simp)
            subst hk0
            go_wp2_with fail
            go_meet
            exact ⟨by rw [E2.out], HB.out⟩
        case rest =>
          obtain ⟨rfl, hbx⟩ := hcut
          have HBX := Lib.hid hbx
          clear hbx
          have hzz : (txt (smW n k ++ smP n k)).size ≤ 1000 := by
            rw [txt_size]
            have := HS.out
            unfold smP smW smF
            split <;> simp <;> omega
          cases q
          · have hnn : ¬ n < 0 := by have := HQ.out; simpa using this.symm
            have E3 := Lib.hid (show smW n k ++ smP n k = smL n k by unfold smL; simp [hnn, sg])
            clear hnn hlt hlt'
            go_wp2_with fail
            refine bodyPost_ret (v := .tuple #[.string (txt (smW n k ++ smP n k)), .int .i64 n, .int .i64 k]) (by simp [results, Tryd.results15, go_sem]) rfl ?_
            exact ⟨ret_si (by rw [E3.out]) rfl rfl, HBX.out⟩
          · have hnn : n < 0 := by have := HQ.out; simpa using this.symm
            have E3 := Lib.hid (show txt ([45] ++ (smW n k ++ smP n k)) = txt (smL n k) by unfold smL; simp [hnn, sg])
            obtain ⟨u, hu⟩ : ∃ u, u = txt (smW n k ++ smP n k) := ⟨_, rfl⟩
            rw [← hu] at hzz ⊢
            have HU := Lib.hid hu
            have n1 : ¬ (9223372036854775807 < 1 + u.size) := by omega
            have n1' : ¬ (9223372036854775807 < ByteArray.size ⟨#[45]⟩ + u.size) := by show ¬ (9223372036854775807 < 1 + u.size); omega
            clear hu hnn hlt hlt'
            go_wp2_with fail
            refine bodyPost_ret (v := .tuple #[.string (ByteArray.mk #[45] ++ u), .int .i64 n, .int .i64 k]) (by simp [results, Tryd.results15, go_sem]) rfl ?_
            exact ⟨ret_si (by rw [HU.out, ← E3.out]; show txt [45] ++ txt _ = _; rw [txt_app]) rfl rfl, HBX.out⟩
theorem smL_len {n : Int} {k : Nat} (hn : n.natAbs < 10 ^ 20) (hk : k ≤ 100) : (smL n k).length ≤ 210 := by
  have h1 := sm_len hn hk
  have h2 : (sg (decide (n < 0))).length ≤ 1 := by unfold sg; split <;> simp
  unfold smL smP
  split
  · simp at h1 ⊢; omega
  · simp at h1 ⊢; omega
theorem told_read {l : List UInt8} {n e : Int} (h : Told l n e) : rd l = ((rd l).1, 0) := by rw [← h.code]
theorem told_self {l : List UInt8} {n e : Int} (h : Told l n e) : rd (rd l).1 = ((rd l).1, 0) := rd_norm h.norm
theorem rdl_len {l : List UInt8} (h : l.length ≤ 1000) : (rd l).1.length ≤ 3000 := by have := rd_len l; omega
theorem lread_to {l t : List UInt8} {c : Int} {s u : ByteArray} (w : World) (htab : Tab w) (hs : s = txt l) (hu : u = txt t) (hm : l.length ≤ 1000000) (hr : rd l = (t, c)) :
    Calls Tryd.prog 17 #[.string s, .int .i64 c] w fun e w' => e = .returned (.string u) ∧ Below w.heap.size w w' := by subst hu; exact lread_any w htab hs hm hr
abbrev two (k : IntKind) (a b : Int) : Value := .agg #[.int k a, .int k b]
set_option maxHeartbeats 4000000 in
set_option maxRecDepth 100000 in
theorem lawvalue_any {n0 n1 c0 c1 pw : Int} (a1 : -2147483648 ≤ n0) (a2 : n0 ≤ 2147483647) (b1 : -2147483648 ≤ n1) (b2 : n1 ≤ 2147483647) (d1 : 0 ≤ c0) (d2 : c0 ≤ 255) (e1 : 0 ≤ c1) (e2 : c1 ≤ 255) (p1 : -32768 ≤ pw) (p2 : pw ≤ 32767) (w : World) (htab : Tab w) :
    Calls Tryd.prog 5 #[two .i32 n0 n1, two .u8 c0 c1, .int .i16 pw] w fun e w' => e = .returned (.bool true) ∧ Below w.heap.size w w' := by
  obtain ⟨k, hk⟩ : ∃ k : Nat, c0.tmod 9 = k := ⟨(c0 % 9).toNat, by rw [Int.tmod_eq_emod_of_nonneg d1]; omega⟩
  obtain ⟨j, hj⟩ : ∃ k : Nat, c1.tmod 9 = k := ⟨(c1 % 9).toNat, by rw [Int.tmod_eq_emod_of_nonneg e1]; omega⟩
  have hk8 : k ≤ 8 := by rw [Int.tmod_eq_emod_of_nonneg d1] at hk; omega
  have hj8 : j ≤ 8 := by rw [Int.tmod_eq_emod_of_nonneg e1] at hj; omega
  obtain ⟨p, hp⟩ : ∃ p, pw.tmod 1001 = p := ⟨_, rfl⟩
  have hpa : p < 1001 := by rw [← hp]; exact Int.tmod_lt_of_pos _ (by omega)
  have hpb : -1001 < p := by
    rw [← hp]
    have := Int.tmod_lt_of_pos (-pw) (show (0 : Int) < 1001 by omega)
    rw [Int.neg_tmod] at this; omega
  have m0 : n0.natAbs < 10 ^ 20 := by omega
  have m1 : n1.natAbs < 10 ^ 20 := by omega
  have TA := sm_told (n := n0) (k := k) m0 (by omega)
  have TB := sm_told (n := n1) (k := j) m1 (by omega)
  have TS := sm_told_e (n := n0) (p := p) (k := k) m0 (by omega) (by omega) (by omega)
  have TT := sm_told_e (n := n1) (p := p) (k := j) m1 (by omega) (by omega) (by omega)
  have lpi : (itoL p).length ≤ 21 := by
    rw [itoL_sg]
    have h2 : (sg (decide (p < 0))).length ≤ 1 := by unfold sg; split <;> simp
    have h3 : (itoN p.natAbs).length ≤ 20 := itoN_short2 (by omega)
    simp; omega
  have la := smL_len (n := n0) (k := k) m0 (by omega)
  have lb := smL_len (n := n1) (k := j) m1 (by omega)
  obtain ⟨X, hX⟩ : ∃ X, X = n0 * 10 ^ j := ⟨_, rfl⟩
  obtain ⟨Y, hY⟩ : ∃ X, X = n1 * 10 ^ k := ⟨_, rfl⟩
  have X1 := (raise_bd a1 (by omega) j hj8)
  have Y1 := (raise_bd b1 (by omega) k hk8)
  rw [← hX] at X1
  rw [← hY] at Y1
  -- what the four readings tell
  have q1 : (rd (smL n0 k ++ (101 :: itoL p))).1 = (rd (smL n1 j ++ (101 :: itoL p))).1 ↔ X = Y := by rw [told_eq TS TT, V_eq (by omega), hX, hY]
  have q2 : (rd (smL n0 k)).1 = (rd (smL n1 j)).1 ↔ X = Y := by rw [told_eq TA TB, V_eq (by omega), hX, hY]
  have q3 : less (rd (smL n0 k ++ (101 :: itoL p))).1 (rd (smL n1 j ++ (101 :: itoL p))).1 = decide (X < Y) := by rw [told_lt TS TT]; congr 1; rw [V_lt (by omega), hX, hY]
  have q4 : less (rd (smL n0 k)).1 (rd (smL n1 j)).1 = decide (X < Y) := by rw [told_lt TA TB]; congr 1; rw [V_lt (by omega), hX, hY]
  obtain ⟨A, hA⟩ : ∃ x, x = txt (smL n0 k) := ⟨_, rfl⟩
  obtain ⟨B, hB⟩ : ∃ x, x = txt (smL n1 j) := ⟨_, rfl⟩
  obtain ⟨P0, hP0⟩ : ∃ x, x = txt (itoL p) := ⟨_, rfl⟩
  obtain ⟨P, hP⟩ : ∃ x, ByteArray.mk #[101] ++ P0 = x := ⟨_, rfl⟩
  obtain ⟨AP, hAP⟩ : ∃ x, A ++ P = x := ⟨_, rfl⟩
  obtain ⟨BP, hBP⟩ : ∃ x, B ++ P = x := ⟨_, rfl⟩
  have hP' : P = txt (101 :: itoL p) := by rw [← hP, hP0]; show txt [101] ++ txt _ = _; rw [txt_app]; rfl
  have hAP' : AP = txt (smL n0 k ++ (101 :: itoL p)) := by rw [← hAP, hA, hP', txt_app]
  have hBP' : BP = txt (smL n1 j ++ (101 :: itoL p)) := by rw [← hBP, hB, hP', txt_app]
  have z0 : P0.size ≤ 21 := by rw [hP0, txt_size]; exact lpi
  have zA : A.size ≤ 210 := by rw [hA, txt_size]; exact la
  have zB : B.size ≤ 210 := by rw [hB, txt_size]; exact lb
  have zP : P.size ≤ 22 := by rw [hP', txt_size]; simp; omega
  have lS : (smL n0 k ++ (101 :: itoL p)).length ≤ 1000 := by simp; omega
  have lT : (smL n1 j ++ (101 :: itoL p)).length ≤ 1000 := by simp; omega
  obtain ⟨sS, hS⟩ : ∃ x, x = txt (rd (smL n0 k ++ (101 :: itoL p))).1 := ⟨_, rfl⟩
  obtain ⟨sT, hT⟩ : ∃ x, x = txt (rd (smL n1 j ++ (101 :: itoL p))).1 := ⟨_, rfl⟩
  obtain ⟨sU, hU⟩ : ∃ x, x = txt (rd (smL n0 k)).1 := ⟨_, rfl⟩
  obtain ⟨sV, hV⟩ : ∃ x, x = txt (rd (smL n1 j)).1 := ⟨_, rfl⟩
  have SA := Lib.hid (fun w h => hA ▸ small_any (n := n0) (c := c0) (k := k) w h a1 a2 hk hk8 d1 d2)
  have SB := Lib.hid (fun w h => hB ▸ small_any (n := n1) (c := c1) (k := j) w h b1 b2 hj hj8 e1 e2)
  have IT := Lib.hid (fun w h => itoa_is (n := p) hP0 (by omega) (by omega) w h)
  have RS := Lib.hid (fun w h => lread_to (s := AP) w h hAP' hS (by omega) (told_read TS))
  have RT := Lib.hid (fun w h => lread_to (s := BP) w h hBP' hT (by omega) (told_read TT))
  have RU := Lib.hid (fun w h => lread_to (s := A) w h hA hU (by omega) (told_read TA))
  have RV := Lib.hid (fun w h => lread_to (s := B) w h hB hV (by omega) (told_read TB))
  have XR := Lib.hid (fun w => raise_any (n := n0) (k := j) w a1 (by omega) hj8 hX)
  have YR := Lib.hid (fun w => raise_any (n := n1) (k := k) w b1 (by omega) hk8 hY)
  have L1 := Lib.hid (fun w h => q3 ▸ dless_any (s := sS) (t := sT) w h hS hT (by have := rdl_len lS; omega) (by have := rdl_len lT; omega))
  have L2 := Lib.hid (fun w h => q4 ▸ dless_any (s := sU) (t := sV) w h hU hV (by have := rdl_len (l := smL n0 k) (by omega); omega) (by have := rdl_len (l := smL n1 j) (by omega); omega))
  have R2 := Lib.hid (fun w h => lread_to (s := sS) w h hS hS (by have := rdl_len lS; omega) (told_self TS))
  have HL := Lib.hid lives_any
  have HT := Lib.hid htab
  have f1 : (sS.toList == sT.toList) = (X == Y) := by rw [hS, hT, txt_list, txt_list, leq, eqd]; congr 1; exact propext q1
  have f2 : (sU.toList == sV.toList) = (X == Y) := by rw [hU, hV, txt_list, txt_list, leq, eqd]; congr 1; exact propext q2
  have hpw : IntKind.i64.wrap pw = pw := IntWalk.i64_in _ (by omega)
  have HP := Lib.hid hP
  have HAP := Lib.hid hAP
  have HBP := Lib.hid hBP
  clear TA TB TS TT lpi la lb hX hY X1 Y1 q1 q2 q3 q4 hA hB hP0 hP' hAP' hBP' lS lT hS hT hU hV htab m0 m1 hk hj hpa hpb hP hAP hBP
  go_enter Tryd.func5, Tryd.ntmps5
  have HB0 := Lib.hid (show Below w.heap.size w ((w.alloc (.cells #[.int .i32 n0, .int .i32 n1] 31)).alloc (.cells #[.int .u8 c0, .int .u8 c1] 32)) from ((Below.refl _ _).alloc (Nat.le_refl _) _).alloc (by simp) _)
  go_wp2_with fail
  refine (SA.out _ (HT.out.on HB0.out)).mono ?_
  rintro e w1 ⟨rfl, hb⟩
  have g1 : w1.cell? ⟨w.heap.size, 1, none⟩ = some (.int .i32 n1) := (hb.cell (by simp; omega)).trans (by simp [go_sem])
  have g2 : w1.cell? ⟨w.heap.size + 1, 1, none⟩ = some (.int .u8 c1) := (hb.cell (by simp)).trans (by simp [go_sem])
  have HB1 := Lib.hid (HB0.out.trans (hb.mono HB0.out.size))
  clear hb
  go_wp2_with fail
  clear g1 g2
  refine (SB.out _ (HT.out.on HB1.out)).mono ?_
  rintro e w2 ⟨rfl, hb⟩
  have HB2 := Lib.hid (HB1.out.trans (hb.mono HB1.out.size))
  clear hb
  have n1 : ¬ (9223372036854775807 < 1 + P0.size) := by omega
  have n1' : ¬ (9223372036854775807 < ByteArray.size ⟨#[101]⟩ + P0.size) := by show ¬ (9223372036854775807 < 1 + P0.size); omega
  go_wp2_with fail
  refine (IT.out _ (HT.out.on HB2.out)).mono ?_
  rintro e w3 ⟨rfl, hb⟩
  have HB3 := Lib.hid (HB2.out.trans (hb.mono HB2.out.size))
  clear hb
  have hP := HP.out
  have hAP := HAP.out
  have n2 : ¬ (9223372036854775807 < A.size + P.size) := by omega
  have n3 : ¬ (9223372036854775807 < B.size + P.size) := by omega
  go_wp2_with fail
  refine (RS.out _ (HT.out.on HB3.out)).mono ?_
  rintro e w4 ⟨rfl, hb⟩
  have HB4 := Lib.hid (HB3.out.trans (hb.mono HB3.out.size))
  clear hb
  clear hAP
  have hBP := HBP.out
  go_wp2_with fail
  refine (RT.out _ (HT.out.on HB4.out)).mono ?_
  rintro e w5 ⟨rfl, hb⟩
  have HB5 := Lib.hid (HB4.out.trans (hb.mono HB4.out.size))
  clear hb
  clear hBP hP n1 n1' n2 n3
  go_wp2_with fail
  refine (RU.out _ (HT.out.on HB5.out)).mono ?_
  rintro e w6 ⟨rfl, hb⟩
  have HB6 := Lib.hid (HB5.out.trans (hb.mono HB5.out.size))
  clear hb
  go_wp2_with fail
  refine (RV.out _ (HT.out.on HB6.out)).mono ?_
  rintro e w7 ⟨rfl, hb⟩
  have HB7 := Lib.hid (HB6.out.trans (hb.mono HB6.out.size))
  clear hb
  go_wp2_with fail
  refine (XR.out _).mono ?_
  rintro e w8 ⟨rfl, rfl⟩
  go_wp2_with fail
  refine (YR.out _).mono ?_
  rintro e w8 ⟨rfl, rfl⟩
  go_wp2_with fail
  refine (L1.out _ (HT.out.on HB7.out)).mono ?_
  rintro e w8 ⟨rfl, hb⟩
  have HB8 := Lib.hid (HB7.out.trans (hb.mono HB7.out.size))
  clear hb
  go_wp2_with fail
  refine (L2.out _ (HT.out.on HB8.out)).mono ?_
  rintro e w9 ⟨rfl, hb⟩
  have HB9 := Lib.hid (HB8.out.trans (hb.mono HB8.out.size))
  clear hb
  have fs : (sS.toList == sS.toList) = true := by simp
  go_wp2_with fail
  refine (R2.out _ (HT.out.on HB9.out)).mono ?_
  rintro e w10 ⟨rfl, hb⟩
  have HB10 := Lib.hid (HB9.out.trans (hb.mono HB9.out.size))
  clear hb
  go_wp2_with fail
  refine (HL.out _ (HT.out.on HB10.out)).mono ?_
  rintro e w11 ⟨rfl, hb⟩
  have HB11 := Lib.hid (HB10.out.trans (hb.mono HB10.out.size))
  clear hb
  go_wp2_with fail
  go_ret
  exact ⟨rfl, HB11.out⟩
end Go.Proofs.YtbbcjnbpghjklaaDoor
