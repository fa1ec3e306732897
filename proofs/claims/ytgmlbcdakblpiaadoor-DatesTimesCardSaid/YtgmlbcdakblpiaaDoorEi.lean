/- The law DatesDays, walked. -/
import Derived.Test.YtgmlbcdakblpiaaDoorEh
namespace Go.Proofs.YtgmlbcdakblpiaaDoor
open Go.RowKit
namespace Da

theorem tm {a b c : Nat} (h : c = a % b) : (a : Int).tmod b = c := by rw [Int.tmod_eq_emod_of_nonneg (by omega), h]; rfl
theorem td {a b c : Nat} (h : c = a / b) : (a : Int).tdiv b = c := by rw [Int.tdiv_eq_ediv_of_nonneg (by omega), h]; rfl
theorem em {a b c : Nat} (h : c = a % b) : (a : Int) % b = c := by rw [h]; rfl
theorem ed {a b c : Nat} (h : c = a / b) : (a : Int) / b = c := by rw [h]; rfl
theorem date_txt {y m d : Nat} : txt (nml y 4) ++ ⟨#[45]⟩ ++ txt (nml m 2) ++ ⟨#[45]⟩ ++ txt (nml d 2) = txt (dl y m d) := by
  rw [show (⟨#[45]⟩ : ByteArray) = txt [45] from rfl, txt_app, txt_app, txt_app, txt_app, dl]
  congr 1
  try simp
/-- The two months' cells. -/
structure MC (w wr : World) (g : Nat) (a b c d : Int) : Prop where
  below : Below w.heap.size w wr
  lt : g < wr.heap.size
  c0 : wr.cell? ⟨g, 0, none⟩ = some (.int .i64 a)
  c1 : wr.cell? ⟨g, 1, none⟩ = some (.int .i64 b)
  c2 : wr.cell? ⟨g, 2, none⟩ = some (.int .i64 c)
  c3 : wr.cell? ⟨g, 3, none⟩ = some (.int .i64 d)
theorem MC.on {w wr wx : World} {g : Nat} {a b c d : Int} (h : MC w wr g a b c d) (hb : Below wr.heap.size wr wx) : MC w wx g a b c d :=
  ⟨below_tr h.below hb, Nat.lt_of_lt_of_le h.lt hb.size, by rw [hb.cell (by exact h.lt)]; exact h.c0, by rw [hb.cell (by exact h.lt)]; exact h.c1, by rw [hb.cell (by exact h.lt)]; exact h.c2, by rw [hb.cell (by exact h.lt)]; exact h.c3⟩
/-- A round of the second loop: what comes of a month. -/
theorem month_facts (y m : Nat) (hy : y ≤ 9600) (_h1 : 1 ≤ m) (_h2 : m ≤ 12) : ∃ s q f a b c e : Nat, s = shf m ∧ q = shf m / 10 ∧ f = frm y m ∧ a = f / 4 ∧ b = f / 100 ∧ c = f / 400 ∧ e = (s * 306 + 5) / 10 ∧ s ≤ 11 ∧ q ≤ 1 ∧ f ≤ 10000 ∧ a ≤ 10000 ∧ b ≤ 10000 ∧ c ≤ 10000 ∧ e ≤ 400 ∧ f + q = 400 + y ∧
    dys y m = (f : Int) * 365 + a - b + c + e := by
  refine ⟨_, _, _, _, _, _, _, rfl, rfl, rfl, rfl, rfl, rfl, rfl, ?_, ?_, ?_, ?_, ?_, ?_, ?_, ?_, rfl⟩
  · unfold shf; omega
  · unfold shf; omega
  · unfold frm; omega
  · unfold frm; omega
  · unfold frm; omega
  · unfold frm; omega
  · unfold shf; omega
  · unfold frm shf; omega
set_option maxHeartbeats 16000000 in
set_option maxRecDepth 100000 in
theorem daysL_any {x0 x1 : Int} (a0 : 0 ≤ x0) (a1 : x0 ≤ 65535) (b0 : 0 ≤ x1) (b1 : x1 ≤ 255) (w : World) :
    Calls Tryd.prog 4 #[.int .u16 x0, .int .u8 x1] w fun e w' => e = .returned (.bool true) ∧ Below w.heap.size w w' := by
  obtain ⟨n0, rfl⟩ : ∃ n : Nat, x0 = n := ⟨x0.toNat, by omega⟩
  obtain ⟨n1, rfl⟩ : ∃ n : Nat, x1 = n := ⟨x1.toNat, by omega⟩
  obtain ⟨y, hy⟩ : ∃ y, y = n0 % 9600 := ⟨_, rfl⟩
  obtain ⟨m0, hm0⟩ : ∃ y, y = n1 % 12 := ⟨_, rfl⟩
  obtain ⟨m, hm⟩ : ∃ y, y = m0 + 1 := ⟨_, rfl⟩
  have y1 : (n0 : Int).tmod 9600 = y := tm hy
  have y2 : (n0 : Int) % 9600 = y := em hy
  have m1 : (n1 : Int).tmod 12 = m0 := tm hm0
  have m2 : (n1 : Int) % 12 = m0 := em hm0
  have m3 : (m0 : Int) + 1 = m := by omega
  have hy9 : y ≤ 9599 := by omega
  have hm1 : 1 ≤ m := by omega
  have hm9 : m ≤ 12 := by omega
  have HL := Lib.hid lives_any
  have HB0 := Lib.hid (Below.refl w.heap.size w)
  obtain ⟨A, hA⟩ : ∃ A, A = txt (nml y 4) := ⟨_, rfl⟩
  obtain ⟨B, hB⟩ : ∃ A, A = txt (nml m 2) := ⟨_, rfl⟩
  have za : A.size = 4 := by rw [hA, txt_size, nml_len]
  have zb : B.size = 2 := by rw [hB, txt_size, nml_len]
  have CA := Lib.hid (fun (x : Int) (hx : x = (y : Nat)) w => lnum_is (y := 4) y 4 w hx (by omega) (by omega) rfl hA)
  have CB := Lib.hid (fun (x : Int) (hx : x = (m : Nat)) w => lnum_is (y := 2) m 2 w hx (by omega) (by omega) rfl hB)
  have CD := Lib.hid (fun (d : Nat) (hd : d ≤ 99) (x : Int) (hx : x = (d : Nat)) (S : ByteArray) (hS : S = txt (nml d 2)) w => lnum_is (y := 2) d 2 w hx (by omega) (by omega) rfl hS)
  obtain ⟨N, hN⟩ : ∃ N, N = days y m := ⟨_, rfl⟩
  have hN9 : 28 ≤ N ∧ N ≤ 31 := by rw [hN]; exact days_le _ _
  obtain ⟨n28, n31⟩ := hN9
  obtain ⟨S2, hS2⟩ : ∃ S, S = A ++ ⟨#[45, 48, 48, 45, 48, 49]⟩ := ⟨_, rfl⟩
  obtain ⟨S3, hS3⟩ : ∃ S, S = A ++ ⟨#[45, 49, 51, 45, 48, 49]⟩ := ⟨_, rfl⟩
  have F2 := Lib.hid (fun w => lfails_is (l := dl y 0 1) (s := S2) (c := 9) w (by rw [hS2, hA, show (⟨#[45, 48, 48, 45, 48, 49]⟩ : ByteArray) = txt [45, 48, 48, 45, 48, 49] from rfl, txt_app]; rfl) (show 10 ≤ 1000000 by decide) (by rw [dl_rd (by omega) (by omega) (by omega), if_neg (by omega)]))
  have F3 := Lib.hid (fun w => lfails_is (l := dl y 13 1) (s := S3) (c := 9) w (by rw [hS3, hA, show (⟨#[45, 49, 51, 45, 48, 49]⟩ : ByteArray) = txt [45, 49, 51, 45, 48, 49] from rfl, txt_app]; rfl) (show 10 ≤ 1000000 by decide) (by rw [dl_rd (by omega) (by omega) (by omega), if_neg (by omega)]))
  have RD := Lib.hid (fun (d : Nat) (hd : d ≤ 99) (S : ByteArray) (hS : S = txt (dl y m d)) w => Read_is (l := dl y m d) w hS (show 10 ≤ 1000000 by decide))
  have VAL := Lib.hid (fun (d : Nat) (hd : d ≤ 99) => show (1 ≤ d ∧ (d : Int) ≤ N → rdD (dl y m d) = (dl y m d, 0)) ∧ (¬ (1 ≤ d ∧ (d : Int) ≤ N) → rdD (dl y m d) = ([], 9)) from
    ⟨fun h => by rw [dl_rd (by omega) (by omega) (by omega), if_pos ⟨by omega, by omega, by omega, by omega⟩], fun h => by rw [dl_rd (by omega) (by omega) (by omega), if_neg (by rw [← hN]; omega)]⟩)
  have TXT := Lib.hid (fun (d : Nat) (D : ByteArray) (hD : D = txt (nml d 2)) => show A ++ ⟨#[45]⟩ ++ B ++ ⟨#[45]⟩ ++ D = txt (dl y m d) by rw [hA, hB, hD]; exact date_txt)
  obtain ⟨m4, hm4⟩ : ∃ k, k = m / 12 := ⟨_, rfl⟩
  obtain ⟨m5, hm5⟩ : ∃ k, k = m % 12 := ⟨_, rfl⟩
  have e1 : (m : Int).tdiv 12 = m4 := td hm4
  have e2 : (m : Int) / 12 = m4 := ed hm4
  have e3 : (m : Int).tmod 12 = m5 := tm hm5
  have e4 : (m : Int) % 12 = m5 := em hm5
  have hm6 : m4 ≤ 1 ∧ m5 ≤ 11 := by omega
  obtain ⟨hm6, hm7⟩ := hm6
  have DY := Lib.hid (show dys (y + m4) (m5 + 1) - dys y m = N by rw [hm4, hm5, hN]; exact dys_days hm1 hm9)
  have MF1 := Lib.hid (month_facts y m (by omega) hm1 hm9)
  have MF2 := Lib.hid (month_facts (y + m4) (m5 + 1) (by omega) (by omega) (by omega))
  have HS23 := Lib.hid (And.intro hS2 hS3)
  clear hy hm0 hm hA hB hN hm4 hm5 hS2 hS3
  go_enter Tryd.func4, Tryd.ntmps4
  go_wp2_with fail
  go_loopw [7, 8, 9, 10, 11, 43, 63] (fun c d _ _ _ _ _ wr => ∃ (k : Nat) (q : Int), k ≤ 33 ∧ d = .int .i64 k ∧ c = .int .i64 q ∧ Hid (q = cnt N k) ∧ Below w.heap.size w wr) (fun _ d _ _ _ _ _ _ => 33 - (intOf d).toNat)
  case atStart => exact ⟨0, 0, by omega, rfl, rfl, Lib.hid rfl, HB0.out⟩
  case round =>
    obtain ⟨k, q, hk, rfl, rfl, HQ, hbw⟩ := hrel
    have HB := Lib.hid hbw
    clear hbw
    by_cases hlt : k ≤ 32
    · obtain ⟨D, hD⟩ : ∃ D, D = txt (nml k 2) := ⟨_, rfl⟩
      have C3 := Lib.hid (CD.out k (by omega) k rfl D hD)
      have zd : D.size = 2 := by rw [hD, txt_size, nml_len]
      obtain ⟨S, hS⟩ : ∃ S, S = A ++ ⟨#[45]⟩ ++ B ++ ⟨#[45]⟩ ++ D := ⟨_, rfl⟩
      have hSt : S = txt (dl y m k) := by rw [hS]; exact TXT.out k D hD
      have CR := Lib.hid (RD.out k (by omega) S hSt)
      have HSS := Lib.hid hS
      have V := VAL.out k (by omega)
      have hqq : q = cnt N k := HQ.out
      obtain ⟨u1, hu1⟩ : ∃ u, u = A ++ (⟨#[45]⟩ : ByteArray) := ⟨_, rfl⟩
      obtain ⟨u2, hu2⟩ : ∃ u, u = u1 ++ B := ⟨_, rfl⟩
      obtain ⟨u3, hu3⟩ : ∃ u, u = u2 ++ (⟨#[45]⟩ : ByteArray) := ⟨_, rfl⟩
      have o1 : (⟨#[45]⟩ : ByteArray).size = 1 := rfl
      have zu1 : u1.size = 5 := by rw [hu1, ByteArray.size_append]; omega
      have zu2 : u2.size = 7 := by rw [hu2, ByteArray.size_append]; omega
      have zu3 : u3.size = 8 := by rw [hu3, ByteArray.size_append]; omega
      have HU := Lib.hid (And.intro hu1.symm (And.intro hu2.symm (And.intro hu3.symm (show u3 ++ D = S by rw [hS, hu3, hu2, hu1]))))
      clear hD hS o1 hu1 hu2 hu3
      by_cases hv : 1 ≤ k ∧ (k : Int) ≤ N
      · rw [V.1 hv, ← hSt] at CR
        have HQ2 := Lib.hid (show q + 1 = cnt N (k + 1) by rw [hqq]; unfold cnt; rw [if_neg (by omega), if_pos (by omega), if_neg (by omega), if_pos (by push_cast; omega)]; push_cast; omega)
        have hq1 : (k : Int) = q + 1 := by rw [hqq]; unfold cnt; rw [if_neg (by omega), if_pos (by omega)]; omega
        have q1 : (S.toList == S.toList) = true := by simp
        obtain ⟨hv1, hv2⟩ := hv
        obtain ⟨j, rfl⟩ : ∃ j, k = j + 1 := ⟨k - 1, by omega⟩
        obtain rfl : q = (j : Int) := by omega
        clear V hqq hSt HQ hq1
        go_wp2_with fail
        refine (CA.out _ rfl _).mono ?_
        rintro en1 w1 ⟨rfl, hb⟩
        have HB1 := Lib.hid (below_tr HB.out hb)
        clear hb
        go_wp2_with fail
        refine (CB.out _ rfl _).mono ?_
        rintro en2 w2 ⟨rfl, hb⟩
        have HB2 := Lib.hid (below_tr HB1.out hb)
        clear hb
        go_wp2_with fail
        refine (C3.out _).mono ?_
        rintro en3 w3 ⟨rfl, hb⟩
        have HB3 := Lib.hid (below_tr HB2.out hb)
        clear hb
        go_upto_region 8 with fail
        rw [HU.out.1, HU.out.2.1, HU.out.2.2.1, HU.out.2.2.2]
        go_wp2_with fail
        refine (CR.out _).mono ?_
        rintro en4 w4 ⟨rfl, hb⟩
        have HB4 := Lib.hid (below_tr HB3.out hb)
        clear hb
        go_wp2_with fail
        go_roundw
        case rel => exact ⟨j + 1 + 1, _, by omega, by go_num, rfl, HQ2, HB4.out⟩
        case measure => simp [intOf]; omega
      · rw [V.2 hv] at CR
        replace CR : Hid (∀ w, Calls Tryd.prog 8 #[.string S] w fun e w' => e = .returned (.tuple #[.string ⟨#[]⟩, .int .i64 9]) ∧ Below w.heap.size w w') := CR
        have HQ2 := Lib.hid (show q = cnt N (k + 1) by
          rw [hqq]; unfold cnt
          by_cases k0 : k = 0
          · rw [if_pos k0, if_neg (by omega), if_pos (by push_cast; omega)]; push_cast; omega
          · rw [if_neg k0, if_neg (Nat.succ_ne_zero k)]
            by_cases g : (k : Int) - 1 ≤ N
            · rw [if_pos g, if_neg (by push_cast; omega)]; omega
            · rw [if_neg g, if_neg (by push_cast; omega)])
        have hq28 : k = 0 ∨ ¬ (k : Int) ≤ 28 := by omega
        clear V hqq hSt HQ hv
        have KEY : ∀ j : Nat, k = j → (j = 0 ∨ 1 ≤ j ∧ ¬ (j : Int) ≤ 28) → True := fun _ _ _ => trivial
        clear KEY
        rcases hq28 with rfl | hq28
        · go_wp2_with fail
          refine (CA.out _ rfl _).mono ?_
          rintro en1 w1 ⟨rfl, hb⟩
          have HB1 := Lib.hid (below_tr HB.out hb)
          clear hb
          go_wp2_with fail
          refine (CB.out _ rfl _).mono ?_
          rintro en2 w2 ⟨rfl, hb⟩
          have HB2 := Lib.hid (below_tr HB1.out hb)
          clear hb
          go_wp2_with fail
          refine (C3.out _).mono ?_
          rintro en3 w3 ⟨rfl, hb⟩
          have HB3 := Lib.hid (below_tr HB2.out hb)
          clear hb
          go_upto_region 8 with fail
          rw [HU.out.1, HU.out.2.1, HU.out.2.2.1, HU.out.2.2.2]
          go_wp2_with fail
          refine (CR.out _).mono ?_
          rintro en4 w4 ⟨rfl, hb⟩
          have HB4 := Lib.hid (below_tr HB3.out hb)
          clear hb
          go_wp2_with fail
          go_roundw
          case rel => exact ⟨0 + 1, _, by omega, by go_num, rfl, HQ2, HB4.out⟩
          case measure => simp [intOf]
        · have hq1 : 1 ≤ k := by omega
          go_wp2_with fail
          refine (CA.out _ rfl _).mono ?_
          rintro en1 w1 ⟨rfl, hb⟩
          have HB1 := Lib.hid (below_tr HB.out hb)
          clear hb
          go_wp2_with fail
          refine (CB.out _ rfl _).mono ?_
          rintro en2 w2 ⟨rfl, hb⟩
          have HB2 := Lib.hid (below_tr HB1.out hb)
          clear hb
          go_wp2_with fail
          refine (C3.out _).mono ?_
          rintro en3 w3 ⟨rfl, hb⟩
          have HB3 := Lib.hid (below_tr HB2.out hb)
          clear hb
          go_upto_region 8 with fail
          rw [HU.out.1, HU.out.2.1, HU.out.2.2.1, HU.out.2.2.2]
          go_wp2_with fail
          refine (CR.out _).mono ?_
          rintro en4 w4 ⟨rfl, hb⟩
          have HB4 := Lib.hid (below_tr HB3.out hb)
          clear hb
          go_wp2_with fail
          go_roundw
          case rel => exact ⟨k + 1, _, by omega, by go_num, rfl, HQ2, HB4.out⟩
          case measure => simp [intOf]; omega
    · obtain rfl : k = 33 := by omega
      obtain rfl : q = N := by rw [HQ.out]; unfold cnt; rw [if_neg (by omega)]; split <;> omega
      clear HQ CD RD VAL TXT CB hlt
      go_wp2_with fail
      obtain ⟨Y2, hY2⟩ : ∃ k, k = y + m4 := ⟨_, rfl⟩
      obtain ⟨M2, hM2⟩ : ∃ k, k = m5 + 1 := ⟨_, rfl⟩
      have hY3 : (y : Int) + m4 = Y2 := by omega
      have hM3 : (m5 : Int) + 1 = M2 := by omega
      have hY9 : Y2 ≤ 9600 := by omega
      have hM9 : M2 ≤ 12 := by omega
      rw [← hY2, ← hM2] at DY MF2
      rw [hY3, hM3]
      obtain ⟨g, hg⟩ : ∃ g, g = wr.heap.size := ⟨_, rfl⟩
      rw [← hg]
      have MC0 := Lib.hid (show MC w (wr.alloc (.cells #[.int .i64 (y : Int), .int .i64 (m : Int), .int .i64 (Y2 : Int), .int .i64 (M2 : Int)] 32)) g y m Y2 M2 from
        ⟨HB.out.alloc HB.out.size _, by rw [hg]; simp, by rw [hg]; simp [go_sem], by rw [hg]; simp [go_sem], by rw [hg]; simp [go_sem], by rw [hg]; simp [go_sem]⟩)
      have DB := Lib.hid (show 0 ≤ dys y m ∧ dys y m ≤ 10000000 by
        obtain ⟨s, q1, f, a, b, c, e, hs, hq, hf, ha, hb, hc, he, s9, q9, f9, a9, b9, c9, e9, hsum, hd⟩ := MF1.out
        omega)
      clear y1 y2 m1 m2 m3 e1 e2 e3 e4 hm6 hm7 hY2 hM2 hY3 hM3 HB
      generalize wr.alloc (.cells #[.int .i64 (y : Int), .int .i64 (m : Int), .int .i64 (Y2 : Int), .int .i64 (M2 : Int)] 32) = W0 at *
      clear hg
      clear wr
      go_loopw [12, 14, 15, 16, 91] (fun a _ _ _ d wr => ∃ (k : Nat) (v : Int), d = .int .i64 k ∧ a = .int .i64 v ∧ (k = 0 ∧ v = 0 ∨ k = 1 ∧ v = dys y m ∨ k = 2 ∧ v = q) ∧ MC w wr g y m Y2 M2) (fun _ _ _ _ d _ => 2 - (intOf d).toNat)
      case atStart => exact ⟨0, 0, rfl, rfl, .inl ⟨rfl, rfl⟩, MC0.out⟩
      case round =>
        obtain ⟨k, v, rfl, rfl, hkv, hmc⟩ := hrel
        have HC := Lib.hid hmc
        clear hmc MC0
        rcases hkv with ⟨rfl, rfl⟩ | ⟨rfl, rfl⟩ | ⟨rfl, rfl⟩
        · obtain ⟨s, q1, f, a, b, c, e, hs, hq, hf, ha, hb, hc, he, s9, q9, f9, a9, b9, c9, e9, hsum, hd⟩ := MF1.out
          have t1 : ((m : Int) + 9).tmod 12 = s := tm (a := m + 9) (b := 12) hs
          have t2' : ((m : Int) + 9) % 12 = s := em (a := m + 9) (b := 12) hs
          have hq' : q1 = s / 10 := by rw [hq, hs]
          have t3 : (s : Int).tdiv 10 = q1 := td hq'
          have t4 : (s : Int) / 10 = q1 := ed hq'
          have t5 : 400 + (y : Int) - q1 = f := by omega
          have t6 : (f : Int).tdiv 4 = a := td ha
          have t7 : (f : Int) / 4 = a := ed ha
          have t8 : (f : Int).tdiv 100 = b := td hb
          have t9 : (f : Int) / 100 = b := ed hb
          have t10 : (f : Int).tdiv 400 = c := td hc
          have t11 : (f : Int) / 400 = c := ed hc
          have t12 : ((s : Int) * 306 + 5).tdiv 10 = e := td (a := s * 306 + 5) (b := 10) he
          have t13 : ((s : Int) * 306 + 5) / 10 = e := ed (a := s * 306 + 5) (b := 10) he
          obtain ⟨c0, c1, c2, c3⟩ : wr.cell? ⟨g, 0, none⟩ = some (.int .i64 (y : Int)) ∧ wr.cell? ⟨g, 1, none⟩ = some (.int .i64 (m : Int)) ∧ wr.cell? ⟨g, 2, none⟩ = some (.int .i64 (Y2 : Int)) ∧ wr.cell? ⟨g, 3, none⟩ = some (.int .i64 (M2 : Int)) := ⟨HC.out.c0, HC.out.c1, HC.out.c2, HC.out.c3⟩
          have HC2 := Lib.hid (HC.out.on ((Below.refl _ _).alloc (Nat.le_refl _) (.cells #[.int .i64 (y : Int), .int .i64 (m : Int)] 32)))
          have VV := Lib.hid (show (1 = 0 ∧ (f : Int) * 365 + a - b + c + e = 0 ∨ 1 = 1 ∧ (f : Int) * 365 + a - b + c + e = dys y m ∨ 1 = 2 ∧ (f : Int) * 365 + a - b + c + e = q) from .inr (.inl ⟨rfl, hd.symm⟩))
          obtain ⟨db0, db1⟩ := DB.out
          clear hs hq hf ha hb hc he hsum hd hq' HC MF1 MF2 DY HS23
          go_wp2_with fail
          go_roundw
          case rel => exact ⟨1, _, rfl, by go_num, VV.out, HC2.out⟩
          case measure => simp [intOf]
        · obtain ⟨s, q1, f, a, b, c, e, hs, hq, hf, ha, hb, hc, he, s9, q9, f9, a9, b9, c9, e9, hsum, hd⟩ := MF2.out
          have t1 : ((M2 : Int) + 9).tmod 12 = s := tm (a := M2 + 9) (b := 12) hs
          have t2' : ((M2 : Int) + 9) % 12 = s := em (a := M2 + 9) (b := 12) hs
          have hq' : q1 = s / 10 := by rw [hq, hs]
          have t3 : (s : Int).tdiv 10 = q1 := td hq'
          have t4 : (s : Int) / 10 = q1 := ed hq'
          have t5 : 400 + (Y2 : Int) - q1 = f := by omega
          have t6 : (f : Int).tdiv 4 = a := td ha
          have t7 : (f : Int) / 4 = a := ed ha
          have t8 : (f : Int).tdiv 100 = b := td hb
          have t9 : (f : Int) / 100 = b := ed hb
          have t10 : (f : Int).tdiv 400 = c := td hc
          have t11 : (f : Int) / 400 = c := ed hc
          have t12 : ((s : Int) * 306 + 5).tdiv 10 = e := td (a := s * 306 + 5) (b := 10) he
          have t13 : ((s : Int) * 306 + 5) / 10 = e := ed (a := s * 306 + 5) (b := 10) he
          obtain ⟨c0, c1, c2, c3⟩ : wr.cell? ⟨g, 0, none⟩ = some (.int .i64 (y : Int)) ∧ wr.cell? ⟨g, 1, none⟩ = some (.int .i64 (m : Int)) ∧ wr.cell? ⟨g, 2, none⟩ = some (.int .i64 (Y2 : Int)) ∧ wr.cell? ⟨g, 3, none⟩ = some (.int .i64 (M2 : Int)) := ⟨HC.out.c0, HC.out.c1, HC.out.c2, HC.out.c3⟩
          have HC2 := Lib.hid (HC.out.on ((Below.refl _ _).alloc (Nat.le_refl _) (.cells #[.int .i64 (Y2 : Int), .int .i64 (M2 : Int)] 32)))
          have VV := Lib.hid (show (2 = 0 ∧ (f : Int) * 365 + a - b + c + e - dys y m = 0 ∨ 2 = 1 ∧ (f : Int) * 365 + a - b + c + e - dys y m = dys y m ∨ 2 = 2 ∧ (f : Int) * 365 + a - b + c + e - dys y m = q) from .inr (.inr ⟨rfl, by rw [← hd]; exact DY.out⟩))
          obtain ⟨db0, db1⟩ := DB.out
          clear hs hq hf ha hb hc he hsum hd hq' HC MF1 MF2 DY HS23
          go_wp2_with fail
          go_roundw
          case rel => exact ⟨2, _, rfl, by go_num, VV.out, HC2.out⟩
          case measure => simp [intOf]
        · have q1 : (v == v) = true := by simp
          have HBZ := Lib.hid HC.out.below
          have hs2 := HS23.out.1.symm
          have hs3 := HS23.out.2.symm
          clear HC MF1 MF2 DY DB
          go_wp2_with fail
          refine (CA.out _ rfl _).mono ?_
          rintro en1 w1 ⟨rfl, hb⟩
          have HB1 := Lib.hid (below_tr HBZ.out hb)
          clear hb
          go_wp2_with fail
          refine (F2.out _).mono ?_
          rintro en2 w2 ⟨rfl, hb⟩
          have HB2 := Lib.hid (below_tr HB1.out hb)
          clear hb
          go_wp2_with fail
          refine (CA.out _ rfl _).mono ?_
          rintro en3 w3 ⟨rfl, hb⟩
          have HB3 := Lib.hid (below_tr HB2.out hb)
          clear hb
          go_wp2_with fail
          refine (F3.out _).mono ?_
          rintro en4 w4 ⟨rfl, hb⟩
          have HB4 := Lib.hid (below_tr HB3.out hb)
          clear hb
          go_wp2_with fail
          refine (HL.out _).mono ?_
          rintro en5 w5 ⟨rfl, hb⟩
          have HB5 := Lib.hid (below_tr HB4.out hb)
          clear hb
          go_wp2_with fail
          go_ret
          exact ⟨rfl, HB5.out⟩
end Da
end Go.Proofs.YtgmlbcdakblpiaaDoor
