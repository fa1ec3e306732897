/- The law JtokensCover, walked: it answers true, and nothing that was there is turned. -/
import Derived.Test.YtfnahondlcbjnaaWb
import Derived.Deep.QuietTactic
import Derived.BigQuiet
namespace Go.Proofs.Ytfnahondlcbjnaa
open Go.RowKit
namespace Jk

theorem below_dn {B : Nat} {a w : World} (h : Below B a w) (k : Nat) : Below B a (w.drewN k) := ⟨h.os, h.tape, h.output, h.size, h.block⟩
theorem ftV_of (e : Option Nat) : ∃ cc aa : Int, ftV e = fvV cc aa ∧ ((e = none ∧ cc = 0 ∧ aa = 0) ∨ ∃ a : Nat, e = some a ∧ cc = 3 ∧ aa = a) := by
  cases e with
  | none => exact ⟨0, 0, rfl, .inl ⟨rfl, rfl, rfl⟩⟩
  | some a => exact ⟨3, a, rfl, .inr ⟨a, rfl, rfl, rfl⟩⟩
section
variable {l : List UInt8} {A : Option Addr} {n c : Nat} {w : World}
theorem cover_long (ha : ArgB w A n c l) (h : 5000 < n) :
    Calls Try.prog 4 #[.slice A n c] w fun e w' => e = .returned (.bool true) ∧ Below w.heap.size w w' := by
  obtain ⟨_, h1, h2, _⟩ := ha
  unfold maxLen at h2
  have h' : (5000 : Int) < n := by omega
  go_enter Try.func4, Try.ntmps4
  go_wp2_with (go_at_call 6; refine (lives_any _).mono ?_; rintro e w' ⟨rfl, hb⟩)
  go_ret
  exact ⟨rfl, hb⟩
set_option maxHeartbeats 8000000 in
set_option maxRecDepth 100000 in
theorem cover_short (ha : ArgB w A n c l) (h : n ≤ 5000) :
    Calls Try.prog 4 #[.slice A n c] w fun e w' => e = .returned (.bool true) ∧ Below w.heap.size w w' := by
  obtain ⟨hn, hnc, hcm, hA, hnil⟩ := ha
  have h' : ¬ (5000 : Int) < n := by omega
  have hcm' := hcm
  unfold maxLen at hcm'
  have Hn := Lib.hid hn
  have HA := Lib.hid hA
  have C1 := Lib.hid (lread_is (A := A) n c w forms_ok hn hnc hcm hA (Nat.le_refl _) (by omega))
  obtain ⟨cc, aa, hft, hcase⟩ := ftV_of (tks l 0).2
  have HFT := Lib.hid hft
  have HC := Lib.hid hcase
  have HCM := Lib.hid hcm
  clear hn hA hnil hft hcase hcm
  go_enter Try.func4, Try.ntmps4
  go_wp2_with fail
  refine C1.out.mono ?_
  rintro e w1 ⟨A1, N1, c1, he, hNc1, hcm1, hk1, hb1⟩
  rw [HFT.out] at he
  subst he
  have hN1 : N1 ≤ 5000 := by rw [hk1.1]; exact Nat.le_trans tks_few (by rw [← Hn.out]; exact h)
  unfold maxLen at hcm1
  have HB1 := Lib.hid hb1
  have HK1 := Lib.hid hk1
  clear C1 hb1 hk1
  go_upto_region 4 with fail
  have HF := Lib.hid (FB.start (w := w1) (c := cc) (a := aa))
  have HA1 := Lib.hid ((Below.refl w1.heap.size w1).alloc (Nat.le_refl _) (fvO cc aa))
  obtain ⟨V, hV⟩ : ∃ V, V = w1.alloc (fvO cc aa) := ⟨_, rfl⟩
  rw [← hV] at HF HA1 ⊢
  clear hV
  have HKV := Lib.hid (HK1.out.below HA1.out (Nat.le_refl _))
  have HBV := Lib.hid (below_tr HB1.out HA1.out)
  go_wp2_with fail
  go_loopw [5, 6, 7, 8, 9] (fun s t _ _ _ wr => ∃ k p : Nat, s = .int .i64 p ∧ t = .int .i64 k ∧ k ≤ N1 ∧ p ≤ n ∧ Hid (Cv l k p) ∧ Hid (Below V.heap.size V wr)) (fun _ t _ _ _ _ => N1 - (intOf t).toNat)
  case atStart => exact ⟨0, 0, rfl, rfl, Nat.zero_le _, Nat.zero_le _, Lib.hid (Cv.start l), Lib.hid (Below.refl _ _)⟩
  case round =>
    obtain ⟨k, p, rfl, rfl, hk, hp, HCv, HW⟩ := hrel
    have HKW := Lib.hid (HKV.out.below HW.out (Nat.le_refl _))
    have HBW := Lib.hid (below_tr HBV.out HW.out)
    by_cases hlt : k < N1
    · obtain ⟨kk, m, ht, he, hm0, hml, hcv⟩ := HCv.out.next (by rw [← HK1.out.1]; exact hlt)
      obtain ⟨g, rfl, hg, hc⟩ := HKW.out.at_ (by omega)
      obtain ⟨q, hq⟩ : ∃ q, q = p + m := ⟨_, rfl⟩
      have HQ := Lib.hid hq
      have q2 : decide (q ≤ p) = false := decide_eq_false (by omega)
      have q3 : decide (n < q) = false := decide_eq_false (by have := Hn.out; omega)
      have HM := Lib.hid (And.intro ht (And.intro hm0 hml))
      have HCv2 := Lib.hid hcv
      have HE := Lib.hid he
      have hmn : q ≤ n := by rw [Hn.out, hq]; exact hml
      have hlo : p < q := by omega
      rw [← hq] at he
      obtain ⟨t0, t1, t2⟩ := hc k _ he
      simp only at t0 t1 t2
      have hg2 : g < wr.heap.size := by
        obtain ⟨g', _, e, _, hh, _⟩ := HKW.out.2 (by omega)
        obtain rfl : g' = g := by injection e with e; injection e with e; exact e.symm
        exact lt_blk hh
      clear hq he ht hm0 hml hcv
      go_upto_region 9 with fail
      obtain ⟨V2, hV2⟩ : ∃ V2, V2 = wr.alloc (ltO kk p q) := ⟨_, rfl⟩
      have HA2 := Lib.hid (show Below wr.heap.size wr V2 by rw [hV2]; exact (Below.refl _ _).alloc (Nat.le_refl _) _)
      have r0 : V2.cell? ⟨wr.heap.size, 0, none⟩ = some (.int .u8 kk) := by rw [hV2, World.cell?_alloc_at _ _ _ _ rfl]; rfl
      have r1 : V2.cell? ⟨wr.heap.size, 1, none⟩ = some (.int .i64 p) := by rw [hV2, World.cell?_alloc_at _ _ _ _ rfl]; rfl
      have r2 : V2.cell? ⟨wr.heap.size, 2, none⟩ = some (.int .i64 q) := by rw [hV2, World.cell?_alloc_at _ _ _ _ rfl]; rfl
      rw [← hV2]
      clear t0 t1 t2 hV2
      go_cut [71] from 29 to 71 (fun v wx => v = .bool false ∧ ∃ nq, wx = V2.drewN nq)
      case first =>
        rcases Nat.eq_zero_or_pos k with rfl | hk0
        · clear hc
          go_quiet (fail)
          go_wp2_with fail
          go_meet
          exact ⟨rfl, _, rfl⟩
        · obtain ⟨k0, p0, m0, hp1, hp2, hp3⟩ := HCv.out.prev hk0
          obtain ⟨k', rfl⟩ : ∃ k', k = k' + 1 := ⟨k - 1, by omega⟩
          obtain ⟨s0, _, _⟩ := hc k' _ hp3
          have s1 : V2.cell? ⟨g, k' * 3, none⟩ = some (.int .u8 k0) := by rw [HA2.out.cell (by exact hg2)]; exact s0
          have nk := tk_next hp1 (by rw [List.drop_drop, ← hp2]; exact HM.out.1)
          clear hc s0 hp1 hp2 hp3
          by_cases hkk : kk = k0
          · have n0 : (kk == 0) = false := by rw [beq_eq_false_iff_ne]; intro e; exact nk ⟨hkk.symm, .inl (by omega)⟩
            have n2 : (kk == 2) = false := by rw [beq_eq_false_iff_ne]; intro e; exact nk ⟨hkk.symm, .inr (by omega)⟩
            have i0 : ((kk : Int) == 0) = false := by rw [beq_eq_false_iff_ne] at n0 ⊢; omega
            have i2 : ((kk : Int) == 2) = false := by rw [beq_eq_false_iff_ne] at n2 ⊢; omega
            subst hkk
            clear nk
            go_quiet (fail)
            go_wp2_with fail
            go_meet
            exact ⟨rfl, _, rfl⟩
          · have n1 : (kk == k0) = false := by rw [beq_eq_false_iff_ne]; exact hkk
            have i1 : ((kk : Int) == (k0 : Int)) = false := by rw [beq_eq_false_iff_ne]; omega
            clear nk hkk
            go_quiet (fail)
            go_wp2_with fail
            go_meet
            exact ⟨rfl, _, rfl⟩
      case rest =>
        obtain ⟨rfl, nq, rfl⟩ := hcut
        have hpc : ¬ c = p := by omega
        have HBX := Lib.hid (show Below w.heap.size w (V2.drewN nq) from below_dn (HBW.out.trans (HA2.out.mono HBW.out.size)) nq)
        have hBy : Byt (V2.drewN nq) w.heap.size (A.map (·.add p)) ((l.take q).drop p) := ((HA.out.below HBX.out).take q).cut' (by rw [List.length_take]; have := Hn.out; omega)
        have C2 := Lib.hid (lread_is (A := A.map (·.add p)) (q - p) (c - p) (V2.drewN nq) forms_ok (by rw [List.length_drop, List.length_take]; have := Hn.out; omega) (by omega) (by unfold maxLen; omega) hBy HBX.out.size (by omega))
        have TO := Lib.hid (show tks ((l.take q).drop p) 0 = ([(kk, 0, q - p)], none) by
          have := tks_own HM.out.1
          rw [HQ.out, this, Nat.add_sub_cancel_left])
        clear hBy
        go_wp2_with fail
        refine C2.out.mono ?_
        rintro e w3 ⟨A2, N2, c2, he, _, _, hk2, hb2⟩
        rw [TO.out] at he hk2
        obtain rfl : N2 = 1 := hk2.1
        simp only [ftV] at he
        subst he
        obtain ⟨g2, rfl, _, hc2⟩ := hk2.at_ (by decide)
        obtain ⟨d0, d1, d2⟩ := hc2 0 _ rfl
        simp only [Nat.zero_mul, Nat.zero_add] at d0 d1 d2
        rw [show ((q - p : Nat) : Int) = (q : Int) - p by omega] at d2
        have HB2 := Lib.hid hb2
        have hg3 : g2 < w3.heap.size := by
          obtain ⟨g', _, e, _, hh, _⟩ := hk2.2 (by decide)
          obtain rfl : g' = g2 := by injection e with e; injection e with e; exact e.symm
          exact lt_blk hh
        clear C2 hk2 hb2 hc2
        go_upto_region 12 with fail
        obtain ⟨V3, hV3⟩ : ∃ V3, V3 = w3.alloc (fvO 0 0) := ⟨_, rfl⟩
        have HA3 := Lib.hid (show Below w3.heap.size w3 V3 by rw [hV3]; exact (Below.refl _ _).alloc (Nat.le_refl _) _)
        have z0 : V3.cell? ⟨w3.heap.size, 0, none⟩ = some (.int .i64 0) := by rw [hV3, World.cell?_alloc_at _ _ _ _ rfl]; rfl
        have z1 : V3.cell? ⟨w3.heap.size, 1, none⟩ = some (.int .i64 0) := by rw [hV3, World.cell?_alloc_at _ _ _ _ rfl]; rfl
        rw [← hV3]
        clear hV3
        have e0 : V3.cell? ⟨g2, 0, none⟩ = some (.int .u8 kk) := by rw [HA3.out.cell hg3]; exact d0
        have e1 : V3.cell? ⟨g2, 1, none⟩ = some (.int .i64 0) := by rw [HA3.out.cell hg3]; exact d1
        have e2 : V3.cell? ⟨g2, 2, none⟩ = some (.int .i64 ((q : Int) - p)) := by rw [HA3.out.cell hg3]; exact d2
        have hwr : wr.heap.size < V2.heap.size := World.block_lt_of_cell? _ _ r0
        have HB3 := Lib.hid (show Below V2.heap.size (V2.drewN nq) V3 from below_tr HB2.out HA3.out)
        have x0 : V3.cell? ⟨wr.heap.size, 0, none⟩ = some (.int .u8 kk) := by rw [HB3.out.cell hwr]; exact r0
        have x1 : V3.cell? ⟨wr.heap.size, 1, none⟩ = some (.int .i64 p) := by rw [HB3.out.cell hwr]; exact r1
        have x2 : V3.cell? ⟨wr.heap.size, 2, none⟩ = some (.int .i64 q) := by rw [HB3.out.cell hwr]; exact r2
        have HEND := Lib.hid (show Below V.heap.size V V3 from
          have h1 : Below V.heap.size V V2 := below_tr HW.out HA2.out
          (below_dn h1 nq).trans (HB3.out.mono h1.size))
        clear d0 d1 d2 r0 r1 r2 hc
        go_quiet (fail)
        go_wp2_with fail
        go_roundw
        case rel => exact ⟨k + 1, q, rfl, by go_num, by omega, hmn, by rw [HQ.out]; exact HCv2, Lib.hid (below_dn HEND.out _)⟩
        case measure => simp [intOf]; omega
    · obtain rfl : k = N1 := by omega
      have HD := HCv.out.done HK1.out.1
      obtain ⟨⟨f0, f1⟩, _, _⟩ := (HF.out.on HW.out).cells
      rcases HC.out with ⟨he, rfl, rfl⟩ | ⟨a, he, rfl, rfl⟩
      · rw [he] at HD
        have hpn : p = n := by
          rcases HD with ⟨_, h⟩ | ⟨_, h, _⟩
          · rw [Hn.out]; exact h
          · cases h
        subst hpn
        clear HD he
        go_wp2_with (go_at_call 6; refine (lives_any _).mono ?_; rintro e w' ⟨rfl, hb⟩)
        go_ret
        exact ⟨rfl, below_tr HBW.out hb⟩
      · rw [he] at HD
        have hpa : p ≤ a ∧ a ≤ n := by
          rcases HD with ⟨h, _⟩ | ⟨a', h, h1, h2⟩
          · cases h
          · obtain rfl : a = a' := Option.some.inj h
            rw [Hn.out]; exact ⟨h1, h2⟩
        obtain ⟨ha1, ha2⟩ := hpa
        clear HD he
        go_wp2_with (go_at_call 6; refine (lives_any _).mono ?_; rintro e w' ⟨rfl, hb⟩)
        go_ret
        exact ⟨rfl, below_tr HBW.out hb⟩
theorem cover_any (ha : ArgB w A n c l) : Calls Try.prog 4 #[.slice A n c] w fun e w' => e = .returned (.bool true) ∧ Below w.heap.size w w' := by
  by_cases h : 5000 < n
  · exact cover_long ha h
  · exact cover_short ha (by omega)
end
end Jk
end Go.Proofs.Ytfnahondlcbjnaa
