/- The law PathsBack, walked. -/
import Derived.Test.YtoebhnhiljlljaaDoorRf
import Derived.Test.YtoebhnhiljlljaaDoorPt
import Derived.Test.YtoebhnhiljlljaaDoorPr
import Derived.Test.YtoebhnhiljlljaaDoorPc
namespace Go.Proofs.YtoebhnhiljlljaaDoor
open Go.RowKit
namespace Pa
set_option maxRecDepth 100000

theorem pw_sw {L : List St} {b : Nat} (h : pW L ≤ b) : ∀ s ∈ L, sw s ≤ b := fun _ hs => Nat.le_trans (pW_mem hs) h
/-- The step of nothing. -/
def zs : St := ⟨0, [], 0, []⟩
theorem zs_ok : zs.Ok := ⟨by decide, i64_small (by decide) (by decide)⟩
theorem sm_nil (w : World) : Sm w none 0 0 [] := ⟨rfl, ⟨Nat.le_refl _, Nat.zero_le _⟩, fun _ => rfl, fun h => absurd h (by simp), fun s hs => (by cases hs)⟩
theorem flat_len2 : ∀ L : List St, L.all St.may = true → (∀ s ∈ L, i64 s.pos) → (L.flatMap St.txt).length ≤ 3 * pW L + 30 * L.length
  | [], _, _ => Nat.zero_le _
  | s :: r, hm, hp => by
    rw [List.all_cons, Bool.and_eq_true] at hm
    have h1 := txt_len hm.1 (hp s (List.mem_cons_self ..))
    have h2 := flat_len2 r hm.2 fun x hx => hp x (List.mem_cons_of_mem _ hx)
    rw [List.flatMap_cons, List.length_append, pW, List.length_cons]
    omega
theorem pt_len {L : List St} (hm : pMay L = true) (hp : ∀ s ∈ L, i64 s.pos) (hw : pW L ≤ 1048576) : (pT L).length ≤ 10000000 := by
  cases L with
  | nil => rw [pT_nil]; decide
  | cons s r =>
    have h := pMay_all hm
    have h2 := flat_len2 (s :: r) h.2 hp
    have h1 := h.1
    rw [pT_cons hm]
    omega
theorem line_at {S : ByteArray} {l : Bs} (hS : S = txt l) (hl : ∀ c ∈ l, lineC c) {k : Nat} (hk : k < S.size) : ¬ (((S[k]'hk).toNat : Nat) : Int) < 32 ∧ ((((S[k]'hk).toNat : Nat) : Int) == 127) = false := by
  subst hS
  have hm : (txt l)[k]'hk ∈ l := by
    have hk' : k < l.length := by rw [txt_size] at hk; exact hk
    have e : (txt l)[k]'hk = l[k] := by simp [txt, ByteArray.getElem_eq_getElem_data]
    rw [e]; exact List.getElem_mem _
  obtain ⟨h1, h2⟩ := hl _ hm
  generalize (txt l)[k]'hk = y at h1 h2
  have h3 : (32 : UInt8).toNat ≤ y.toNat := h1
  have h4 : y.toNat ≠ 127 := fun e => h2 (UInt8.toNat_inj.1 e)
  have h5 : (32 : UInt8).toNat = 32 := rfl
  constructor
  · omega
  · simp; omega
set_option maxHeartbeats 8000000 in
theorem back_law {A B : Option Addr} {n m c d : Nat} {L M : List St} (w : World) (h : Sm w A n c L) (h' : Sm w B m d M) (hL : pW L ≤ 1048576) (hM : pW M ≤ 1048576) (hT : TL w) :
    Calls Tryd.prog 5 #[.slice A n c, .slice B m d] w fun e w' => e = .returned (.bool true) ∧ Below w.heap.size w w' := by
  have HS := Lib.hid h
  have HT := Lib.hid h'
  have HN := Lib.hid h.len
  have HTL := Lib.hid hT
  have HLL := Lib.hid (And.intro hL hM)
  have LV := Lib.hid (fun (w' : World) (hb : Below w.heap.size w w') => lives_any w' (hT.1.up hb))
  have G1 := Lib.hid (fun (w' : World) (hb : Below w.heap.size w w') => great_any w' (h.on hb) (by omega))
  have G2 := Lib.hid (fun (w' : World) (hb : Below w.heap.size w w') => great_any w' (h'.on hb) (by omega))
  have M1 := Lib.hid (fun (w' : World) (hb : Below w.heap.size w w') => may_any w' (h.on hb))
  have M2 := Lib.hid (fun (w' : World) (hb : Below w.heap.size w w') => may_any w' (h'.on hb))
  obtain ⟨p1, hp1⟩ : ∃ p, p = decide (3000 ≤ pW L) := ⟨_, rfl⟩
  obtain ⟨p2, hp2⟩ : ∃ p, p = decide (3000 ≤ pW M) := ⟨_, rfl⟩
  obtain ⟨q1, hq1⟩ : ∃ p, p = pMay L := ⟨_, rfl⟩
  obtain ⟨q2, hq2⟩ : ∃ p, p = pMay M := ⟨_, rfl⟩
  rw [← hp1] at G1
  rw [← hp2] at G2
  rw [← hq1] at M1
  rw [← hq2] at M2
  have HQ1 := Lib.hid hq1
  have HQ2 := Lib.hid hq2
  have B0 := Lib.hid (show Below w.heap.size w w from Below.refl _ _)
  clear h h' hT hL hM hp1 hp2 hq1 hq2
  go_enter Tryd.func5, Tryd.ntmps5
  go_upto_region 1 with fail
  go_cut [25] from 10 to 25 (fun a wx => a = .bool (p1 || p2 || !q1 || !q2) ∧ Hid (Below w.heap.size w wx))
  case first =>
    go_wp2_with fail
    refine (G1.out _ B0.out).mono ?_
    rintro e w1 ⟨rfl, hb⟩
    have B1 := Lib.hid (below_tr B0.out hb)
    clear hb
    cases p1 with
    | true =>
      go_wp2_with fail
      go_meet
      exact ⟨rfl, B1⟩
    | false =>
      go_wp2_with fail
      refine (G2.out _ B1.out).mono ?_
      rintro e w2 ⟨rfl, hb⟩
      have B2 := Lib.hid (below_tr B1.out hb)
      clear hb
      cases p2 with
      | true =>
        go_wp2_with fail
        go_meet
        exact ⟨rfl, B2⟩
      | false =>
        go_wp2_with fail
        refine (M1.out _ B2.out).mono ?_
        rintro e w3 ⟨rfl, hb⟩
        have B3 := Lib.hid (below_tr B2.out hb)
        clear hb
        cases q1 with
        | false =>
          go_wp2_with fail
          go_meet
          exact ⟨rfl, B3⟩
        | true =>
          go_wp2_with fail
          refine (M2.out _ B3.out).mono ?_
          rintro e w4 ⟨rfl, hb⟩
          have B4 := Lib.hid (below_tr B3.out hb)
          clear hb
          go_wp2_with fail
          go_meet
          exact ⟨by cases q2 <;> rfl, B4⟩
  case rest =>
    obtain ⟨rfl, HB1⟩ := hcut
    obtain ⟨P, hP⟩ : ∃ P, P = (p1 || p2 || !q1 || !q2) := ⟨_, rfl⟩
    have HP := Lib.hid hP
    rw [← hP]
    clear hP
    cases P with
    | true =>
      go_wp2_with fail
      refine (LV.out _ HB1.out).mono ?_
      rintro e w2 ⟨rfl, hb⟩
      go_wp2_with fail
      go_ret
      exact ⟨rfl, below_tr HB1.out hb⟩
    | false =>
      have hm : pMay L = true ∧ pMay M = true := by
        have h1 := HP.out
        rw [HQ1.out, HQ2.out] at h1
        cases h2 : pMay L <;> cases h3 : pMay M <;> simp [h2, h3] at h1 ⊢
      have HM := Lib.hid hm
      have T1 := Lib.hid (text_any wc (HS.out.on HB1.out) (fun s hs => Nat.le_trans (pw_sw HLL.out.1 s hs) (by omega)) (HTL.out.up HB1.out).1)
      have T2 := Lib.hid (fun (w' : World) (hb : Below w.heap.size w w') => text_any w' (HT.out.on hb) (fun s hs => Nat.le_trans (pw_sw HLL.out.2 s hs) (by omega)) (HTL.out.up hb).1)
      obtain ⟨S, hS⟩ : ∃ S, S = txt (pT L) := ⟨_, rfl⟩
      rw [← hS] at T1
      have HSS := Lib.hid hS
      have hz : S.size ≤ 10000000 := by rw [hS, txt_size]; exact pt_len hm.1 (fun s hs => (HS.out.ok s hs).p) HLL.out.1
      clear hm hS
      go_wp2_with fail
      refine T1.out.mono ?_
      rintro e w2 ⟨rfl, hb⟩
      have B2 := Lib.hid (below_tr HB1.out hb)
      clear hb
      have PA := Lib.hid (parse_any w2 HSS.out (pt_len HM.out.1 (fun s hs => (HS.out.ok s hs).p) HLL.out.1) (HTL.out.up B2.out))
      rw [pL_pT HM.out.1 (fun s hs => (HS.out.ok s hs).p.2)] at PA
      go_wp2_with fail
      refine PA.out.mono ?_
      rintro e w3 ⟨⟨hp, -⟩, hb⟩
      obtain ⟨C, rfl, hsm, -⟩ := hp _ rfl
      have B3 := Lib.hid (below_tr B2.out hb)
      clear hb hp
      have SA := Lib.hid (same_any w3 hsm (HS.out.on B3.out))
      rw [show decide (L = L) = true by simp] at SA
      clear hsm
      go_wp2_with fail
      refine SA.out.mono ?_
      rintro e w4 ⟨rfl, hb⟩
      have B4 := Lib.hid (below_tr B3.out hb)
      clear hb
      go_wp2_with fail
      go_loopw [8] (fun i wx => ∃ k : Nat, k ≤ S.size ∧ i = .int .i64 k ∧ Hid (Below w.heap.size w wx)) (fun i _ => S.size - (intOf i).toNat)
      case atStart => exact ⟨0, Nat.zero_le _, rfl, B4⟩
      case round =>
        obtain ⟨k, hk, rfl, HR⟩ := hrel
        by_cases hlt : k < S.size
        · obtain ⟨f1, f2⟩ := line_at HSS.out (pT_line L) hlt
          go_wp2_with fail
          go_roundw
          case rel => exact ⟨k + 1, by omega, by go_num, HR⟩
          case measure => simp [intOf] <;> omega
        · clear HN hz
          obtain ⟨b, hb0⟩ : ∃ b, b = decide (L = M) := ⟨_, rfl⟩
          have SB := Lib.hid (same_any wr (HS.out.on HR.out) (HT.out.on HR.out))
          rw [← hb0] at SB
          obtain ⟨R, hR⟩ : ∃ R, R = oN (pC L M) := ⟨_, rfl⟩
          obtain ⟨R', hR'⟩ : ∃ R, R = oN (pC M L) := ⟨_, rfl⟩
          have h3 : (R = -1 ∧ R' = 1 ∧ b = false) ∨ (R = 0 ∧ R' = 0 ∧ b = true) ∨ (R = 1 ∧ R' = -1 ∧ b = false) := by
            rw [pC_swap] at hR'
            cases hc : pC L M <;> rw [hc] at hR hR'
            · refine .inl ⟨hR, hR', ?_⟩
              rw [hb0]; exact decide_eq_false fun e => by rw [e, pC_self] at hc; cases hc
            · refine .inr (.inl ⟨hR, hR', ?_⟩)
              rw [hb0]; exact decide_eq_true (pC_eq hc)
            · refine .inr (.inr ⟨hR, hR', ?_⟩)
              rw [hb0]; exact decide_eq_false fun e => by rw [e, pC_self] at hc; cases hc
          obtain ⟨S2, hS2⟩ : ∃ S, S = txt (pT M) := ⟨_, rfl⟩
          rw [← hS2] at T2
          have hSS : (S.toList == S2.toList) = b := by
            rw [HSS.out, hS2, hb0, Bool.eq_iff_iff]
            simp only [beq_iff_eq, decide_eq_true_eq, txt_list]
            exact ⟨fun e => pT_inj HM.out.1 HM.out.2 e, fun e => by rw [e]⟩
          have C1 := Lib.hid (fun (w' : World) (hb : Below w.heap.size w w') => cmp_any w' (HS.out.on hb) (HT.out.on hb))
          have C2 := Lib.hid (fun (w' : World) (hb : Below w.heap.size w w') => cmp_any w' (HT.out.on hb) (HS.out.on hb))
          rw [← hR] at C1
          rw [← hR'] at C2
          have E1 := Lib.hid (fun (w' : World) (hb : Below w.heap.size w w') => begins_any w' (HS.out.on hb) (sm_nil w'))
          rw [show decide ([] <+: L) = true by simp] at E1
          have TO := Lib.hid (fun (w' : World) (hb : Below w.heap.size w w') => to_any w' (HS.out.on hb) zs_ok (by have := pW_len L; have := HS.out.len; have := HLL.out.1; omega) (fun x hx => Nat.le_trans (pw_sw HLL.out.1 x hx) (by omega)) (by decide))
          have E2 := Lib.hid (fun (w1 w' : World) (hb : Below w.heap.size w w1) (g : Nat) (hO : OS w1.heap.size w' g (n + 1) (L ++ [zs])) (hb' : Below w.heap.size w w') => begins_any w' (show Sm w' (some ⟨g, 0, none⟩) (n + 1) (n + 1) (L ++ [zs]) from by
            have h := hO.sm (fun s hs => by
              rcases List.mem_append.1 hs with hs | hs
              · exact HS.out.ok s hs
              · obtain rfl : s = zs := by simpa using hs
                exact zs_ok)
            rw [List.length_append, ← HS.out.len] at h
            exact h) (HS.out.on hb'))
          rw [show decide (L <+: L ++ [zs]) = true by simp] at E2
          clear hR hR' hb0 hS2
          go_wp2_with fail
          refine SB.out.mono ?_
          rintro e w5 ⟨rfl, hb⟩
          have B5 := Lib.hid (below_tr HR.out hb)
          clear hb
          rcases h3 with ⟨rfl, rfl, rfl⟩ | ⟨rfl, rfl, rfl⟩ | ⟨rfl, rfl, rfl⟩
          · go_wp2_with fail
            refine (C1.out _ B5.out).mono ?_
            rintro e w6 ⟨rfl, hb⟩
            have B6 := Lib.hid (below_tr B5.out hb)
            clear hb
            go_wp2_with fail
            refine (C2.out _ B6.out).mono ?_
            rintro e w7 ⟨rfl, hb⟩
            have B7 := Lib.hid (below_tr B6.out hb)
            clear hb
            go_wp2_with fail
            refine (C1.out _ B7.out).mono ?_
            rintro e w8 ⟨rfl, hb⟩
            have B8 := Lib.hid (below_tr B7.out hb)
            clear hb
            go_wp2_with fail
            refine (T2.out _ B8.out).mono ?_
            rintro e w9 ⟨rfl, hb⟩
            have B9 := Lib.hid (below_tr B8.out hb)
            clear hb
            go_wp2_with fail
            refine (E1.out _ B9.out).mono ?_
            rintro e w10 ⟨rfl, hb⟩
            have B10 := Lib.hid (below_tr B9.out hb)
            clear hb
            go_wp2_with fail
            refine (TO.out _ B10.out).mono ?_
            rintro e w11 ⟨⟨g, rfl, hO⟩, hb⟩
            have HO := Lib.hid hO
            have HB := Lib.hid hb
            have B11 := Lib.hid (below_tr B10.out hb)
            clear hb hO
            go_wp2_with fail
            refine (E2.out _ _ B10.out g HO.out B11.out).mono ?_
            rintro e w12 ⟨rfl, hb⟩
            have B12 := Lib.hid (below_tr B11.out hb)
            clear hb
            go_wp2_with fail
            refine (LV.out _ B12.out).mono ?_
            rintro e w13 ⟨rfl, hb⟩
            have B13 := Lib.hid (below_tr B12.out hb)
            clear hb
            go_wp2_with fail
            go_ret
            exact ⟨rfl, B13.out⟩
          · go_wp2_with fail
            refine (C1.out _ B5.out).mono ?_
            rintro e w6 ⟨rfl, hb⟩
            have B6 := Lib.hid (below_tr B5.out hb)
            clear hb
            go_wp2_with fail
            refine (C2.out _ B6.out).mono ?_
            rintro e w7 ⟨rfl, hb⟩
            have B7 := Lib.hid (below_tr B6.out hb)
            clear hb
            go_wp2_with fail
            refine (C1.out _ B7.out).mono ?_
            rintro e w8 ⟨rfl, hb⟩
            have B8 := Lib.hid (below_tr B7.out hb)
            clear hb
            go_wp2_with fail
            refine (T2.out _ B8.out).mono ?_
            rintro e w9 ⟨rfl, hb⟩
            have B9 := Lib.hid (below_tr B8.out hb)
            clear hb
            go_wp2_with fail
            refine (E1.out _ B9.out).mono ?_
            rintro e w10 ⟨rfl, hb⟩
            have B10 := Lib.hid (below_tr B9.out hb)
            clear hb
            go_wp2_with fail
            refine (TO.out _ B10.out).mono ?_
            rintro e w11 ⟨⟨g, rfl, hO⟩, hb⟩
            have HO := Lib.hid hO
            have HB := Lib.hid hb
            have B11 := Lib.hid (below_tr B10.out hb)
            clear hb hO
            go_wp2_with fail
            refine (E2.out _ _ B10.out g HO.out B11.out).mono ?_
            rintro e w12 ⟨rfl, hb⟩
            have B12 := Lib.hid (below_tr B11.out hb)
            clear hb
            go_wp2_with fail
            refine (LV.out _ B12.out).mono ?_
            rintro e w13 ⟨rfl, hb⟩
            have B13 := Lib.hid (below_tr B12.out hb)
            clear hb
            go_wp2_with fail
            go_ret
            exact ⟨rfl, B13.out⟩
          · go_wp2_with fail
            refine (C1.out _ B5.out).mono ?_
            rintro e w6 ⟨rfl, hb⟩
            have B6 := Lib.hid (below_tr B5.out hb)
            clear hb
            go_wp2_with fail
            refine (C2.out _ B6.out).mono ?_
            rintro e w7 ⟨rfl, hb⟩
            have B7 := Lib.hid (below_tr B6.out hb)
            clear hb
            go_wp2_with fail
            refine (C1.out _ B7.out).mono ?_
            rintro e w8 ⟨rfl, hb⟩
            have B8 := Lib.hid (below_tr B7.out hb)
            clear hb
            go_wp2_with fail
            refine (T2.out _ B8.out).mono ?_
            rintro e w9 ⟨rfl, hb⟩
            have B9 := Lib.hid (below_tr B8.out hb)
            clear hb
            go_wp2_with fail
            refine (E1.out _ B9.out).mono ?_
            rintro e w10 ⟨rfl, hb⟩
            have B10 := Lib.hid (below_tr B9.out hb)
            clear hb
            go_wp2_with fail
            refine (TO.out _ B10.out).mono ?_
            rintro e w11 ⟨⟨g, rfl, hO⟩, hb⟩
            have HO := Lib.hid hO
            have HB := Lib.hid hb
            have B11 := Lib.hid (below_tr B10.out hb)
            clear hb hO
            go_wp2_with fail
            refine (E2.out _ _ B10.out g HO.out B11.out).mono ?_
            rintro e w12 ⟨rfl, hb⟩
            have B12 := Lib.hid (below_tr B11.out hb)
            clear hb
            go_wp2_with fail
            refine (LV.out _ B12.out).mono ?_
            rintro e w13 ⟨rfl, hb⟩
            have B13 := Lib.hid (below_tr B12.out hb)
            clear hb
            go_wp2_with fail
            go_ret
            exact ⟨rfl, B13.out⟩
end Pa
end Go.Proofs.YtoebhnhiljlljaaDoor
