/- The law JtokensRead, walked: it answers true, and nothing that was there is turned. -/
import Derived.Test.YtfnahondlcbjnaaWe
namespace Go.Proofs.Ytfnahondlcbjnaa
open Go.RowKit
namespace Jk

theorem nx_both (l : List UInt8) (x : Int) : ∃ k p q cc aa : Int, 0 ≤ k ∧ k ≤ 255 ∧
    (∀ (A : Option Addr) (n c B : Nat) (w : World), n = l.length → n ≤ c → c ≤ maxLen → Byt w B A l → B ≤ w.heap.size → n ≤ 1000000 →
      Calls Try.prog 10 #[.slice A n c, .int .i64 x] w fun e w' => e = .returned (.tuple #[ltV k p q, fvV cc aa]) ∧ Below w.heap.size w w') ∧
    (∀ (A : Option Addr) (n c B : Nat) (w : World), n = l.length → n ≤ c → c ≤ maxLen → Byt w B A l → B ≤ w.heap.size → n ≤ 1000000 →
      Calls Try.prog 11 #[.slice A n c, .int .i64 x] w fun e w' => e = .returned (.tuple #[rtV k p q, fvV cc aa]) ∧ Below w.heap.size w w') := by
  by_cases hx : x < 0
  · exact ⟨0, 0, 0, 3, 0, by omega, by omega, fun A n c B w _ _ _ _ _ _ => lnext_neg n c w hx, fun A n c B w _ _ _ _ _ _ => rnext_neg n c w hx⟩
  · obtain ⟨i, rfl⟩ : ∃ i : Nat, x = i := ⟨x.toNat, by omega⟩
    by_cases hi : i < l.length
    · cases hr : nx (l.drop i) with
      | tok k m =>
        have hk := tk_kind (tk_of hr)
        refine ⟨k, i, ((i + m : Nat) : Int), 0, 0, by omega, by omega, fun A n c B w h1 h2 h3 h4 h5 h6 => ?_, fun A n c B w h1 h2 h3 h4 h5 h6 => ?_⟩
        · have := lnext_in n c i (x := i) w forms_ok h1 h2 h3 h4 h5 h6 rfl hi
          rwa [hr] at this
        · have := rnext_is n c i (x := i) w h1 h2 h3 h4 h5 h6 rfl
          rwa [hr] at this
      | bad m =>
        refine ⟨0, 0, 0, 3, ((i + m : Nat) : Int), by omega, by omega, fun A n c B w h1 h2 h3 h4 h5 h6 => ?_, fun A n c B w h1 h2 h3 h4 h5 h6 => ?_⟩
        · have := lnext_in n c i (x := i) w forms_ok h1 h2 h3 h4 h5 h6 rfl hi
          rwa [hr] at this
        · have := rnext_is n c i (x := i) w h1 h2 h3 h4 h5 h6 rfl
          rwa [hr] at this
    · refine ⟨0, 0, 0, 3, i, by omega, by omega, fun A n c B w h1 h2 h3 h4 h5 h6 => lnext_far n c i w forms_ok h1 h4 h5 h6 rfl (by omega), fun A n c B w h1 h2 h3 h4 h5 h6 => ?_⟩
      have := rnext_is n c i (x := i) w h1 h2 h3 h4 h5 h6 rfl
      rw [List.drop_eq_nil_of_le (by omega)] at this
      exact this
/-- A row's block, if there is any of it. -/
def rowOf (A : Option Addr) (N : Nat) : Option Nat := if N = 0 then none else (Value.slice A N N).ownBlock
/-- A row that is written over: its block alone has turned. -/
def WR (V : World) (A : Option Addr) (N : Nat) (wr : World) : Prop := V.grownBy wr (rowOf A N) ∧ (0 < N → ∃ (g : Nat) (cur : Array Value), A = some ⟨g, 0, none⟩ ∧ wr.heap[g]? = some (.cells cur TyL (0, 0)) ∧ N * 3 ≤ cur.size)
theorem WR.start {V : World} {b : Nat} {A : Option Addr} {N : Nat} {ts : List Tok} (h : TkR V b .u8 TyL A N ts) : WR V A N V := ⟨World.grownBy.refl _ _, fun h0 => by
  obtain ⟨g, cur, e, _, hg, hs, _⟩ := h.2 h0
  exact ⟨g, cur, e, hg, hs⟩⟩
theorem wr_set {V wr : World} {g : Nat} {N : Nat} (h : WR V (some ⟨g, 0, none⟩) N wr) (h0 : 0 < N) {j : Nat} (u : Value) : WR V (some ⟨g, 0, none⟩) N (wr.setCell ⟨g, j, none⟩ u) := by
  obtain ⟨h1, h2⟩ := h
  refine ⟨⟨h1.os, h1.tape, h1.output, by simpa using h1.size, fun k hk hne => ?_⟩, fun _ => ?_⟩
  · rw [heap_setCell_other wr ⟨g, j, none⟩ k u (by intro e; exact hne (by rw [rowOf, if_neg (by omega), e]; rfl))]
    exact h1.block k hk hne
  · obtain ⟨g', cur, e, hg, hs⟩ := h2 h0
    obtain rfl : g = g' := by injection e with e; injection e
    exact ⟨g, _, rfl, heap_setCell_same wr g j _ _ u hg, by simpa using hs⟩
theorem wr_cell {V wr : World} {g : Nat} {N : Nat} (h : WR V (some ⟨g, 0, none⟩) N wr) {k : Nat} (hk : k < N) : (∃ a, wr.cell? ⟨g, k * 3, none⟩ = some a) ∧ (∃ a, wr.cell? ⟨g, k * 3 + 1, none⟩ = some a) ∧ (∃ a, wr.cell? ⟨g, k * 3 + 2, none⟩ = some a) ∧
    wr.frozen? ⟨g, k * 3, none⟩ = false ∧ wr.frozen? ⟨g, k * 3 + 1, none⟩ = false ∧ wr.frozen? ⟨g, k * 3 + 2, none⟩ = false := by
  obtain ⟨g', cur, e, hg, hs⟩ := h.2 (by omega)
  obtain rfl : g = g' := by injection e with e; injection e
  have hin : ∀ r, r < 3 → ∃ a, wr.cell? ⟨g, k * 3 + r, none⟩ = some a := fun r hr => by
    rw [cell_of_row wr g _ cur TyL (0, 0) hg]
    have : k * 3 + r < cur.size := by omega
    exact ⟨_, Array.getElem?_eq_getElem this⟩
  have hfz : ∀ r, wr.frozen? ⟨g, r, none⟩ = false := fun r => by simp [World.frozen?, hg]
  exact ⟨hin 0 (by omega), hin 1 (by omega), hin 2 (by omega), hfz _, hfz _, hfz _⟩
theorem TkR.grown {w w' : World} {base : Nat} {kd : IntKind} {ty : TypeId} {A : Option Addr} {N : Nat} {ts : List Tok} {row : Option Nat} (h : TkR w base kd ty A N ts) (hg : w.grownBy w' row) (hne : ∀ k, row = some k → k < base) : TkR w' base kd ty A N ts := ⟨h.1, fun h0 => by
  obtain ⟨g, cur, e, hbg, hgg, r⟩ := h.2 h0
  exact ⟨g, cur, e, hbg, by rw [hg.block g (lt_blk hgg) (fun e => by have := hne g e.symm; omega)]; exact hgg, r⟩⟩
/-- A row's block lies from its base on. -/
theorem TkR.own {w : World} {base : Nat} {kd : IntKind} {ty : TypeId} {A : Option Addr} {N : Nat} {ts : List Tok} (h : TkR w base kd ty A N ts) {k : Nat} (hk : rowOf A N = some k) : base ≤ k ∧ k < w.heap.size := by
  have h0 : 0 < N := by
    rcases Nat.eq_zero_or_pos N with rfl | h0
    · cases hk
    · exact h0
  rw [rowOf, if_neg (by omega)] at hk
  obtain ⟨g, cur, rfl, hbg, hg, _⟩ := h.2 h0
  obtain rfl : g = k := by simpa [Value.ownBlock] using hk
  exact ⟨hbg, lt_blk hg⟩
section
variable {l : List UInt8} {A : Option Addr} {n c : Nat} {w : World} {x : Int}
theorem readl_long (ha : ArgB w A n c l) (h : 5000 < n) :
    Calls Try.prog 3 #[.slice A n c, .int .i64 x] w fun e w' => e = .returned (.bool true) ∧ Below w.heap.size w w' := by
  obtain ⟨_, h1, h2, _⟩ := ha
  unfold maxLen at h2
  have h' : (5000 : Int) < n := by omega
  go_enter Try.func3, Try.ntmps3
  go_wp2_with (go_at_call 6; refine (lives_any _).mono ?_; rintro e w' ⟨rfl, hb⟩)
  go_ret
  exact ⟨rfl, hb⟩
set_option maxHeartbeats 16000000 in
set_option maxRecDepth 100000 in
theorem readl_short (ha : ArgB w A n c l) (h : n ≤ 5000) :
    Calls Try.prog 3 #[.slice A n c, .int .i64 x] w fun e w' => e = .returned (.bool true) ∧ Below w.heap.size w w' := by
  have Ha := Lib.hid ha
  obtain ⟨hn, hnc, hcm, hA, hnil⟩ := ha
  have h' : ¬ (5000 : Int) < n := by omega
  have hcm' := hcm
  unfold maxLen at hcm'
  have Hn := Lib.hid hn
  have HA := Lib.hid hA
  have HCM := Lib.hid (And.intro hnc hcm)
  obtain ⟨cc, aa, hft, hcase⟩ := ftV_of (tks l 0).2
  have HFT := Lib.hid hft
  obtain ⟨k, p, q, dd, bb, k0, k1, hL, hR⟩ := nx_both l x
  have HL := Lib.hid hL
  have HR := Lib.hid hR
  clear hn hA hnil hft hcase hcm hL hR
  go_enter Try.func3, Try.ntmps3
  go_wp2_with fail
  refine (twin_any Ha.out (by omega)).mono ?_
  rintro e w1 ⟨rfl, hT, hb1, hlt1⟩
  have HT := Lib.hid hT
  have HB1 := Lib.hid hb1
  clear hT hb1
  go_wp2_with fail
  refine (lread_is (A := some ⟨w.heap.size, 0, none⟩) n (n + 3) w1 forms_ok Hn.out (by omega) (by unfold maxLen; omega) (Byt.front HT.out) (Nat.le_refl _) (by omega)).mono ?_
  rintro e w2 ⟨A1, N1, c1, he, hNc1, hcm1, hk1, hb2⟩
  rw [HFT.out] at he
  subst he
  unfold maxLen at hcm1
  have hN1 : N1 ≤ 5000 := by rw [hk1.1]; exact Nat.le_trans tks_few (by rw [← Hn.out]; exact h)
  have HK1 := Lib.hid hk1
  have HU2 := Lib.hid hb2
  clear hk1 hb2
  go_upto_region 5 with fail
  have HF1 := Lib.hid (FB.start (w := w2) (c := cc) (a := aa))
  have HA1 := Lib.hid ((Below.refl w2.heap.size w2).alloc (Nat.le_refl _) (fvO cc aa))
  obtain ⟨V1, hV1⟩ : ∃ V, V = w2.alloc (fvO cc aa) := ⟨_, rfl⟩
  rw [← hV1] at HF1 HA1 ⊢
  clear hV1
  have HV1 := Lib.hid (below_tr HU2.out HA1.out)
  have HX1 := Lib.hid (HK1.out.below HA1.out (Nat.le_refl _))
  have HBV1 := Lib.hid (HB1.out.trans (HV1.out.mono HB1.out.size))
  clear HK1 HA1 HU2
  go_wp2_with fail
  refine (rread_is (A := A) n c V1 Hn.out HCM.out.1 HCM.out.2 (HA.out.below HBV1.out) HBV1.out.size (by omega)).mono ?_
  rintro e w3 ⟨v2, he, ho2, hb3⟩
  rw [HFT.out] at he
  subst he
  obtain ⟨A2, N2, c2, rfl, hNc2, hcm2, _, hk2⟩ := own_tk ho2
  unfold maxLen at hcm2
  obtain rfl : N2 = N1 := by rw [hk2.1, HX1.out.1]
  have HK2 := Lib.hid hk2
  have HU3 := Lib.hid hb3
  clear hk2 hb3 ho2
  go_upto_region 6 with fail
  have HF2 := Lib.hid (FB.start (w := w3) (c := cc) (a := aa))
  have HA2 := Lib.hid ((Below.refl w3.heap.size w3).alloc (Nat.le_refl _) (fvO cc aa))
  obtain ⟨V2, hV2⟩ : ∃ V, V = w3.alloc (fvO cc aa) := ⟨_, rfl⟩
  rw [← hV2] at HF2 HA2 ⊢
  clear hV2
  have HV2 := Lib.hid (below_tr HU3.out HA2.out)
  have HX2 := Lib.hid (HX1.out.below HV2.out (Nat.le_refl _))
  have HY2 := Lib.hid (HK2.out.below HA2.out (Nat.le_refl _))
  have HG1 := Lib.hid (HF1.out.on HV2.out)
  have HS12 := Lib.hid (show Below w1.heap.size w1 V2 from below_tr HV1.out HV2.out)
  have HBV2 := Lib.hid (below_tr HBV1.out HV2.out)
  clear HK2 HA2 HU3 HF1
  go_wp2_with fail
  refine (HL.out (some ⟨w.heap.size, 0, none⟩) n (n + 3) w1.heap.size V2 Hn.out (by omega) (by unfold maxLen; omega) ((Byt.front HT.out).below HS12.out) HS12.out.size (by omega)).mono ?_
  rintro e w4 ⟨rfl, hb4⟩
  have HU4 := Lib.hid hb4
  clear hb4
  go_upto_region 7 with fail
  have HW3 := Lib.hid (W2.start (W := w4) (o := ltO k p q) (c := dd) (a := bb))
  obtain ⟨V3, hV3⟩ : ∃ V, V = (w4.alloc (ltO k p q)).alloc (fvO dd bb) := ⟨_, rfl⟩
  rw [← hV3] at HW3 ⊢
  clear hV3
  have HV3 := Lib.hid (below_tr HU4.out HW3.out.below)
  have HBV3 := Lib.hid (below_tr HBV2.out HV3.out)
  go_wp2_with fail
  refine (HR.out A n c w.heap.size V3 Hn.out HCM.out.1 HCM.out.2 (HA.out.below HBV3.out) HBV3.out.size (by omega)).mono ?_
  rintro e w5 ⟨rfl, hb5⟩
  have HU5 := Lib.hid hb5
  clear hb5
  go_upto_region 8 with fail
  have HW4 := Lib.hid (W2.start (W := w5) (o := rtO k p q) (c := dd) (a := bb))
  obtain ⟨V4, hV4⟩ : ∃ V, V = (w5.alloc (rtO k p q)).alloc (fvO dd bb) := ⟨_, rfl⟩
  rw [← hV4] at HW4 ⊢
  clear hV4
  have HV4 := Lib.hid (below_tr HU5.out HW4.out.below)
  have HV24 := Lib.hid (below_tr HV3.out HV4.out)
  have HX4 := Lib.hid (HX2.out.below HV24.out (Nat.le_refl _))
  have HY4 := Lib.hid (HY2.out.below HV24.out (Nat.le_refl _))
  have HS14 := Lib.hid (below_tr HS12.out HV24.out)
  have HBV4 := Lib.hid (below_tr HBV3.out HV4.out)
  obtain ⟨⟨a0, a1⟩, _, _⟩ := (HG1.out.on HV24.out).cells
  obtain ⟨⟨b0, b1⟩, _, _⟩ := (HF2.out.on HV24.out).cells
  obtain ⟨u0, u1, u2⟩ := HW3.out.toks
  obtain ⟨u3, u4⟩ := HW3.out.faults
  obtain ⟨y0, y1, y2⟩ := HW4.out.toks
  obtain ⟨y3, y4⟩ := HW4.out.faults
  have hl3 := World.block_lt_of_cell? _ _ u3
  have hl30 := World.block_lt_of_cell? _ _ u0
  have z0 : V4.cell? ⟨w4.heap.size, 0, none⟩ = some (.int .u8 k) := (HV4.out.cell (by exact hl30)).trans u0
  have z1 : V4.cell? ⟨w4.heap.size, 1, none⟩ = some (.int .i64 p) := (HV4.out.cell (by exact hl30)).trans u1
  have z2 : V4.cell? ⟨w4.heap.size, 2, none⟩ = some (.int .i64 q) := (HV4.out.cell (by exact hl30)).trans u2
  have z3 : V4.cell? ⟨w4.heap.size + 1, 0, none⟩ = some (.int .i64 dd) := (HV4.out.cell (by exact hl3)).trans u3
  have z4 : V4.cell? ⟨w4.heap.size + 1, 1, none⟩ = some (.int .i64 bb) := (HV4.out.cell (by exact hl3)).trans u4
  have hl4 := World.block_lt_of_cell? _ _ z0
  have hl5 := World.block_lt_of_cell? _ _ y0
  simp only at hl4 hl5
  clear u0 u1 u2 u3 u4 hl3 hl30
  have HKD := Lib.hid (fun (i : Nat) (t : Tok) (ht : (tks l 0).1[i]? = some t) => tks_kd _ 0 i t (Nat.le_refl _) ht)
  go_wp2_with fail
  refine (sames_is HX4.out HY4.out HKD.out hN1 hNc1 hNc2).mono ?_
  rintro e w6 ⟨rfl, hb6⟩
  have v0 : w6.cell? ⟨w4.heap.size, 0, none⟩ = some (.int .u8 k) := (hb6.cell (by exact hl4)).trans z0
  have v1 : w6.cell? ⟨w4.heap.size, 1, none⟩ = some (.int .i64 p) := (hb6.cell (by exact hl4)).trans z1
  have v2 : w6.cell? ⟨w4.heap.size, 2, none⟩ = some (.int .i64 q) := (hb6.cell (by exact hl4)).trans z2
  have x0 : w6.cell? ⟨w5.heap.size, 0, none⟩ = some (.int .i64 k) := (hb6.cell (by exact hl5)).trans y0
  have x1 : w6.cell? ⟨w5.heap.size, 1, none⟩ = some (.int .i64 p) := (hb6.cell (by exact hl5)).trans y1
  have x2 : w6.cell? ⟨w5.heap.size, 2, none⟩ = some (.int .i64 q) := (hb6.cell (by exact hl5)).trans y2
  have HU6 := Lib.hid hb6
  clear hb6 z0 z1 z2 z3 z4 y0 y1 y2 y3 y4 a0 a1 b0 b1
  go_wp2_with fail
  refine (same_is k0 k1 _).mono ?_
  rintro e w7 ⟨rfl, hb7⟩
  have HU7 := Lib.hid (below_tr HU6.out hb7)
  clear hb7 v0 v1 v2 x0 x1 x2
  have HS17 := Lib.hid (below_tr HS14.out HU7.out)
  have HB7 := Lib.hid (below_tr HBV4.out HU7.out)
  have HX7 := Lib.hid (HX4.out.below HU7.out (Nat.le_refl _))
  have HY7 := Lib.hid (HY4.out.below HU7.out (Nat.le_refl _))
  go_wp2_with fail
  refine (left_any n c Hn.out (HT.out.below HS17.out) (HA.out.below HB7.out) (by omega)).mono ?_
  rintro e w' ⟨rfl, rfl⟩
  have hV12 : V1.heap.size ≤ w7.heap.size := Nat.le_trans HV2.out.size (Nat.le_trans HV24.out.size HU7.out.size)
  have HOWN := Lib.hid (fun (k : Nat) (hk : rowOf A1 N2 = some k) => HX1.out.own hk)
  clear HX1 HX2 HX4 HY2 HY4 HG1 HF2 HW3 HW4 HV3 HV4 HV24 HU4 HU5 HU6 HBV1 HBV2 HBV3 HBV4 HV1 HV2 HS12 HS14 HL HR
  go_wp2_with fail
  go_loopw [14] (fun s wr => ∃ i : Nat, i ≤ N2 ∧ s = .int .i64 i ∧ Hid (WR w7 A1 N2 wr)) (fun s _ => N2 - (intOf s).toNat)
  case atStart => exact ⟨0, Nat.zero_le _, rfl, Lib.hid (WR.start HX7.out)⟩
  case round =>
    obtain ⟨i, hi, rfl, HW⟩ := hrel
    by_cases hlt : i < N2
    · obtain ⟨g1, rfl, _, _⟩ := HX7.out.at_ (by omega)
      obtain ⟨⟨a0, e0⟩, ⟨a1, e1⟩, ⟨a2, e2⟩, f0, f1, f2⟩ := wr_cell HW.out hlt
      go_wp2_with fail
      go_roundw
      case rel => exact ⟨i + 1, by omega, by go_num, Lib.hid (wr_set (wr_set (wr_set HW.out (by omega) _) (by omega) _) (by omega) _)⟩
      case measure => simp [intOf]; omega
    · obtain rfl : i = N2 := by omega
      have HGR := Lib.hid HW.out.1
      have hs1 : w1.heap.size ≤ wr.heap.size := Nat.le_trans HS17.out.size HGR.out.size
      have HTW := Lib.hid (show Byt wr w1.heap.size (some ⟨w.heap.size, 0, none⟩) (l ++ mark3) from
        Lst.keep (HT.out.below HS17.out) fun a ha => World.cell?_of_block (HGR.out.block _ (Nat.lt_of_lt_of_le ha HS17.out.size) (fun e => by have := (HOWN.out _ e.symm).1; omega)))
      have HYW := Lib.hid (HY7.out.grown HGR.out (fun k hk => (HOWN.out k hk).2))
      have HBW := Lib.hid (show Below w.heap.size w wr from HB7.out.grown HGR.out HB7.out.size (fun k hk => by have := (HOWN.out k hk).1; omega))
      clear HW HGR
      go_wp2_with fail
      refine (lread_is (A := some ⟨w.heap.size, 0, none⟩) n (n + 3) wr forms_ok Hn.out (by omega) (by unfold maxLen; omega) (Byt.front HTW.out) (by assumption) (by omega)).mono ?_
      rintro e w8 ⟨A3, N3, c3, he, hNc3, hcm3, hk3, hb8⟩
      rw [HFT.out] at he
      subst he
      unfold maxLen at hcm3
      have e3 : N3 = i := by rw [hk3.1, HX7.out.1]
      subst e3
      have HK3 := Lib.hid hk3
      have HU8 := Lib.hid hb8
      clear hk3 hb8
      go_upto_region 15 with fail
      have HA6 := Lib.hid ((Below.refl w8.heap.size w8).alloc (Nat.le_refl _) (fvO cc aa))
      obtain ⟨V6, hV6⟩ : ∃ V, V = w8.alloc (fvO cc aa) := ⟨_, rfl⟩
      rw [← hV6] at HA6 ⊢
      clear hV6
      have HV6 := Lib.hid (below_tr HU8.out HA6.out)
      have HB6 := Lib.hid (HBW.out.trans (HV6.out.mono HBW.out.size))
      go_wp2_with fail
      refine (sames_is (HK3.out.below HA6.out (Nat.le_refl _)) (HYW.out.below HV6.out (Nat.le_refl _)) HKD.out hN1 hNc3 hNc2).mono ?_
      rintro e w9 ⟨rfl, hb9⟩
      have HB9 := Lib.hid (below_tr HB6.out hb9)
      clear hb9
      go_wp2_with (go_at_call 6; refine (lives_any _).mono ?_; rintro e w' ⟨rfl, hb⟩)
      go_ret
      exact ⟨rfl, below_tr HB9.out hb⟩
theorem readl_any (ha : ArgB w A n c l) : Calls Try.prog 3 #[.slice A n c, .int .i64 x] w fun e w' => e = .returned (.bool true) ∧ Below w.heap.size w w' := by
  by_cases h : 5000 < n
  · exact readl_long ha h
  · exact readl_short ha (by omega)
theorem readl_at (ha : ArgB w A n c l) (_ : -9223372036854775808 ≤ x) (_ : x ≤ 9223372036854775807) : Calls Try.prog 3 #[.slice A n c, .int .i64 x] w fun e w' => e = .returned (.bool true) ∧ Below w.heap.size w w' := readl_any ha
end
end Jk
end Go.Proofs.Ytfnahondlcbjnaa
