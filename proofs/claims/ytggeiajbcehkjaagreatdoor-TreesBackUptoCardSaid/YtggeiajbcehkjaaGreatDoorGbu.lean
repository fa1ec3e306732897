/- The law TreesBack, walked. -/
import Derived.Test.YtggeiajbcehkjaaGreatDoorGbt
import Derived.Test.YtggeiajbcehkjaaGreatDoorGaw
import Derived.Deep.CutRange
import Derived.Deep.RegionHeldLaw
namespace Go.Proofs.YtggeiajbcehkjaaGreatDoor
open Go.RowKit
open Va (Bs V v0 Tx Vm Vk vO below_tr below_new heap_alloc_new get_lt vcells vshape iM)
namespace Tt
set_option maxRecDepth 100000

/-- What the law has made: the value's, the tree's, the root's value's block. -/
structure LB (w W : World) (h h2 h4 : Nat) (p q r s T p' q' r' s' : Value) : Prop where
  b : Below w.heap.size w W
  o : W.heap[h]? = some (vO p q r s)
  t : W.heap[h2]? = some (tO T (.int .i64 0))
  u : W.heap[h4]? = some (vO p' q' r' s')
theorem blk_on {W X : World} {h : Nat} {o : Obj} (e : W.heap[h]? = some o) (hb : Below W.heap.size W X) : X.heap[h]? = some o := (hb.block h (Array.getElem?_eq_some_iff.1 e).1).trans e
theorem LB.on {w W X : World} {h h2 h4 : Nat} {a b c d T a' b' c' d' : Value} (H : LB w W h h2 h4 a b c d T a' b' c' d') (hb : Below W.heap.size W X) : LB w X h h2 h4 a b c d T a' b' c' d' :=
  ⟨below_tr H.b hb, blk_on H.o hb, blk_on H.t hb, blk_on H.u hb⟩
theorem LB.cells {w W : World} {h h2 h4 : Nat} {a b c d T a' b' c' d' : Value} (H : LB w W h h2 h4 a b c d T a' b' c' d') :
    (W.cell? ⟨h, 0, none⟩ = some a ∧ W.cell? ⟨h, 1, none⟩ = some b ∧ W.cell? ⟨h, 2, none⟩ = some c ∧ W.cell? ⟨h, 3, none⟩ = some d) ∧ (W.cell? ⟨h2, 0, none⟩ = some T ∧ W.cell? ⟨h2, 1, none⟩ = some (.int .i64 0)) ∧
    (W.cell? ⟨h4, 0, none⟩ = some a' ∧ W.cell? ⟨h4, 1, none⟩ = some b' ∧ W.cell? ⟨h4, 2, none⟩ = some c' ∧ W.cell? ⟨h4, 3, none⟩ = some d') := ⟨(vcells H.o).1, (tcells H.t).1, (vcells H.u).1⟩
set_option maxHeartbeats 64000000 in
theorem back_any {x : V} {v : Value} {s : Nat} (w : World) (hv : Vm w v x) (hx : Va.wt x ≤ 1000000000000) (hs : s ≤ 65535) (hT : Jt.Tabs0 w) :
    Calls Tryz.prog 5 #[v, .int .u16 s] w fun e w' => e = .returned (.bool true) ∧ Below w.heap.size w w' := by
  have CL := Lib.hid (fun (X : World) (hb : Below w.heap.size w X) => lives_any X (hT.below hb))
  have CG := Lib.hid (fun (X : World) (hb : Below w.heap.size w X) => Va.great_any X hx (hv.on hb))
  have CM := Lib.hid (fun (hg : decide (1500 < Va.wt x) = false) (X : World) (hb : Below w.heap.size w X) => Va.lmay_any X (hv.on hb) (by have := of_decide_eq_false hg; omega))
  have HV := Lib.hid hv
  obtain ⟨G, hG⟩ : ∃ g, g = decide (1500 < Va.wt x) := ⟨_, rfl⟩
  obtain ⟨M, hM⟩ : ∃ g, g = Va.may x := ⟨_, rfl⟩
  simp only [← hG] at CG CM
  simp only [← hM] at CM
  have HG := Lib.hid hG
  have HM := Lib.hid hM
  obtain ⟨k, T, A, B, nl, c, m, d, rfl⟩ := vshape hv
  clear hG hM hv hx hT
  obtain ⟨h, hh⟩ : ∃ h, h = w.heap.size := ⟨_, rfl⟩
  obtain ⟨W1, hW1⟩ : ∃ W, W = w.alloc (vO (.int .u8 k) (.string T) (.slice A nl c) (.slice B m d)) := ⟨_, rfl⟩
  have HB1 := Lib.hid (show Below w.heap.size w W1 from by rw [hW1]; exact below_new ..)
  have HO1 := Lib.hid (show W1.heap[h]? = some (vO (.int .u8 k) (.string T) (.slice A nl c) (.slice B m d)) from by rw [hW1, hh]; exact heap_alloc_new ..)
  have HW1 := Lib.hid hW1
  clear hW1
  go_enter Tryz.func5, Tryz.ntmps5
  go_upto_region 1 with fail
  rw [← HW1.out, ← hh]
  clear HW1 hh
  obtain ⟨⟨x0, x1, x2, x3⟩, _⟩ := vcells HO1.out
  go_wp2_with fail
  refine (CG.out _ HB1.out).mono ?_
  rintro e w2 ⟨rfl, hb⟩
  have HB2 := Lib.hid (below_tr HB1.out hb)
  have HO2 := Lib.hid (blk_on HO1.out hb)
  clear hb x0 x1 x2 x3 HB1 HO1 CG
  cases G with
  | true =>
    clear CM HO2
    go_wp2_with fail
    refine (CL.out _ HB2.out).mono ?_
    rintro e w3 ⟨rfl, hb⟩
    go_wp2_with fail
    refine bodyPost_ret (v := .bool true) (by simp [results, Tryz.results5, go_sem, *]) rfl ?_
    exact ⟨by first | rfl | trivial, below_tr HB2.out hb⟩
  | false =>
  obtain ⟨⟨x0, x1, x2, x3⟩, _⟩ := vcells HO2.out
  go_wp2_with fail
  refine (CM.out (by first | rfl | trivial) _ HB2.out).mono ?_
  rintro e w3 ⟨rfl, hb⟩
  have HB3 := Lib.hid (below_tr HB2.out hb)
  have HO3 := Lib.hid (blk_on HO2.out hb)
  clear hb x0 x1 x2 x3 HB2 HO2 CM
  cases M with
  | false =>
    clear HO3
    go_wp2_with fail
    refine (CL.out _ HB3.out).mono ?_
    rintro e w4 ⟨rfl, hb⟩
    go_wp2_with fail
    refine bodyPost_ret (v := .bool true) (by simp [results, Tryz.results5, go_sem, *]) rfl ?_
    exact ⟨by first | rfl | trivial, below_tr HB3.out hb⟩
  | true =>
  have hm : Va.may x = true := HM.out.symm
  have hw : Va.wt x ≤ 1500 := by have := of_decide_eq_false HG.out.symm; omega
  have HP := Lib.hid (And.intro hm hw)
  obtain ⟨N, hN⟩ : ∃ N, Va.sz x = N + 1 := ⟨Va.sz x - 1, by have := sz_pos x; omega⟩
  have hN5 : N + 1 ≤ 1500 := by have := szw x; omega
  have HN := Lib.hid hN
  have CK := Lib.hid (fun (X : World) (hb : Below w.heap.size w X) => law_make X (HV.out.on hb) HP.out.1 HP.out.2)
  rw [HN.out] at CK
  have CV := Lib.hid (fun (X : World) (u : Value) (hu : Tm X u (mkT x)) (n : Nat) (hn : n < N + 1) => law_val X hu HP.out.1 HP.out.2 (n := n) (by rw [HN.out]; exact hn))
  have CY := Lib.hid (fun (X : World) (u : Value) (hu : Tm X u (mkT x)) => law_may X hu HP.out.1 HP.out.2)
  have CZ := Lib.hid (fun (X : World) (hb : Below w.heap.size w X) => show Calls Tryz.prog 31 #[.agg #[.int .u8 k, .string T, .slice A nl c, .slice B m d]] X fun e w' => e = .returned (.int .i64 ((N + 1 : Nat) : Int)) ∧ Below X.heap.size X w' from by
    have e := Va.lsize_any X (HV.out.on hb) (by have := HP.out.2; omega)
    rw [HP.out.1, HN.out] at e
    exact e)
  have CE := Lib.hid (fun (X : World) (u : Value) (hb : Below w.heap.size w X) (hu : Vm X u x) => Va.like_any 1500 x HP.out.2 (by omega) X _ u (HV.out.on hb) hu)
  clear hm hw HG HM hN
  obtain ⟨⟨x0, x1, x2, x3⟩, _⟩ := vcells HO3.out
  go_wp2_with fail
  refine (CK.out _ HB3.out).mono ?_
  rintro e w4 ⟨⟨g, rfl, ht⟩, hb⟩
  have HB4 := Lib.hid (below_tr HB3.out hb)
  have HO4 := Lib.hid (blk_on HO3.out hb)
  have HT4 := Lib.hid ht
  clear ht hb x0 x1 x2 x3 HB3 HO3 CK
  go_upto_region 4 with fail
  obtain ⟨h2, hh2⟩ : ∃ h, h = w4.heap.size := ⟨_, rfl⟩
  obtain ⟨W5, hW5⟩ : ∃ W, W = w4.alloc (tO (.slice (some ⟨g, 0, none⟩) (N + 1 : Nat) (N + 1 : Nat)) (.int .i64 0)) := ⟨_, rfl⟩
  have hb5 : Below w4.heap.size w4 W5 := by rw [hW5]; exact below_new ..
  have HX5 := Lib.hid (show W5.heap[h2]? = some (tO (.slice (some ⟨g, 0, none⟩) (N + 1 : Nat) (N + 1 : Nat)) (.int .i64 0)) from by rw [hW5, hh2]; exact heap_alloc_new ..)
  have HB5 := Lib.hid (below_tr HB4.out hb5)
  have HO5 := Lib.hid (blk_on HO4.out hb5)
  have HT5 := Lib.hid (HT4.out.on hb5)
  rw [← hW5, ← hh2]
  clear hW5 hh2 hb5 HB4 HO4 HT4
  obtain ⟨⟨y0, y1⟩, _⟩ := tcells HX5.out
  go_wp2_with fail
  refine (CV.out _ _ HT5.out 0 (Nat.succ_pos _)).mono ?_
  rintro e w6 ⟨⟨u, rfl, hu⟩, hb⟩
  obtain ⟨k', T', A', B', nl', c', m', d', rfl⟩ := vshape hu
  have HB6 := Lib.hid (below_tr HB5.out hb)
  have HO6 := Lib.hid (blk_on HO5.out hb)
  have HX6 := Lib.hid (blk_on HX5.out hb)
  have HT6 := Lib.hid (HT5.out.on hb)
  have HU6 := Lib.hid (show Vm w6 (.agg #[.int .u8 k', .string T', .slice A' nl' c', .slice B' m' d']) x from by have := hu; rwa [show VT (mkT x) ((0 : Nat) : Int) = x from (mk_val HP.out.1).2] at this)
  clear hu hb y0 y1 HB5 HO5 HX5 HT5
  go_upto_region 5 with fail
  obtain ⟨h4, hh4⟩ : ∃ h, h = w6.heap.size := ⟨_, rfl⟩
  obtain ⟨W7, hW7⟩ : ∃ W, W = w6.alloc (vO (.int .u8 k') (.string T') (.slice A' nl' c') (.slice B' m' d')) := ⟨_, rfl⟩
  have hb7 : Below w6.heap.size w6 W7 := by rw [hW7]; exact below_new ..
  have HD7 := Lib.hid (show LB w W7 h h2 h4 (.int .u8 k) (.string T) (.slice A nl c) (.slice B m d) (.slice (some ⟨g, 0, none⟩) (N + 1 : Nat) (N + 1 : Nat)) (.int .u8 k') (.string T') (.slice A' nl' c') (.slice B' m' d') from
    ⟨below_tr HB6.out hb7, blk_on HO6.out hb7, blk_on HX6.out hb7, by rw [hW7, hh4]; exact heap_alloc_new ..⟩)
  have HT7 := Lib.hid (HT6.out.on hb7)
  have HU7 := Lib.hid (HU6.out.on hb7)
  rw [← hW7, ← hh4]
  clear hW7 hh4 hb7 HB6 HO6 HX6 HT6 HU6
  go_cut [65] from 35 to 66 (fun q wx => q = .bool false ∧ Hid (LB w wx h h2 h4 (.int .u8 k) (.string T) (.slice A nl c) (.slice B m d) (.slice (some ⟨g, 0, none⟩) (N + 1 : Nat) (N + 1 : Nat)) (.int .u8 k') (.string T') (.slice A' nl' c') (.slice B' m' d')) ∧ Hid (Below W7.heap.size W7 wx))
  case first =>
    as_aux_lemma =>
    obtain ⟨⟨a0, a1, a2, a3⟩, ⟨b0, b1⟩, ⟨d0, d1, d2, d3⟩⟩ := HD7.out.cells
    have CEL := Lib.hid (fun (X : World) (hb : Below W7.heap.size W7 X) => CE.out X _ (below_tr HD7.out.b hb) (HU7.out.on hb))
    have CYL := Lib.hid (fun (X : World) (hb : Below W7.heap.size W7 X) => CY.out X _ (HT7.out.on hb))
    have CZL := Lib.hid (fun (X : World) (hb : Below W7.heap.size W7 X) => CZ.out X (below_tr HD7.out.b hb))
    have SS := Lib.hid (fun (X : World) (hb : Below W7.heap.size W7 X) => (HD7.out.on hb).cells)
    have S0 := Lib.hid (show Below W7.heap.size W7 W7.drew from (Below.refl _ _).drew)
    go_region_held_law (fun X => (X.cell? ⟨h, 0, none⟩ = some (.int .u8 k) ∧ X.cell? ⟨h, 1, none⟩ = some (.string T) ∧ X.cell? ⟨h, 2, none⟩ = some (.slice A nl c) ∧ X.cell? ⟨h, 3, none⟩ = some (.slice B m d)) ∧ (X.cell? ⟨h2, 0, none⟩ = some (.slice (some ⟨g, 0, none⟩) (N + 1 : Nat) (N + 1 : Nat)) ∧ X.cell? ⟨h2, 1, none⟩ = some (.int .i64 0)) ∧
        (X.cell? ⟨h4, 0, none⟩ = some (.int .u8 k') ∧ X.cell? ⟨h4, 1, none⟩ = some (.string T') ∧ X.cell? ⟨h4, 2, none⟩ = some (.slice A' nl' c') ∧ X.cell? ⟨h4, 3, none⟩ = some (.slice B' m' d')))
      (first | (with_reducible exact SS.out _ S0.out) | (refine SS.out _ ?_; with_reducible exact HQ1.out) | (refine SS.out _ ?_; with_reducible exact HQ2.out) | (refine SS.out _ ?_; with_reducible exact HQ3.out))
      (first
        | (go_simp; go_at_call 14; refine (CEL.out _ S0.out).mono ?_; rintro e w8 ⟨rfl, hb⟩; have HQ1 := Lib.hid (below_tr S0.out hb); clear hb)
        | (go_simp; go_at_call 12; refine (CYL.out _ HQ1.out).mono ?_; rintro e w9 ⟨rfl, hb⟩; have HQ2 := Lib.hid (below_tr HQ1.out hb); clear hb)
        | (go_simp; go_at_call 31; refine (CZL.out _ HQ2.out).mono ?_; rintro e w10 ⟨rfl, hb⟩; have HQ3 := Lib.hid (below_tr HQ2.out hb); clear hb))
    all_goals
      have HD10 := Lib.hid (HD7.out.on HQ3.out)
      go_wp2_with fail
      go_meet
      exact ⟨by first | rfl | trivial, HD10, HQ3⟩
  case rest =>
  obtain ⟨rfl, HD8, HB8⟩ := hcut
  have HT8 := Lib.hid (HT7.out.on HB8.out)
  clear HD7 HT7 HU7 HB8 CE CZ
  obtain ⟨r, hr⟩ : ∃ r, r = s % (N + 1) := ⟨_, rfl⟩
  have hr1 : r < N + 1 := by rw [hr]; exact Nat.mod_lt _ (Nat.succ_pos _)
  have hmod : Int.tmod ((s : Nat) : Int) ((N + 1 : Nat) : Int) = ((r : Nat) : Int) := by
    rw [hr, Int.tmod_eq_emod_of_nonneg (by omega)]; exact (Int.natCast_emod _ _).symm
  have hws : IntKind.i64.wrap ((s : Nat) : Int) = ((s : Nat) : Int) := by rw [IntKind.wrap_i64]; omega
  have hwr : IntKind.i64.wrap ((r : Nat) : Int) = ((r : Nat) : Int) := by rw [IntKind.wrap_i64]; omega
  have hmod2 : ((s : Nat) : Int) % (((N : Nat) : Int) + 1) = ((r : Nat) : Int) := by rw [hr, Int.natCast_emod, Int.natCast_add]; rfl
  clear hr
  obtain ⟨_, ⟨b0, b1⟩, _⟩ := HD8.out.cells
  go_wp2_with fail
  refine (CV.out _ _ HT8.out r hr1).mono ?_
  rintro e w9 ⟨⟨u9, rfl, hu⟩, hb⟩
  obtain ⟨k9, T9, A9, B9, n9, c9, m9, d9, rfl⟩ := vshape hu
  have HD9 := Lib.hid (HD8.out.on hb)
  have HT9 := Lib.hid (HT8.out.on hb)
  have HU9 := Lib.hid hu
  clear hu hb b0 b1 HD8 HT8 CV hmod hws
  go_upto_region 9 with fail
  try rw [hmod2]
  clear hmod2
  obtain ⟨h8, hh8⟩ : ∃ h, h = w9.heap.size := ⟨_, rfl⟩
  obtain ⟨W10, hW10⟩ : ∃ W, W = w9.alloc (vO (.int .u8 k9) (.string T9) (.slice A9 n9 c9) (.slice B9 m9 d9)) := ⟨_, rfl⟩
  have hb10 : Below w9.heap.size w9 W10 := by rw [hW10]; exact below_new ..
  have HD10 := Lib.hid (HD9.out.on hb10)
  have HT10 := Lib.hid (HT9.out.on hb10)
  have HU10 := Lib.hid (HU9.out.on hb10)
  have HX10 := Lib.hid (show W10.heap[h8]? = some (vO (.int .u8 k9) (.string T9) (.slice A9 n9 c9) (.slice B9 m9 d9)) from by rw [hW10, hh8]; exact heap_alloc_new ..)
  rw [← hW10, ← hh8]
  clear hW10 hh8 hb10 HD9 HT9 HU9
  go_cut [95] from 78 to 96 (fun q wx => q = .bool false ∧ Hid (LB w wx h h2 h4 (.int .u8 k) (.string T) (.slice A nl c) (.slice B m d) (.slice (some ⟨g, 0, none⟩) (N + 1 : Nat) (N + 1 : Nat)) (.int .u8 k') (.string T') (.slice A' nl' c') (.slice B' m' d')) ∧ Hid (Below W10.heap.size W10 wx))
  case first =>
    as_aux_lemma =>
    obtain ⟨⟨a0, a1, a2, a3⟩, ⟨b0, b1⟩, _⟩ := HD10.out.cells
    obtain ⟨⟨d0, d1, d2, d3⟩, _⟩ := vcells HX10.out
    have hr2 : r < Va.sz x := by rw [HN.out]; exact hr1
    have CZL := Lib.hid (fun (X : World) (hb : Below W10.heap.size W10 X) => law_vsize X (HU10.out.on hb) HP.out.1 HP.out.2 hr2)
    have CSL := Lib.hid (fun (X : World) (hb : Below W10.heap.size W10 X) => law_size X (HT10.out.on hb) HP.out.1 HP.out.2 hr2)
    have CEL := Lib.hid (fun (X : World) (hb : Below W10.heap.size W10 X) => law_same X (HT10.out.on hb) HP.out.1 HP.out.2 hr2)
    obtain ⟨Z, hZ⟩ : ∃ z, z = Va.sz (VT (mkT x) ((r : Nat) : Int)) := ⟨_, rfl⟩
    rw [← hZ] at CZL CSL
    have SS := Lib.hid (fun (X : World) (hb : Below W10.heap.size W10 X) => And.intro (HD10.out.on hb).cells.2.1 (vcells (blk_on HX10.out hb)).1)
    have S0 := Lib.hid (show Below W10.heap.size W10 W10.drew from (Below.refl _ _).drew)
    clear hZ hr2 a0 a1 a2 a3 HN
    go_region_held_law (fun X => (X.cell? ⟨h2, 0, none⟩ = some (.slice (some ⟨g, 0, none⟩) (N + 1 : Nat) (N + 1 : Nat)) ∧ X.cell? ⟨h2, 1, none⟩ = some (.int .i64 0)) ∧
        (X.cell? ⟨h8, 0, none⟩ = some (.int .u8 k9) ∧ X.cell? ⟨h8, 1, none⟩ = some (.string T9) ∧ X.cell? ⟨h8, 2, none⟩ = some (.slice A9 n9 c9) ∧ X.cell? ⟨h8, 3, none⟩ = some (.slice B9 m9 d9)))
      (first | (with_reducible exact SS.out _ S0.out) | (refine SS.out _ ?_; with_reducible exact HQ1.out) | (refine SS.out _ ?_; with_reducible exact HQ2.out) | (refine SS.out _ ?_; with_reducible exact HQ3.out))
      (first
        | (go_simp; go_at_call 31; refine (CZL.out _ S0.out).mono ?_; rintro e w11 ⟨rfl, hb⟩; have HQ1 := Lib.hid (below_tr S0.out hb); clear hb)
        | (go_simp; go_at_call 32; refine (CSL.out _ HQ1.out).mono ?_; rintro e w12 ⟨rfl, hb⟩; have HQ2 := Lib.hid (below_tr HQ1.out hb); clear hb)
        | (go_simp; go_at_call 15; refine (CEL.out _ HQ2.out).mono ?_; rintro e w13 ⟨rfl, hb⟩; have HQ3 := Lib.hid (below_tr HQ2.out hb); clear hb))
    all_goals
      have HD14 := Lib.hid (HD10.out.on HQ3.out)
      go_wp2_with fail
      go_meet
      exact ⟨by first | rfl | trivial, HD14, HQ3⟩
  case rest =>
  obtain ⟨rfl, HD11, HB11⟩ := hcut
  have HT11 := Lib.hid (HT10.out.on HB11.out)
  clear HD10 HT10 HU10 HX10 HB11
  go_upto_region 11 with fail
  obtain ⟨WB, hWB⟩ : ∃ q, q = wc := ⟨_, rfl⟩
  subst hWB
  obtain ⟨hnl, hrt, hnx⟩ := tm_nx HT11.out
  obtain ⟨hgl, ys, hyl, hy1, hyc, hyn⟩ := nx_cells hnx (by omega)
  have HYL := Lib.hid (show ys.length = (N + 1) * 7 from by rw [hyl, ← hnl])
  have HY1 := Lib.hid hy1
  have HYC := Lib.hid hyc
  have HYN := Lib.hid hyn
  have HNL := Lib.hid (And.intro hnl hrt)
  have HGL := Lib.hid hgl
  clear hnl hrt hnx hgl hyl hy1 hyc hyn
  go_cut [12] from 96 to 105 (fun a wx => ∃ gt A5 c5 : Nat, a = .pointer (some ⟨gt, 0, none⟩) ∧ Hid (NvR WB wx gt (.slice (some ⟨A5, 0, none⟩) (N + 1 + 1) c5) (N + 1 + 1) (ys ++ zC)))
  case first =>
    obtain ⟨_, ⟨b0, b1⟩, _⟩ := HD11.out.cells
    have HS0 := Lib.hid (NvS.start WB).dr
    have HST := Lib.hid (NvS.start WB).alT.dr
    have HSZ := Lib.hid (NvS.start WB).alZ.dr
    have HSX := Lib.hid (NvS.start WB).alZ.alT.dr
    have HSY := Lib.hid (NvS.start WB).alT.alZ.dr
    have SS := Lib.hid (fun (X : World) (hb : Below WB.heap.size WB X) => (HD11.out.on hb).cells.2.1)
    clear HD11 HT11 HYN HNL HN
    go_region_held_law (fun X => X.cell? ⟨h2, 0, none⟩ = some (.slice (some ⟨g, 0, none⟩) (N + 1 : Nat) (N + 1 : Nat)) ∧ X.cell? ⟨h2, 1, none⟩ = some (.int .i64 0))
      (first | (with_reducible exact SS.out _ HS0.out.below) | (with_reducible exact SS.out _ HST.out.below) | (with_reducible exact SS.out _ HSZ.out.below) | (with_reducible exact SS.out _ HSX.out.below) | (with_reducible exact SS.out _ HSY.out.below) | (with_reducible exact SS.out _ HS0.out.alZ.below) | (with_reducible exact SS.out _ HST.out.alZ.below) | (with_reducible exact SS.out _ HS0.out.alT.below) | (with_reducible exact SS.out _ HSZ.out.alT.below) | (with_reducible exact SS.out _ HS0.out.alZ.alT.below) | (with_reducible exact SS.out _ HS0.out.alT.alZ.below) | (with_reducible exact SS.out _ H5.out.below) | (with_reducible exact SS.out _ H5.out.alZ.below) | (with_reducible exact SS.out _ H5.out.alT.below) | (with_reducible exact SS.out _ H5.out.alZ.alT.below) | (with_reducible exact SS.out _ H5.out.alT.alZ.below) | (with_reducible exact SS.out _ H6.out.below) | (with_reducible exact SS.out _ H6.out.alT.below) | (with_reducible exact SS.out _ H6.out.fin.below) | (with_reducible exact SS.out _ H6.out.alT.fin.below) | (with_reducible exact SS.out _ H6.out.finL.below) | exact SS.out _ H6.out.finL.below | exact SS.out _ H6.out.fin.below)
      (first
        | (refine step_nodes rfl (.const (.slice none 0 0)) (.tmp 97) rfl HS0.out (by first | rfl | simp [Act.eval]) ⟨g, 0, none⟩ (N + 1) (N + 1) ys (by first | rfl | simp [Act.eval]) HYL.out (fun j u hu => (HS0.out.below.cell (p := (⟨g, 0, none⟩ : Addr).add j) (by rw [addAt]; exact HGL.out)).trans (HYC.out j u hu)) HY1.out (Nat.succ_pos _) (N + 1) (Nat.zero_add _) (by omega) ?_; intro g5 c5 w5 h5; (try simp only [s1] at h5); have H5 := Lib.hid h5; clear h5)
        | (refine step_nodes rfl (.const (.slice none 0 0)) (.tmp 97) rfl HST.out (by first | rfl | simp [Act.eval]) ⟨g, 0, none⟩ (N + 1) (N + 1) ys (by first | rfl | simp [Act.eval]) HYL.out (fun j u hu => (HST.out.below.cell (p := (⟨g, 0, none⟩ : Addr).add j) (by rw [addAt]; exact HGL.out)).trans (HYC.out j u hu)) HY1.out (Nat.succ_pos _) (N + 1) (Nat.zero_add _) (by omega) ?_; intro g5 c5 w5 h5; (try simp only [s1] at h5); have H5 := Lib.hid h5; clear h5)
        | (refine step_nodes rfl (.const (.slice none 0 0)) (.tmp 97) rfl HSZ.out (by first | rfl | simp [Act.eval]) ⟨g, 0, none⟩ (N + 1) (N + 1) ys (by first | rfl | simp [Act.eval]) HYL.out (fun j u hu => (HSZ.out.below.cell (p := (⟨g, 0, none⟩ : Addr).add j) (by rw [addAt]; exact HGL.out)).trans (HYC.out j u hu)) HY1.out (Nat.succ_pos _) (N + 1) (Nat.zero_add _) (by omega) ?_; intro g5 c5 w5 h5; (try simp only [s1] at h5); have H5 := Lib.hid h5; clear h5)
        | (refine step_nodes rfl (.const (.slice none 0 0)) (.tmp 97) rfl HSX.out (by first | rfl | simp [Act.eval]) ⟨g, 0, none⟩ (N + 1) (N + 1) ys (by first | rfl | simp [Act.eval]) HYL.out (fun j u hu => (HSX.out.below.cell (p := (⟨g, 0, none⟩ : Addr).add j) (by rw [addAt]; exact HGL.out)).trans (HYC.out j u hu)) HY1.out (Nat.succ_pos _) (N + 1) (Nat.zero_add _) (by omega) ?_; intro g5 c5 w5 h5; (try simp only [s1] at h5); have H5 := Lib.hid h5; clear h5)
        | (refine step_nodes rfl (.const (.slice none 0 0)) (.tmp 97) rfl HSY.out (by first | rfl | simp [Act.eval]) ⟨g, 0, none⟩ (N + 1) (N + 1) ys (by first | rfl | simp [Act.eval]) HYL.out (fun j u hu => (HSY.out.below.cell (p := (⟨g, 0, none⟩ : Addr).add j) (by rw [addAt]; exact HGL.out)).trans (HYC.out j u hu)) HY1.out (Nat.succ_pos _) (N + 1) (Nat.zero_add _) (by omega) ?_; intro g5 c5 w5 h5; (try simp only [s1] at h5); have H5 := Lib.hid h5; clear h5)
        | (refine step_nodes rfl (.tmp 98) (.tmp 100) rfl H5.out (by first | rfl | simp [Act.eval]) ⟨_, 0, none⟩ 1 1 zC (by first | rfl | simp [Act.eval]) rfl (World.news_of_block (H5.out.az _ rfl).1) zC_one (Nat.succ_pos _) (N + 1 + 1) rfl (by omega) ?_; intro g6 c6 w6 h6; (try simp only [s1] at h6); have H6 := Lib.hid h6; clear h6; first | (obtain ⟨⟨z0, z1⟩, t0, t1⟩ := tcells (H6.out.ap _ rfl).1) | skip)
        | (refine step_nodes rfl (.tmp 98) (.tmp 100) rfl H5.out.alZ (by first | rfl | simp [Act.eval]) ⟨_, 0, none⟩ 1 1 zC (by first | rfl | simp [Act.eval]) rfl (World.news_of_block (H5.out.alZ.az _ rfl).1) zC_one (Nat.succ_pos _) (N + 1 + 1) rfl (by omega) ?_; intro g6 c6 w6 h6; (try simp only [s1] at h6); have H6 := Lib.hid h6; clear h6; first | (obtain ⟨⟨z0, z1⟩, t0, t1⟩ := tcells (H6.out.ap _ rfl).1) | skip)
        | (refine step_nodes rfl (.tmp 98) (.tmp 100) rfl H5.out.alT (by first | rfl | simp [Act.eval]) ⟨_, 0, none⟩ 1 1 zC (by first | rfl | simp [Act.eval]) rfl (World.news_of_block (H5.out.alT.az _ rfl).1) zC_one (Nat.succ_pos _) (N + 1 + 1) rfl (by omega) ?_; intro g6 c6 w6 h6; (try simp only [s1] at h6); have H6 := Lib.hid h6; clear h6; first | (obtain ⟨⟨z0, z1⟩, t0, t1⟩ := tcells (H6.out.ap _ rfl).1) | skip)
        | (refine step_nodes rfl (.tmp 98) (.tmp 100) rfl H5.out.alZ.alT (by first | rfl | simp [Act.eval]) ⟨_, 0, none⟩ 1 1 zC (by first | rfl | simp [Act.eval]) rfl (World.news_of_block (H5.out.alZ.alT.az _ rfl).1) zC_one (Nat.succ_pos _) (N + 1 + 1) rfl (by omega) ?_; intro g6 c6 w6 h6; (try simp only [s1] at h6); have H6 := Lib.hid h6; clear h6; first | (obtain ⟨⟨z0, z1⟩, t0, t1⟩ := tcells (H6.out.ap _ rfl).1) | skip)
        | (refine step_nodes rfl (.tmp 98) (.tmp 100) rfl H5.out.alT.alZ (by first | rfl | simp [Act.eval]) ⟨_, 0, none⟩ 1 1 zC (by first | rfl | simp [Act.eval]) rfl (World.news_of_block (H5.out.alT.alZ.az _ rfl).1) zC_one (Nat.succ_pos _) (N + 1 + 1) rfl (by omega) ?_; intro g6 c6 w6 h6; (try simp only [s1] at h6); have H6 := Lib.hid h6; clear h6; first | (obtain ⟨⟨z0, z1⟩, t0, t1⟩ := tcells (H6.out.ap _ rfl).1) | skip))
    all_goals
      try simp only [Act.put, List.getElem?_toArray, List.getElem?_cons_succ, List.getElem?_cons_zero, List.getElem_toArray, List.getElem_cons_succ, List.getElem_cons_zero, List.setIfInBounds_toArray, List.set_cons_zero, List.set_cons_succ]
      try go_wp2_with fail
      go_meet
      first
        | exact ⟨_, _, _, rfl, Lib.hid H6.out.fin⟩
        | exact ⟨_, _, _, rfl, Lib.hid H6.out.finL⟩
        | exact ⟨_, _, _, rfl, Lib.hid H6.out.alT.fin⟩
  case rest =>
  obtain ⟨gt, A5, c5, rfl, HR⟩ := hcut
  have HD12 := Lib.hid (HD11.out.on HR.out.below)
  have HT12 := Lib.hid (HT11.out.on HR.out.below)
  have HM12 := Lib.hid (row_tm HR.out.own (L := (mkT x).nodes ++ [zN]) (by rw [List.length_append, ← HNL.out.1]; rfl) (Nat.succ_pos _) ((HYN.out.on HR.out.below).more (by rw [HYL.out, HNL.out.1])))
  have HX12 := Lib.hid HR.out.cells
  clear HR HD11 HT11 HYL HY1 HYC HYN HGL
  obtain ⟨m0, m1⟩ := HX12.out
  go_wp2_with fail
  refine (law_more _ HM12.out HP.out.1 HP.out.2).mono ?_
  rintro e w13 ⟨rfl, hb⟩
  have HD13 := Lib.hid (HD12.out.on hb)
  have HT13 := Lib.hid (HT12.out.on hb)
  clear hb m0 m1 HX12 HM12 HD12 HT12
  obtain ⟨y, hy⟩ := get_lt (l := (mkT x).nodes) (i := r) (by rw [← HNL.out.1]; exact hr1)
  obtain ⟨g', o', e, hg, hf⟩ := (tm_nx HT13.out).2.2 (by rw [← HNL.out.1]; omega)
  injection e with e
  injection e with e1 e2 _
  subst e1 e2
  obtain ⟨K, S, U, ka, kb, kc, hcell, hNr⟩ := hf r y hy
  have n4 := hcell 4 _ rfl
  rw [Nat.zero_add] at n4
  have HY := Lib.hid hy
  have HUX := Lib.hid hNr.subs
  have HG := Lib.hid hg
  obtain ⟨ul, HU⟩ : ∃ n, Hid (n = y.subs.length) := ⟨_, Lib.hid rfl⟩
  rw [← HU.out] at n4
  have hul : ul ≤ 1000000 := by
    have h1 := wNs_subs (List.mem_of_getElem? hy)
    have h2 := mk_wn HP.out.1 HP.out.2
    rw [HU.out]; omega
  have hi0 : ¬ (((r : Nat) : Int) < 0) := by omega
  have hin : ¬ ((((N : Nat) : Int) + 1) ≤ ((r : Nat) : Int)) := by omega
  clear hy hf hcell hNr hg
  obtain ⟨_, ⟨b0, b1⟩, _⟩ := HD13.out.cells
  by_cases h1 : 1 < ul
  case neg =>
    have hn1 : ¬ ((1 : Int) < ((ul : Nat) : Int)) := by omega
    go_wp2_with fail
    refine (CL.out _ HD13.out.b).mono ?_
    rintro e w14 ⟨rfl, hb⟩
    go_wp2_with fail
    refine bodyPost_ret (v := .bool true) (by simp [results, Tryz.results5, go_sem, *]) rfl ?_
    exact ⟨by first | rfl | trivial, below_tr HD13.out.b hb⟩
  case pos =>
  have hn1 : (1 : Int) < ((ul : Nat) : Int) := by omega
  obtain ⟨bb, aa, rest, hs0⟩ : ∃ bb aa rest, y.subs = bb :: aa :: rest := by
    match hq : y.subs with
    | [] => rw [HU.out, hq] at h1; simp at h1
    | [_] => rw [HU.out, hq] at h1; simp at h1
    | bb :: aa :: rest => exact ⟨bb, aa, rest, rfl⟩
  have HSB := Lib.hid hs0
  obtain ⟨ug, uo, rfl, hug, huf⟩ := HUX.out (by rw [← HU.out]; omega)
  have HUF := Lib.hid huf
  have HUG := Lib.hid hug
  clear hs0 huf hug
  go_upto_region 16 with (at_builtin; refine wpList_ints rfl (.tmp 120) rfl ⟨ug, uo, none⟩ ul kc y.subs (by first | rfl | simp [Act.eval]) HU.out (fun j z hz => by rw [addAt]; exact (HUF.out j z hz).1) (by omega) hul ?_; intro gl cl w15 own15 hb15; have HO15 := Lib.hid own15; have HB15 := Lib.hid hb15; clear own15 hb15)
  have HD15 := Lib.hid (HD13.out.on HB15.out)
  have HT15 := Lib.hid (HT13.out.on HB15.out)
  have hl0 : w15.cell? ⟨gl, 0, none⟩ = some (.int .i64 bb) := by rw [HO15.out.cellAt 0 (by omega), HSB.out]; rfl
  have hl1 : w15.cell? ⟨gl, 1, none⟩ = some (.int .i64 aa) := by rw [HO15.out.cellAt 1 (by omega), HSB.out]; rfl
  have hlf : w15.frozen? ⟨gl, 0, none⟩ = false := HO15.out.frozenAt 0
  clear n4 b0 b1
  go_upto_region 17 with fail
  have hle : w13.heap.size ≤ gl := (HO15.out.lt gl rfl).1
  obtain ⟨WC, hWC⟩ : ∃ q, q = w15.setCell ⟨gl, 0, none⟩ (.int .i64 aa) := ⟨_, rfl⟩
  have hbc : Below w13.heap.size w13 WC := by rw [hWC]; exact HB15.out.setCell (p := ⟨gl, 0, none⟩) hle _
  have HDC := Lib.hid (HD13.out.on hbc)
  have HTC := Lib.hid (HT13.out.on hbc)
  have hsl : (y.subs.set 0 aa).length = ul := by rw [List.length_set]; exact HU.out.symm
  have HIX := Lib.hid (ints_ix (show WC.ownsRow w13.heap.size 3 1 (.slice (some ⟨gl, 0, none⟩) ul cl) ul (inC (y.subs.set 0 aa)) from by rw [hWC]; exact ints_set HO15.out 0 aa) (by omega) (fun z hz => by
    have hin : ∀ z, z ∈ y.subs → i64 z := fun z hz => by
      obtain ⟨j, hj⟩ := List.getElem?_of_mem hz
      exact (HUF.out j z hj).2
    rcases List.mem_or_eq_of_mem_set hz with hz | hz
    · exact hin z hz
    · exact hin z (by rw [HSB.out, hz]; simp)))
  have HSL := Lib.hid hsl
  rw [← hWC]
  clear hWC hbc hle hsl HD13 HT13 HD15 HT15 HB15 HO15 hl0 hl1 hlf HUF HUG HUX HG
  obtain ⟨hgl, ys2, hyl, hy1, hyc, hyn⟩ := nx_cells (tm_nx HTC.out).2.2 (by rw [← HNL.out.1]; omega)
  have HYL2 := Lib.hid (show ys2.length = (N + 1) * 7 from by rw [hyl, ← HNL.out.1])
  have HY2 := Lib.hid hy1
  have HYC2 := Lib.hid hyc
  have HYN2 := Lib.hid hyn
  have HGL2 := Lib.hid hgl
  clear hgl hyl hy1 hyc hyn
  go_cut [14] from 127 to 133 (fun a wx => ∃ gt A5 c5 : Nat, a = .pointer (some ⟨gt, 0, none⟩) ∧ Hid (NvR WC wx gt (.slice (some ⟨A5, 0, none⟩) (N + 1) c5) (N + 1) ys2))
  case first =>
    as_aux_lemma =>
    obtain ⟨_, ⟨b0, b1⟩, _⟩ := HDC.out.cells
    have HS0 := Lib.hid (NvS.start WC).dr
    have HST := Lib.hid (NvS.start WC).alT.dr
    have SS := Lib.hid (fun (X : World) (hb : Below WC.heap.size WC X) => (HDC.out.on hb).cells.2.1)
    clear HDC HTC HYN2 HNL HN HIX
    go_region_held_law (fun X => X.cell? ⟨h2, 0, none⟩ = some (.slice (some ⟨g, 0, none⟩) (N + 1 : Nat) (N + 1 : Nat)) ∧ X.cell? ⟨h2, 1, none⟩ = some (.int .i64 0))
      (first | (with_reducible exact SS.out _ HS0.out.below) | (with_reducible exact SS.out _ HST.out.below) | (with_reducible exact SS.out _ HS0.out.alT.below) | (with_reducible exact SS.out _ H5.out.below) | (with_reducible exact SS.out _ H5.out.alT.below) | (with_reducible exact SS.out _ H5.out.fin.below) | (with_reducible exact SS.out _ H5.out.finL.below) | (with_reducible exact SS.out _ H5.out.alT.fin.below) | exact SS.out _ H5.out.finL.below | exact SS.out _ H5.out.fin.below)
      (first
        | (refine step_nodes rfl (.const (.slice none 0 0)) (.tmp 128) rfl HS0.out (by first | rfl | simp [Act.eval]) ⟨g, 0, none⟩ (N + 1) (N + 1) ys2 (by first | rfl | simp [Act.eval]) HYL2.out (fun j u hu => (HS0.out.below.cell (p := (⟨g, 0, none⟩ : Addr).add j) (by rw [addAt]; exact HGL2.out)).trans (HYC2.out j u hu)) HY2.out (Nat.succ_pos _) (N + 1) (Nat.zero_add _) (by omega) ?_; intro g5 c5 w5 h5; (try simp only [s1] at h5); have H5 := Lib.hid h5; clear h5; first | (obtain ⟨⟨z0, z1⟩, t0, t1⟩ := tcells (H5.out.ap _ rfl).1) | skip)
        | (refine step_nodes rfl (.const (.slice none 0 0)) (.tmp 128) rfl HST.out (by first | rfl | simp [Act.eval]) ⟨g, 0, none⟩ (N + 1) (N + 1) ys2 (by first | rfl | simp [Act.eval]) HYL2.out (fun j u hu => (HST.out.below.cell (p := (⟨g, 0, none⟩ : Addr).add j) (by rw [addAt]; exact HGL2.out)).trans (HYC2.out j u hu)) HY2.out (Nat.succ_pos _) (N + 1) (Nat.zero_add _) (by omega) ?_; intro g5 c5 w5 h5; (try simp only [s1] at h5); have H5 := Lib.hid h5; clear h5; first | (obtain ⟨⟨z0, z1⟩, t0, t1⟩ := tcells (H5.out.ap _ rfl).1) | skip)
        | (refine step_nodes rfl (.const (.slice none 0 0)) (.tmp 128) rfl HS0.out.alT (by first | rfl | simp [Act.eval]) ⟨g, 0, none⟩ (N + 1) (N + 1) ys2 (by first | rfl | simp [Act.eval]) HYL2.out (fun j u hu => (HS0.out.alT.below.cell (p := (⟨g, 0, none⟩ : Addr).add j) (by rw [addAt]; exact HGL2.out)).trans (HYC2.out j u hu)) HY2.out (Nat.succ_pos _) (N + 1) (Nat.zero_add _) (by omega) ?_; intro g5 c5 w5 h5; (try simp only [s1] at h5); have H5 := Lib.hid h5; clear h5; first | (obtain ⟨⟨z0, z1⟩, t0, t1⟩ := tcells (H5.out.ap _ rfl).1) | skip))
    all_goals
      try simp only [Act.put, List.getElem?_toArray, List.getElem?_cons_succ, List.getElem?_cons_zero, List.getElem_toArray, List.getElem_cons_succ, List.getElem_cons_zero, List.setIfInBounds_toArray, List.set_cons_zero, List.set_cons_succ]
      try go_wp2_with fail
      go_meet
      first
        | exact ⟨_, _, _, rfl, Lib.hid H5.out.fin⟩
        | exact ⟨_, _, _, rfl, Lib.hid H5.out.finL⟩
        | exact ⟨_, _, _, rfl, Lib.hid H5.out.alT.fin⟩
  case rest =>
  obtain ⟨gt2, A6, c6, rfl, HR⟩ := hcut
  have h18 := NvR.store HR.out HNL.out.1 HYL2.out HYN2.out HY.out (U := some ⟨gl, 0, none⟩) (cu := cl) (r' := y.subs.set 0 aa) ⟨by rw [HSL.out]; exact HIX.out.2.1, HIX.out.2.2, fun h => by cases h⟩ HIX.out.1
  rw [HSL.out] at h18
  obtain ⟨r0, r1⟩ := HR.out.cells
  obtain ⟨q4, hq4⟩ : ∃ q, ys2[r * 7 + 4]? = some q := get_lt (by rw [HYL2.out]; omega)
  have r4 := (HR.out.own.cellAt (r * 7 + 4) (by omega)).trans hq4
  have r5 := HR.out.own.frozenAt (r * 7 + 4)
  have HDR := Lib.hid (HDC.out.on h18.1)
  have HX18 := Lib.hid h18.2.1
  have HT18 := Lib.hid h18.2.2
  clear h18 hq4 HDC HTC HYL2 HY2 HYC2 HYN2 HGL2 HIX HR
  go_upto_region 19 with fail
  obtain ⟨WD, hWD⟩ : ∃ q, q = wc.setCell ⟨A6, r * 7 + 4, none⟩ (.slice (some ⟨gl, 0, none⟩) ul cl) := ⟨_, rfl⟩
  rw [← hWD] at HDR HX18 HT18 ⊢
  clear hWD r0 r1 r4 r5
  obtain ⟨⟨m0, m1⟩, _⟩ := tcells HX18.out
  go_wp2_with fail
  refine (law_twice _ HY.out HSB.out HT18.out HP.out.1 HP.out.2).mono ?_
  rintro e w20 ⟨rfl, hb⟩
  have HD20 := Lib.hid (HDR.out.on hb)
  clear hb m0 m1 HX18 HT18 HDR
  go_wp2_with fail
  refine (CL.out _ HD20.out.b).mono ?_
  rintro e w21 ⟨rfl, hb⟩
  go_wp2_with fail
  refine bodyPost_ret (v := .bool true) (by simp [results, Tryz.results5, go_sem, *]) rfl ?_
  exact ⟨by first | rfl | trivial, below_tr HD20.out.b hb⟩
/-- The law, as its row asks it. -/
theorem backU_any {w : World} {x : V} {v : Value} (hv : Vm w v x) (hx : Va.wt x ≤ 1048576) {s : Int} (h0 : 0 ≤ s) (h1 : s ≤ 65535) (_w : World) (hT : Jt.Tabs0 w) :
    Calls Tryz.prog 5 #[v, .int .u16 s] w fun e w' => e = .returned (.bool true) ∧ Below w.heap.size w w' := by
  obtain ⟨n, rfl⟩ := Int.eq_ofNat_of_zero_le h0
  exact back_any w hv (by omega) (by omega) hT
end Tt
end Go.Proofs.YtggeiajbcehkjaaGreatDoor
