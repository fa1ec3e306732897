/- The law PathsOrder, walked. -/
import Derived.Test.YtoebhnhiljlljaaDoorPs
import Derived.Test.YtoebhnhiljlljaaDoorPi
import Derived.Test.YtoebhnhiljlljaaDoorPj
namespace Go.Proofs.YtoebhnhiljlljaaDoor
open Go.RowKit
namespace Pa
set_option maxRecDepth 100000

theorem pW_mem : ∀ {L : List St} {s : St}, s ∈ L → sw s ≤ pW L
  | x :: r, s, h => by
    rcases List.mem_cons.1 h with rfl | h
    · rw [pW]; omega
    · have := pW_mem h; rw [pW]; omega
/-- The law's step in its block. -/
structure OB (w wx : World) (h : Nat) (s : St) : Prop where
  below : Below w.heap.size w wx
  hh : w.heap.size ≤ h
  box : Bx wx h (.int .u8 s.kind) (.string (txt s.text)) (.string (txt s.id)) (.int .i64 s.pos)
theorem OB.on {w wx wy : World} {h : Nat} {s : St} (H : OB w wx h s) (hb : Below wx.heap.size wx wy) : OB w wy h s := ⟨below_tr H.below hb, H.hh, H.box.on hb⟩
theorem Sm.cut {w : World} {A : Option Addr} {n c : Nat} {L : List St} (h : Sm w A n c L) {m : Nat} (hm : m ≤ n) : Sm w A m c (L.take m) :=
  ⟨by rw [List.length_take, ← h.len]; omega, ⟨Nat.le_trans hm h.cap.1, h.cap.2⟩, h.nil, h.row.take m, fun s hs => h.ok s (List.mem_of_mem_take hs)⟩
theorem OS.sm' {B : Nat} {w : World} {g n : Nat} {L : List St} {x : St} (h : OS B w g (n + 1) (L ++ [x])) (hL : n = L.length) (hok : ∀ s ∈ L, s.Ok) : Sm w (some ⟨g, 0, none⟩) n (n + 1) L := by
  have hc := h.cap
  have hs : ∀ i s, L[i]? = some s → (L ++ [x])[i]? = some s := fun i s hi => by
    have := (List.getElem?_eq_some_iff.1 hi).1
    rw [List.getElem?_append_left this]; exact hi
  refine ⟨hL, ⟨by omega, hc.2⟩, (fun e => by cases e), fun h0 => ⟨g, 0, rfl, h.lt.2, fun i s hi => ?_⟩, hok⟩
  have hl := (List.getElem?_eq_some_iff.1 hi).1
  have hcl := fun j (hj : j < 4) => (World.ownsRow.cellAt h (i * 4 + j) (by rw [List.length_append]; simp; omega)).trans (cel_at (hs i s hi) j hj)
  exact ⟨by rw [Nat.zero_add]; exact hcl 0 (by omega), by rw [Nat.zero_add]; exact hcl 1 (by omega), by rw [Nat.zero_add]; exact hcl 2 (by omega), by rw [Nat.zero_add]; exact hcl 3 (by omega)⟩
theorem pre_take {L M : List St} {m : Nat} (hm : m = M.length) : decide (L.take m = M) = decide (M <+: L) := by
  rw [Bool.eq_iff_iff]
  simp only [decide_eq_true_eq]
  subst hm
  constructor
  · intro h; rw [← h]; exact List.take_prefix _ _
  · intro h; exact (List.prefix_iff_eq_take.1 h).symm
set_option maxHeartbeats 8000000 in
theorem order_law {A B : Option Addr} {n m c d : Nat} {L M : List St} {s : St} (w : World) (h : Sm w A n c L) (h' : Sm w B m d M) (hs : s.Ok) (hL : pW L ≤ 1048576) (hM : pW M ≤ 1048576) (hw : sw s ≤ 1048576) (hT : P10 w) :
    Calls Tryd.prog 4 #[.slice A n c, .slice B m d, stV s] w fun e w' => e = .returned (.bool true) ∧ Below w.heap.size w w' := by
  have HS := Lib.hid h
  have HT := Lib.hid h'
  have HN := Lib.hid h.len
  have HM := Lib.hid h'.len
  have HOK := Lib.hid hs
  have HP := Lib.hid hT
  have HLL := Lib.hid hL
  have HML := Lib.hid hM
  have HSW := Lib.hid hw
  have hn5 : n ≤ 1048576 := by rw [h.len]; have := pW_len L; omega
  have hm5 : m ≤ 1048576 := by rw [h'.len]; have := pW_len M; omega
  obtain ⟨W1, hW1⟩ : ∃ W, W = w.alloc (stO s) := ⟨_, rfl⟩
  have H1 := Lib.hid (show OB w W1 w.heap.size s from ⟨by rw [hW1]; exact below_new .., Nat.le_refl _, by rw [hW1]; exact Bx.new ..⟩)
  have LV := Lib.hid (fun (w' : World) (hb : Below w.heap.size w w') => lives_any w' (hT.up hb))
  have G1 := Lib.hid (fun (w' : World) (hb : Below w.heap.size w w') => great_any w' (h.on hb) (by omega))
  have G2 := Lib.hid (fun (w' : World) (hb : Below w.heap.size w w') => great_any w' (h'.on hb) (by omega))
  obtain ⟨p1, hp1⟩ : ∃ p, p = decide (3000 ≤ pW L) := ⟨_, rfl⟩
  obtain ⟨p2, hp2⟩ : ∃ p, p = decide (3000 ≤ pW M) := ⟨_, rfl⟩
  rw [← hp1] at G1
  rw [← hp2] at G2
  have HP1 := Lib.hid hp1
  have HP2 := Lib.hid hp2
  clear h h' hs hT hL hM hw hp1 hp2
  unfold stV
  go_enter Tryd.func4, Tryd.ntmps4
  go_upto_region 1 with fail
  rw [← hW1]
  obtain ⟨q, hq⟩ : ∃ q, q = w.heap.size := ⟨_, rfl⟩
  rw [← hq] at H1 ⊢
  have HQ := Lib.hid hq
  clear hW1 hq
  go_wp2_with fail
  refine (G1.out _ H1.out.below).mono ?_
  rintro e w2 ⟨rfl, hb⟩
  have H2 := Lib.hid (H1.out.on hb)
  clear hb
  cases p1 with
  | true =>
    go_wp2_with fail
    refine (LV.out _ H2.out.below).mono ?_
    rintro e w3 ⟨rfl, hb⟩
    go_wp2_with fail
    go_ret
    exact ⟨rfl, below_tr H2.out.below hb⟩
  | false =>
    go_wp2_with fail
    refine (G2.out _ H2.out.below).mono ?_
    rintro e w3 ⟨rfl, hb⟩
    have H3 := Lib.hid (H2.out.on hb)
    clear hb
    cases p2 with
    | true =>
      go_wp2_with fail
      refine (LV.out _ H3.out.below).mono ?_
      rintro e w4 ⟨rfl, hb⟩
      go_wp2_with fail
      go_ret
      exact ⟨rfl, below_tr H3.out.below hb⟩
    | false =>
      have s1 : pW L < 3000 := by have := HP1.out; simpa using this.symm
      have s2 : pW M < 3000 := by have := HP2.out; simpa using this.symm
      have HSM := Lib.hid (And.intro s1 s2)
      have hn3 : n ≤ 3000 := by rw [HN.out]; have := pW_len L; omega
      have hm3 : m ≤ 3000 := by rw [HM.out]; have := pW_len M; omega
      have T1 := Lib.hid (twin_any w3 (HS.out.on H3.out.below) (by omega))
      clear s1 s2 hn5 hm5
      go_wp2_with fail
      refine T1.out.mono ?_
      rintro e w4 ⟨⟨g1, rfl, hO⟩, hb⟩
      have H4 := Lib.hid (H3.out.on hb)
      have O1 := Lib.hid (And.intro H3.out.below.size hO)
      clear hb hO
      have T2 := Lib.hid (twin_any w4 (HT.out.on H4.out.below) (by omega))
      go_wp2_with fail
      refine T2.out.mono ?_
      rintro e w5 ⟨⟨g2, rfl, hO⟩, hb⟩
      have H5 := Lib.hid (H4.out.on hb)
      have O1 := Lib.hid (And.intro O1.out.1 (O1.out.2.on hb))
      have O2 := Lib.hid hO
      clear hb hO
      go_upto_region 5 with fail
      go_cut [9] from 23 to 38 (fun a wx => a = .bool (decide (M <+: L)) ∧ Hid (Below w5.heap.size w5 wx))
      case first =>
        by_cases hmn : m ≤ n
        · have CS := Lib.hid (same_any w5 ((HS.out.on H5.out.below).cut hmn) (HT.out.on H5.out.below))
          rw [pre_take HM.out] at CS
          have hmi : min (n : Int) (m : Int) = m := by omega
          have hmc : m ≤ c := Nat.le_trans hmn HS.out.cap.1
          go_wp2_with fail
          refine CS.out.mono ?_
          rintro e w6 ⟨rfl, hb⟩
          go_wp2_with fail
          go_meet
          exact ⟨rfl, Lib.hid hb⟩
        · have hmn2 : ¬ (m : Int) ≤ n := by omega
          have HE := Lib.hid (show decide (M <+: L) = false from decide_eq_false fun e => hmn (by have := e.length_le; rw [HN.out, HM.out]; exact this))
          go_wp2_with fail
          go_meet
          exact ⟨by rw [HE.out], Lib.hid (Below.refl _ _)⟩
      case rest =>
        obtain ⟨rfl, HB6⟩ := hcut
        have H6 := Lib.hid (H5.out.on HB6.out)
        have O1 := Lib.hid (And.intro O1.out.1 (O1.out.2.on HB6.out))
        have O2 := Lib.hid (O2.out.on HB6.out)
        have HX1 := Lib.hid (O1.out.2.sm' HN.out HS.out.ok)
        have HY1 := Lib.hid (O2.out.sm' HM.out HT.out.ok)
        have TO := Lib.hid (to_any wc HX1.out HOK.out (by omega) (fun x hx => by have := pW_mem hx; have := HSM.out.1; omega) (by have := HSW.out; omega))
        obtain ⟨x0, x1, x2, x3⟩ : wc.cell? ⟨q, 0, none⟩ = some (.int .u8 s.kind) ∧ wc.cell? ⟨q, 1, none⟩ = some (.string (txt s.text)) ∧ wc.cell? ⟨q, 2, none⟩ = some (.string (txt s.id)) ∧ wc.cell? ⟨q, 3, none⟩ = some (.int .i64 s.pos) := ⟨H6.out.box.c0, H6.out.box.c1, H6.out.box.c2, H6.out.box.c3⟩
        go_wp2_with fail
        refine TO.out.mono ?_
        rintro e w7 ⟨⟨g3, rfl, hO⟩, hb⟩
        have H7 := Lib.hid (H6.out.on hb)
        have HB7 := Lib.hid hb
        have O3 := Lib.hid hO
        clear hb hO x0 x1 x2 x3
        have HX7 := Lib.hid (HX1.out.on HB7.out)
        have HY7 := Lib.hid (HY1.out.on HB7.out)
        have HS7 := Lib.hid (HS.out.on H7.out.below)
        have HT7 := Lib.hid (HT.out.on H7.out.below)
        have HZ7 := Lib.hid (O3.out.sm' HN.out HS.out.ok)
        have hcl := Lib.hid (fun j (hj : j < 4) => (World.ownsRow.cellAt O3.out (n * 4 + j) (by rw [List.length_append, ← HN.out]; simp; omega)).trans (cel_at (L := L ++ [s]) (i := n) (s := s) (by rw [List.getElem?_append_right (by rw [HN.out]; exact Nat.le_refl _), HN.out, Nat.sub_self]; rfl) j hj))
        obtain ⟨R, hR⟩ : ∃ R, R = oN (pC L M) := ⟨_, rfl⟩
        obtain ⟨b0, hb0⟩ : ∃ b, b = decide (M <+: L) := ⟨_, rfl⟩
        have C1 := Lib.hid (fun k : Kept w7 => cmp_any k.wx (HX7.out.on k.held) (HY7.out.on k.held))
        have C2 := Lib.hid (fun k : Kept w7 => rcmp_any k.wx (HS7.out.on k.held) (HT7.out.on k.held))
        have C3 := Lib.hid (fun k : Kept w7 => begins_any k.wx (HX7.out.on k.held) (HY7.out.on k.held))
        have C4 := Lib.hid (fun k : Kept w7 => same_any k.wx (HZ7.out.on k.held) (HS7.out.on k.held))
        rw [← hR] at C1 C2
        rw [← hb0] at C3 ⊢
        rw [show decide (L = L) = true from by simp] at C4
        have J0 := fun k : Kept w7 => k.cell (hcl.out 0 (by omega))
        have J1 := fun k : Kept w7 => k.cell (hcl.out 1 (by omega))
        have J2 := fun k : Kept w7 => k.cell (hcl.out 2 (by omega))
        have J3 := fun k : Kept w7 => k.cell (hcl.out 3 (by omega))
        have J0 : ∀ k : Kept w7, k.wx.cell? ⟨g3, n * 4, none⟩ = some (.int .u8 s.kind) := J0
        have J1 : ∀ k : Kept w7, k.wx.cell? ⟨g3, n * 4 + 1, none⟩ = some (.string (txt s.text)) := J1
        have J2 : ∀ k : Kept w7, k.wx.cell? ⟨g3, n * 4 + 2, none⟩ = some (.string (txt s.id)) := J2
        have J3 : ∀ k : Kept w7, k.wx.cell? ⟨g3, n * 4 + 3, none⟩ = some (.int .i64 s.pos) := J3
        have J4 := fun k : Kept w7 => k.cell H7.out.box.c0
        have J5 := fun k : Kept w7 => k.cell H7.out.box.c1
        have J6 := fun k : Kept w7 => k.cell H7.out.box.c2
        have J7 := fun k : Kept w7 => k.cell H7.out.box.c3
        have NE := step_neq s s
        rw [show decide (s = s) = true from by simp] at NE
        have GN := guard_no
        clear hR hb0
        go_upto_region 7 with fail
        refine reg_lit (C := fun wx => ∃ k : Kept w7, wx = k.wx) (by kernel_rfl) (by kernel_rfl) ⟨⟨_, (Below.refl _ _).drew⟩, rfl⟩ ?_
        iterate 2 (go_big_quiet_step (fail))
        go_big_quiet_want
        go_big_quiet_op
        refine ⟨.int .i64 R, fun k => (C1.out k).mono ?_, ?_⟩
        · rintro e w3 ⟨rfl, hb⟩; exact Kept.out hb
        go_big_quiet_on
        iterate 2 (go_big_quiet_step (fail))
        go_big_quiet_want
        go_big_quiet_op
        refine ⟨.int .i64 R, fun k => (C2.out k).mono ?_, ?_⟩
        · rintro e w3 ⟨rfl, hb⟩; exact Kept.out hb
        go_big_quiet_on
        iterate 4 (go_big_quiet_step (fail))
        go_big_quiet_want
        go_big_quiet_op
        refine ⟨.bool b0, fun k => (C3.out k).mono ?_, ?_⟩
        · rintro e w3 ⟨rfl, hb⟩; exact Kept.out hb
        go_big_quiet_on
        iterate 17 (go_big_quiet_step (fail))
        go_big_quiet_want
        go_big_quiet_op
        refine ⟨.bool true, fun k => (C4.out k).mono ?_, ?_⟩
        · rintro e w3 ⟨rfl, hb⟩; exact Kept.out hb
        go_big_quiet_on
        iterate 11 (go_big_quiet_step (fail))
        refine wpQuiet_nil ?_
        rintro w8 ⟨⟨wx, ox0⟩, e⟩
        have HC := Lib.hid (show Below w7.heap.size w7 w8 from by rw [e]; exact ox0)
        clear e ox0 J0 J1 J2 J3 J4 J5 J6 J7 C1 C2 C3 C4 NE hcl
        have HG3 := Lib.hid (show wc.heap.size ≤ g3 from O3.out.lt.1)
        have HR0 := Lib.hid (show Below wc.heap.size wc w8 ∧ ∃ cur, w8.heap[g3]? = some (.cells cur 32 (0, 0)) ∧ cur.size = (n + 1) * 4 from by
          refine ⟨below_tr HB7.out HC.out, ?_⟩
          rcases O3.out.2 with ⟨e, _⟩ | ⟨g', c', cur, e, _, hg', _, _, hcs, _⟩
          · cases e
          · injection e with e1 _ e3; injection e1 with e1; injection e1 with e1 _ _; subst e1
            exact ⟨cur, (HC.out.block g3 O3.out.lt.2).trans hg', by rw [hcs, ← e3]⟩)
        clear HC
        go_wp2_with fail
        go_loopw [11] (fun i wx => ∃ k : Nat, k ≤ n + 1 ∧ i = .int .i64 k ∧ Hid (Below wc.heap.size wc wx ∧ ∃ cur, wx.heap[g3]? = some (.cells cur 32 (0, 0)) ∧ cur.size = (n + 1) * 4)) (fun i _ => n + 1 - (intOf i).toNat)
        case atStart => exact ⟨0, Nat.zero_le _, rfl, HR0⟩
        case round =>
          obtain ⟨k, hk, rfl, HR⟩ := hrel
          by_cases hlt : k < n + 1
          · obtain ⟨cur, hcur, hcs⟩ := HR.out.2
            have hx : cur[k * 4 + 1]? = some (cur[k * 4 + 1]'(by omega)) := Array.getElem?_eq_getElem (by omega)
            obtain ⟨u, hu⟩ : ∃ u, cur[k * 4 + 1]? = some u := ⟨_, hx⟩
            have c1 : wr.cell? ⟨g3, k * 4 + 1, none⟩ = some u := by simp only [World.cell?, hcur]; exact hu
            have f1 : wr.frozen? ⟨g3, k * 4 + 1, none⟩ = false := by simp [World.frozen?, hcur]
            have HN2 := Lib.hid (show Below wc.heap.size wc (wr.setCell ⟨g3, k * 4 + 1, none⟩ (.string ⟨#[115, 112, 111, 105, 108, 116]⟩)) ∧ ∃ cur, (wr.setCell ⟨g3, k * 4 + 1, none⟩ (.string ⟨#[115, 112, 111, 105, 108, 116]⟩)).heap[g3]? = some (.cells cur 32 (0, 0)) ∧ cur.size = (n + 1) * 4 from
              ⟨HR.out.1.setCell (p := ⟨g3, k * 4 + 1, none⟩) HG3.out _, _, Lib.heap_setCell_same hcur _, by simp [hcs]⟩)
            clear hx hu hcur hcs
            go_wp2_with fail
            go_roundw
            case rel => exact ⟨k + 1, by omega, by go_num, HN2⟩
            case measure => simp [intOf] <;> omega
          · have HBW := Lib.hid (show Below w.heap.size w wr from below_tr H6.out.below HR.out.1)
            have L1 := Lib.hid (left_any wr (O1.out.2.on HR.out.1) (HS.out.on HBW.out))
            clear HN
            go_wp2_with fail
            refine L1.out.mono ?_
            rintro e wa ⟨rfl, hb⟩
            have HA := Lib.hid (HR.out.1.trans (hb.mono HR.out.1.size))
            have HBA := Lib.hid (below_tr HBW.out hb)
            clear hb
            have L2 := Lib.hid (left_any wa (O2.out.on HA.out) (HT.out.on HBA.out))
            go_wp2_with fail
            refine L2.out.mono ?_
            rintro e wb ⟨rfl, hb⟩
            have HBB := Lib.hid (below_tr HBA.out hb)
            clear hb
            go_wp2_with fail
            refine (LV.out _ HBB.out).mono ?_
            rintro e wd ⟨rfl, hb⟩
            have HBD := Lib.hid (below_tr HBB.out hb)
            clear hb
            go_wp2_with fail
            go_ret
            exact ⟨rfl, HBD.out⟩
end Pa
end Go.Proofs.YtoebhnhiljlljaaDoor
