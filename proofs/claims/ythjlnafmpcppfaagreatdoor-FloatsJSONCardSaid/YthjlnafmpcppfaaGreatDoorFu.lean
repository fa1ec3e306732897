/- The law FloatsOrder, walked. -/
import Derived.Test.YthjlnafmpcppfaaGreatDoorFr
import Derived.Deep.RegionHeld3
import Derived.Deep.Quiet
import Derived.Deep.QuietTactic
import Derived.BigQuiet
namespace Go.Proofs.YthjlnafmpcppfaaGreatDoor
open Go.RowKit
namespace Fl

section
variable {P : Program} {ops : Array Oper} {C : World → Prop}
/-- A region that draws its order: one walk, in the order of the text, over worlds of a class of one's own. -/
theorem reg_lit {id : Nat} {Q : Exit → Act → World → Prop} {a : Act} {w : World} {l : List Oper} (hm : P.follows .mixedOrders = true) (hB : Region.lexB .any l.toArray = true) (hC : C w.drew)
    (h : wpQuiet P l.toArray C (fun a' => ∀ w', C w' → Q .normal a' w') l a) : (Code.region id l.toArray true).wp P Q a w := wp_region_quiet hm hB hC (by simpa using h)
end
/-- The three texts, the first k of them put into normal form. -/
def tri (L : Nat → List UInt8) (k j : Nat) : List UInt8 := if j < k then (rdF (L j)).1 else L j
structure OSt (w : World) (L : Nat → List UInt8) (k : Nat) (wr : World) : Prop where
  below : Below w.heap.size w wr
  more : w.heap.size < wr.heap.size
  cells : ∀ j, j < 3 → wr.cell? ⟨w.heap.size, j, none⟩ = some (.string (txt (tri L k j)))
  live : ∀ j, wr.frozen? ⟨w.heap.size, j, none⟩ = false
  ok : ∀ j, j < k → (rdF (L j)).2 = 0 ∧ (L j).length ≤ 300
theorem OSt.on {w : World} {L : Nat → List UInt8} {k : Nat} {wr w' : World} (h : OSt w L k wr) (hb : Below wr.heap.size wr w') : OSt w L k w' :=
  ⟨II.below_tr h.below hb, Nat.lt_of_lt_of_le h.more hb.size, fun j hj => (hb.cell (by exact h.more)).trans (h.cells j hj), fun j => (hb.frozen (by exact h.more)).trans (h.live j), h.ok⟩
theorem OSt.drew {w : World} {L : Nat → List UInt8} {k : Nat} {wr : World} (h : OSt w L k wr) : OSt w L k wr.drew := h.on ((Below.refl _ _).drew)
theorem OSt.set {w : World} {L : Nat → List UInt8} {k : Nat} {wr : World} (h : OSt w L k wr) (hk : k < 3) (hr : (rdF (L k)).2 = 0) (hl : (L k).length ≤ 300) :
    OSt w L (k + 1) (wr.setCell ⟨w.heap.size, k, none⟩ (.string (txt (rdF (L k)).1))) := by
  refine ⟨h.below.setCell (Nat.le_refl _) _, by simpa using h.more, fun j hj => ?_, fun j => by rw [World.frozen?_setCell]; exact h.live j, fun j hj => ?_⟩
  · by_cases e : j = k
    · subst e
      rw [World.cell?_setCell_same _ _ _ (h.cells j hj)]; unfold tri; rw [if_pos (by omega)]
    · rw [World.cell?_setCell_other _ _ _ _ (fun e2 => e (by simpa using (congrArg Addr.off e2).symm))]
      rw [h.cells j hj]; unfold tri
      by_cases g : j < k
      · rw [if_pos g, if_pos (by omega)]
      · rw [if_neg g, if_neg (by omega)]
  · rcases Nat.lt_or_ge j k with g | g
    · exact h.ok j g
    · obtain rfl : j = k := by omega
      exact ⟨hr, hl⟩
/-- The worlds that still hold the three texts in normal form. -/
structure Kept (w : World) (L : Nat → List UInt8) where
  wx : World
  held : OSt w L 3 wx
theorem Kept.out {w : World} {L : Nat → List UInt8} {v : Value} {s : Kept w L} {w' : World} (h : Below s.wx.heap.size s.wx w') : Ending.returned v = Ending.returned v ∧ ∃ t : Kept w L, w' = t.wx := ⟨rfl, ⟨w', s.held.on h⟩, rfl⟩
set_option maxHeartbeats 8000000 in
set_option maxRecDepth 100000 in
theorem order_any (s0 s1 s2 : ByteArray) (w : World) (hT : AllT w) : Calls Tryz.prog 7 #[.string s0, .string s1, .string s2] w fun e w' => e = .returned (.bool true) ∧ Below w.heap.size w w' := by
  have HL := Lib.hid flives_any
  have HT := Lib.hid hT
  clear hT
  obtain ⟨L, hL⟩ : ∃ L : Nat → List UInt8, L = fun j => if j = 0 then s0.data.toList else if j = 1 then s1.data.toList else s2.data.toList := ⟨_, rfl⟩
  have HO := Lib.hid (show OSt w L 0 (w.alloc (.cells #[.string s0, .string s1, .string s2] 9)) from
    ⟨(Below.refl _ _).alloc (Nat.le_refl _) _, by simp, fun j hj => by
      rw [World.cell?_alloc_at _ _ _ _ rfl]
      have : j = 0 ∨ j = 1 ∨ j = 2 := by omega
      rcases this with rfl | rfl | rfl
      · rw [show txt (tri L 0 0) = s0 by rw [tri, if_neg (by omega), hL]; exact (as_txt s0).symm]; rfl
      · rw [show txt (tri L 0 1) = s1 by rw [tri, if_neg (by omega), hL]; exact (as_txt s1).symm]; rfl
      · rw [show txt (tri L 0 2) = s2 by rw [tri, if_neg (by omega), hL]; exact (as_txt s2).symm]; rfl, fun j => by simp [go_sem], fun j hj => by omega⟩)
  clear hL
  go_enter Tryz.func7, Tryz.ntmps7
  go_wp2_with fail
  go_loopw [8] (fun v wr => ∃ k : Nat, k ≤ 3 ∧ v = .int .i64 k ∧ OSt w L k wr) (fun v _ => 3 - (intOf v).toNat)
  case atStart => exact ⟨0, by omega, rfl, HO.out⟩
  case round =>
    obtain ⟨k, hk, rfl, ho⟩ := hrel
    have HS := Lib.hid ho
    clear ho
    by_cases hk3 : k < 3
    · have hc := HS.out.cells k hk3
      rw [show tri L k k = L k by rw [tri, if_neg (by omega)]] at hc
      obtain ⟨t, ht⟩ : ∃ t, t = txt (L k) := ⟨_, rfl⟩
      rw [← ht] at hc
      have HTL := Lib.hid (show t.size = (L k).length by rw [ht, txt_size])
      have HTX := Lib.hid ht
      clear ht
      by_cases h3 : t.size ≤ 300
      · obtain ⟨x, hx⟩ : ∃ x, (rdF (L k)).1 = x := ⟨_, rfl⟩
        obtain ⟨c, hcd⟩ : ∃ c, (rdF (L k)).2 = c := ⟨_, rfl⟩
        have R := Lib.hid (fun w h => fread_is (l := L k) w HTX.out (by have := HTL.out; omega) h)
        rw [hx, hcd] at R
        have hxl : x.length ≤ 622 := by have := rdF_len (L k); rw [hx] at this; have := HTL.out; omega
        by_cases h0 : c = 0
        · have hf : flIs x = true := by rw [← hx]; exact rdF_kinds (by rw [hcd]; exact h0)
          obtain ⟨n1, hm1⟩ : ∃ m, m = decide (x = 45 :: INF) := ⟨_, rfl⟩
          obtain ⟨n2, hm2⟩ : ∃ m, m = decide (x = NAN) := ⟨_, rfl⟩
          have q1 : ((txt x).toList == [45, 105, 110, 102]) = n1 := by rw [II.iseq_l rfl, hm1]
          have q2 : ((txt x).toList == [110, 97, 110]) = n2 := by rw [II.iseq_l rfl, hm2]
          have P1 := Lib.hid (fun w h => is_is (l := x) (x := true) w rfl (by omega) hf.symm h)
          have P2 := Lib.hid (fun w h => less_is (a := x) (b := x) (x := false) w rfl rfl (by omega) (by omega) (flLess_irr x).symm h)
          have P3 := Lib.hid (fun w h => less_is (a := x) (b := 45 :: INF) (t := ⟨#[45, 105, 110, 102]⟩) (x := false) w rfl rfl (by omega) (by decide) (flLess_minf x).symm h)
          have P4 := Lib.hid (fun w h => less_is (a := NAN) (b := x) (s := ⟨#[110, 97, 110]⟩) (x := false) w rfl rfl (by decide) (by omega) (flLess_nan x).symm h)
          have P5 := Lib.hid (fun w h => less_is (a := 45 :: INF) (b := x) (s := ⟨#[45, 105, 110, 102]⟩) (x := !n1) w rfl rfl (by decide) (by omega) (by rw [hm1, flLess_minf' hf]; simp) h)
          have P6 := Lib.hid (fun w h => less_is (a := x) (b := NAN) (t := ⟨#[110, 97, 110]⟩) (x := !n2) w rfl rfl (by omega) (by decide) (by rw [hm2, flLess_nan' hf]; simp) h)
          have HX := Lib.hid hx
          have HC := Lib.hid (hcd.trans h0)
          clear hx hcd hxl hf hm1 hm2
          subst h0
          cases n1 <;> cases n2
          all_goals
            go_wp2_with fail
            refine (R.out _ (HT.out.below HS.out.below)).mono ?_
            rintro e w1 ⟨rfl, hb⟩
            have HS1 := Lib.hid (HS.out.on hb)
            clear hb hc
            go_wp2_with fail
            refine (P1.out _ (HT.out.below HS1.out.below).dec).mono ?_
            rintro e w2 ⟨rfl, hb⟩
            have HS2 := Lib.hid (HS1.out.on hb)
            clear hb
            go_wp2_with fail
            refine (P2.out _ (HT.out.below HS2.out.below).dec).mono ?_
            rintro e w3 ⟨rfl, hb⟩
            have HS3 := Lib.hid (HS2.out.on hb)
            clear hb
            go_wp2_with fail
            refine (P3.out _ (HT.out.below HS3.out.below).dec).mono ?_
            rintro e w4 ⟨rfl, hb⟩
            have HS4 := Lib.hid (HS3.out.on hb)
            clear hb
            go_wp2_with fail
            refine (P4.out _ (HT.out.below HS4.out.below).dec).mono ?_
            rintro e w5 ⟨rfl, hb⟩
            have HS5 := Lib.hid (HS4.out.on hb)
            clear hb
            go_wp2_with fail
            refine (P5.out _ (HT.out.below HS5.out.below).dec).mono ?_
            rintro e w6 ⟨rfl, hb⟩
            have HS6 := Lib.hid (HS5.out.on hb)
            clear hb
            go_wp2_with fail
            refine (P6.out _ (HT.out.below HS6.out.below).dec).mono ?_
            rintro e w7 ⟨rfl, hb⟩
            have HS7 := Lib.hid (HS6.out.on hb)
            clear hb
            have hc := HS7.out.cells k hk3
            have hfz := HS7.out.live k
            go_wp2_with fail
            go_roundw
            case rel => exact ⟨k + 1, by omega, by go_num, by have h := HS7.out.set hk3 HC.out (by have := HTL.out; omega); rw [HX.out] at h; exact h⟩
            case measure => simp [intOf]; omega
        · have hxn : x = [] := by rw [← hx]; exact rdF_wrong (by rw [hcd]; exact h0)
          clear hx hcd hxl
          subst hxn
          have h00 : (c != 0) = true := by simpa using h0
          clear h0
          have hemp : (txt []).toList.isEmpty = true := by rw [II.toList_txt]; rfl
          go_wp2_with fail
          refine (R.out _ (HT.out.below HS.out.below)).mono ?_
          rintro e w1 ⟨rfl, hb⟩
          have HS1 := Lib.hid (HS.out.on hb)
          clear hb hc
          go_wp2_with fail
          refine (HL.out _ (HT.out.below HS1.out.below)).mono ?_
          rintro e w2 ⟨rfl, hb⟩
          have HS2 := Lib.hid (HS1.out.on hb)
          clear hb
          go_wp2_with fail
          go_ret
          exact ⟨rfl, HS2.out.below⟩
      · go_wp2_with fail
        refine (HL.out _ (HT.out.below HS.out.below)).mono ?_
        rintro e w1 ⟨rfl, hb⟩
        have HS1 := Lib.hid (HS.out.on hb)
        clear hb
        go_wp2_with fail
        go_ret
        exact ⟨rfl, HS1.out.below⟩
    · obtain rfl : k = 3 := by omega
      obtain ⟨p, hp⟩ : ∃ p, (rdF (L 0)).1 = p := ⟨_, rfl⟩
      obtain ⟨q, hq⟩ : ∃ p, (rdF (L 1)).1 = p := ⟨_, rfl⟩
      obtain ⟨r, hr⟩ : ∃ p, (rdF (L 2)).1 = p := ⟨_, rfl⟩
      have ok0 := HS.out.ok 0 (by omega)
      have ok1 := HS.out.ok 1 (by omega)
      have ok2 := HS.out.ok 2 (by omega)
      have np := rdF_kinds ok0.1
      have nq := rdF_kinds ok1.1
      have nr := rdF_kinds ok2.1
      have lp := rdF_len (L 0)
      have lq := rdF_len (L 1)
      have lr := rdF_len (L 2)
      rw [hp] at np lp
      rw [hq] at nq lq
      rw [hr] at nr lr
      have D1 := Lib.hid (fun w h => less_is (a := p) (b := q) w rfl rfl (by omega) (by omega) rfl h)
      have D2 := Lib.hid (fun w h => less_is (a := q) (b := p) w rfl rfl (by omega) (by omega) rfl h)
      have D3 := Lib.hid (fun w h => less_is (a := q) (b := r) w rfl rfl (by omega) (by omega) rfl h)
      have D4 := Lib.hid (fun w h => less_is (a := p) (b := r) w rfl rfl (by omega) (by omega) rfl h)
      have HC0 := Lib.hid (fun (wx : World) (h : OSt w L 3 wx) => (show wx.cell? ⟨w.heap.size, 0, none⟩ = some (.string (txt p)) by rw [h.cells 0 (by omega), tri, if_pos (by omega), hp]))
      have HC1 := Lib.hid (fun (wx : World) (h : OSt w L 3 wx) => (show wx.cell? ⟨w.heap.size, 1, none⟩ = some (.string (txt q)) by rw [h.cells 1 (by omega), tri, if_pos (by omega), hq]))
      have HC2 := Lib.hid (fun (wx : World) (h : OSt w L 3 wx) => (show wx.cell? ⟨w.heap.size, 2, none⟩ = some (.string (txt r)) by rw [h.cells 2 (by omega), tri, if_pos (by omega), hr]))
      have A1 := fun h : flLess p q = true => flLess_asym h
      have T1 := fun h : p ≠ q => flLess_tot np nq h
      have I1 := fun h : p = q => (show flLess p q = false by rw [h]; exact flLess_irr q)
      have I2 := fun h : p = q => (show flLess q p = false by rw [h]; exact flLess_irr q)
      have R1 := fun (h1 : flLess p q = true) (h2 : flLess q r = true) => flLess_tra h1 h2
      clear hp hq hr ok0 ok1 ok2 np nq nr lp lq lr
      generalize flLess p q = X at *
      generalize flLess q p = Y at *
      generalize flLess q r = Z at *
      generalize flLess p r = V at *
      have F := Lib.hid (show (p = q ∧ X = false ∧ Y = false) ∨ (p ≠ q ∧ X = !Y) by
        by_cases h : p = q
        · exact Or.inl ⟨h, I1 h, I2 h⟩
        · refine Or.inr ⟨h, ?_⟩
          have := T1 h
          cases X <;> cases Y <;> simp_all)
      have R := Lib.hid R1
      clear A1 T1 I1 I2 R1
      go_upto_region 13 with fail
      go_cut [11] (fun v wx => v = .bool X ∧ OSt w L 3 wx)
      case first =>
        have hc0 := HC0.out _ HS.out
        have hc1 := HC1.out _ HS.out
        have hc2 := HC2.out _ HS.out
        have ho := HS.out
        go_region_held3 (fun wx => OSt w L 3 wx ∧ wx.cell? ⟨w.heap.size, 0, none⟩ = some (.string (txt p)) ∧ wx.cell? ⟨w.heap.size, 1, none⟩ = some (.string (txt q)) ∧ wx.cell? ⟨w.heap.size, 2, none⟩ = some (.string (txt r)))
          (((try go_split_ands); refine (fun h => ⟨h, HC0.out _ h, HC1.out _ h, HC2.out _ h⟩) ?_; first | assumption | exact OSt.drew (by assumption) | (refine OSt.on ?_ hb; assumption)))
          (((try go_split_ands); go_at_call 13; refine (D1.out _ ((HT.out.below (OSt.below (by assumption))).dec)).mono ?_; rintro e w1 ⟨rfl, hb⟩))
        rename_i hS
        go_wp2_with fail
        go_meet
        exact ⟨rfl, hS.1⟩
      case rest =>
        obtain ⟨rfl, ho1⟩ := hcut
        have HS1 := Lib.hid ho1
        clear ho1
        go_upto_region 14 with fail
        go_cut [12] (fun v wx => v = .bool Y ∧ OSt w L 3 wx)
        case first =>
          have hc0 := HC0.out _ HS1.out
          have hc1 := HC1.out _ HS1.out
          have hc2 := HC2.out _ HS1.out
          have ho := HS1.out
          go_region_held3 (fun wx => OSt w L 3 wx ∧ wx.cell? ⟨w.heap.size, 0, none⟩ = some (.string (txt p)) ∧ wx.cell? ⟨w.heap.size, 1, none⟩ = some (.string (txt q)) ∧ wx.cell? ⟨w.heap.size, 2, none⟩ = some (.string (txt r)))
            (((try go_split_ands); refine (fun h => ⟨h, HC0.out _ h, HC1.out _ h, HC2.out _ h⟩) ?_; first | assumption | exact OSt.drew (by assumption) | (refine OSt.on ?_ hb; assumption)))
            (((try go_split_ands); go_at_call 13; refine (D2.out _ ((HT.out.below (OSt.below (by assumption))).dec)).mono ?_; rintro e w1 ⟨rfl, hb⟩))
          rename_i hS
          go_wp2_with fail
          go_meet
          exact ⟨rfl, hS.1⟩
        case rest =>
          obtain ⟨rfl, ho2⟩ := hcut
          have HS2 := Lib.hid ho2
          clear ho2
          go_upto_region 15 with fail
          go_cut [108] (fun v wx => v = .bool false ∧ OSt w L 3 wx)
          case first =>
            have hc0 := HC0.out _ HS2.out
            have hc1 := HC1.out _ HS2.out
            rcases F.out with ⟨rfl, rfl, rfl⟩ | ⟨hne, rfl⟩
            · have hself : ((txt p).toList != (txt p).toList) = false := by simp
              go_quiet (fail)
              go_wp2_with fail
              go_meet
              exact ⟨by first | rfl | (rw [hpq]; rfl) | simp [hpq], HS2.out.on (belowDrewN (Below.refl _ _) _)⟩
            · have hpq : ((txt p).toList != (txt q).toList) = true := by rw [txt_list, txt_list]; simpa using hne
              cases Y
              · go_quiet (fail)
                go_wp2_with fail
                go_meet
                exact ⟨by rw [txt_list, txt_list, leq]; congr 1; simpa using hne, HS2.out.on (belowDrewN (Below.refl _ _) _)⟩
              · go_quiet (fail)
                go_wp2_with fail
                go_meet
                exact ⟨by rw [txt_list, txt_list, leq]; congr 1; simpa using hne, HS2.out.on (belowDrewN (Below.refl _ _) _)⟩
          case rest =>
            obtain ⟨rfl, ho3⟩ := hcut
            have HS3 := Lib.hid ho3
            clear ho3
            go_upto_region 17 with fail
            haveI : Nonempty (Kept w L) := ⟨⟨_, HS3.out⟩⟩
            have c0 := fun s : Kept w L => HC0.out _ s.held
            have c1 := fun s : Kept w L => HC1.out _ s.held
            have c2 := fun s : Kept w L => HC2.out _ s.held
            clear HC0 HC1 HC2
            cases X
            · clear D1 D2 F R
              refine reg_lit (C := fun wx => ∃ s : Kept w L, wx = s.wx) (by kernel_rfl) (by kernel_rfl) ⟨⟨_, HS3.out.drew⟩, rfl⟩ ?_
              iterate 22 (go_big_quiet_step (fail))
              go_big_quiet_want
              go_big_quiet_op
              refine ⟨.bool true, fun s => (HL.out _ (HT.out.below (OSt.below s.held))).mono ?_, ?_⟩
              · rintro e w1 ⟨rfl, hb⟩; exact Kept.out hb
              go_big_quiet_on
              iterate 2 (go_big_quiet_step (fail))
              refine wpQuiet_nil ?_
              rintro _ ⟨⟨wx, ox⟩, rfl⟩
              go_wp2_with fail
              go_ret
              exact ⟨rfl, ox.below⟩
            · cases Z
              · clear D1 D2 F R
                refine reg_lit (C := fun wx => ∃ s : Kept w L, wx = s.wx) (by kernel_rfl) (by kernel_rfl) ⟨⟨_, HS3.out.drew⟩, rfl⟩ ?_
                iterate 9 (go_big_quiet_step (fail))
                go_big_quiet_want
                go_big_quiet_op
                refine ⟨.bool false, fun s => (D3.out _ (HT.out.below (OSt.below s.held)).dec).mono ?_, ?_⟩
                · rintro e w1 ⟨rfl, hb⟩; exact Kept.out hb
                go_big_quiet_on
                iterate 12 (go_big_quiet_step (fail))
                go_big_quiet_want
                go_big_quiet_op
                refine ⟨.bool true, fun s => (HL.out _ (HT.out.below (OSt.below s.held))).mono ?_, ?_⟩
                · rintro e w1 ⟨rfl, hb⟩; exact Kept.out hb
                go_big_quiet_on
                iterate 2 (go_big_quiet_step (fail))
                refine wpQuiet_nil ?_
                rintro _ ⟨⟨wx, ox⟩, rfl⟩
                go_wp2_with fail
                go_ret
                exact ⟨rfl, ox.below⟩
              · obtain rfl : V = true := R.out rfl rfl
                clear D1 D2 F R
                refine reg_lit (C := fun wx => ∃ s : Kept w L, wx = s.wx) (by kernel_rfl) (by kernel_rfl) ⟨⟨_, HS3.out.drew⟩, rfl⟩ ?_
                iterate 9 (go_big_quiet_step (fail))
                go_big_quiet_want
                go_big_quiet_op
                refine ⟨.bool true, fun s => (D3.out _ (HT.out.below (OSt.below s.held)).dec).mono ?_, ?_⟩
                · rintro e w1 ⟨rfl, hb⟩; exact Kept.out hb
                go_big_quiet_on
                iterate 9 (go_big_quiet_step (fail))
                go_big_quiet_want
                go_big_quiet_op
                refine ⟨.bool true, fun s => (D4.out _ (HT.out.below (OSt.below s.held)).dec).mono ?_, ?_⟩
                · rintro e w1 ⟨rfl, hb⟩; exact Kept.out hb
                go_big_quiet_on
                iterate 2 (go_big_quiet_step (fail))
                go_big_quiet_want
                go_big_quiet_op
                refine ⟨.bool true, fun s => (HL.out _ (HT.out.below (OSt.below s.held))).mono ?_, ?_⟩
                · rintro e w1 ⟨rfl, hb⟩; exact Kept.out hb
                go_big_quiet_on
                iterate 2 (go_big_quiet_step (fail))
                refine wpQuiet_nil ?_
                rintro _ ⟨⟨wx, ox⟩, rfl⟩
                go_wp2_with fail
                go_ret
                exact ⟨rfl, ox.below⟩
end Fl
end Go.Proofs.YthjlnafmpcppfaaGreatDoor
