/- The document's parser: is the next token that mark; a mark is taken. -/
import Derived.Test.YtdclhepjoifpiaaGreatDoorMam
namespace Go.Proofs.YtdclhepjoifpiaaGreatDoor
open Go.RowKit
namespace Jt
namespace R9
open Jk (lt_blk below_tr TkR)

theorem bt_part {l : Bs} {t : Tok} (h : t.2.1 < t.2.2) : bt (part l t.2) 0 = bt l t.2.1 := by
  show bt ((l.take t.2.2).drop t.2.1) 0 = _
  unfold bt
  rw [List.getD_eq_getElem?_getD, List.getD_eq_getElem?_getD, List.getElem?_drop, List.getElem?_take, Nat.add_zero, if_pos h]
/-- Is it that mark? -/
def mkB (l : Bs) (t : Tok) (y : Int) : Bool := decide (t.1 = 1 ∧ bt (part l t.2) 0 = y)
section
variable {W w w' : World} {P : Nat} {lv tv : Value} {en : Nat × Nat} {a fc fa : Nat} {lab : Nat → Own} {X : List Nx}
variable {l : Bs} {S : List Tok} {A AL : Option Addr} {n c N cL : Nat} {t : Tok}
set_option maxRecDepth 100000 in
theorem mark_any (H : RE W P l S A AL n c N cL) (R : RP W w P (.slice A n c) (.slice AL N cL) en a tv fc fa lab X) (ht : S[a]? = some t) (y : Int) :
    Calls Tryz.prog 36 #[.pointer (some ⟨P, 0, none⟩), .int .u8 y] w fun e w' => e = .returned (.bool (mkB l t y)) ∧ Below w.heap.size w w' := by
  obtain ⟨c0, c1, c2, c3, c4, _⟩ := R.cells
  obtain ⟨hB, hT⟩ := H.on R
  have haN : a < N := by rw [hT.1]; exact (List.getElem?_eq_some_iff.1 ht).1
  obtain ⟨g, rfl, hg, hct⟩ := hT.at_ (by omega)
  obtain ⟨q1, q2, q3⟩ := hct a t ht
  obtain ⟨k1, k2, k3⟩ := H.hok t (List.mem_of_getElem? ht)
  obtain ⟨b1, off1, rfl, hb1, hc1⟩ := hB.at_ (show t.2.1 < l.length by omega)
  have hby := hc1 t.2.1 (by omega)
  obtain ⟨yb, hyb⟩ : ∃ v, v = bt l t.2.1 := ⟨_, rfl⟩
  have hres : mkB l t y = decide (t.1 = 1 ∧ yb = y) := by unfold mkB; rw [bt_part k1, hyb]
  rw [hres]
  rw [← hyb] at hby
  have hfn : t.2.1 < n := by rw [H.hn]; omega
  have hN6 := H.hsN
  have hn6 := H.hsm
  obtain ⟨kd, F, E⟩ := t
  simp only at q1 q2 q3 hby hfn ⊢
  clear R H hB hT hct ht hc1 hyb hres k1 k2 hb1 hg
  have HK3 := Lib.hid k3
  clear k3
  go_enter Tryz.func36, Tryz.ntmps36
  by_cases hk : kd = 1
  case neg =>
    have hkI : ¬ ((kd : Nat) : Int) = 1 := by omega
    have hd : decide (kd = 1 ∧ yb = y) = false := decide_eq_false fun h => hk h.1
    rw [hd]
    go_upto_region 1 with fail
    go_quiet (fail)
    go_wp2_with fail
    go_ret
    exact ⟨rfl, bdn (Below.refl _ _) _⟩
  subst hk
  by_cases hy : yb = y
  · have hd : decide (1 = 1 ∧ yb = y) = true := decide_eq_true ⟨rfl, hy⟩
    rw [hd]
    subst hy
    go_upto_region 1 with fail
    go_quiet (fail)
    go_wp2_with fail
    go_ret
    exact ⟨by first | rfl | simp, bdn (Below.refl _ _) _⟩
  · have hd : decide (1 = 1 ∧ yb = y) = false := decide_eq_false fun h => hy h.2
    rw [hd]
    go_upto_region 1 with fail
    go_quiet (fail)
    go_wp2_with fail
    go_ret
    exact ⟨by first | rfl | simp [hy], bdn (Below.refl _ _) _⟩
set_option maxRecDepth 100000 in
theorem take_no (R : RP W w P (.slice A n c) (.slice AL N cL) en a tv 0 0 lab X) (h : ¬ a < N) (hN : N ≤ 10000) (y : Int) :
    Calls Tryz.prog 55 #[.pointer (some ⟨P, 0, none⟩), .int .u8 y] w fun e w' => e = .returned (.bool false) ∧ RP W w' P (.slice A n c) (.slice AL N cL) en a tv en.1 en.2 lab X := by
  have HM := Lib.hid (more_no R h hN)
  clear R
  go_enter Tryz.func55, Tryz.ntmps55
  go_wp2_with fail
  refine HM.out.mono ?_
  rintro e w2 ⟨rfl, R2⟩
  go_wp2_with fail
  go_ret
  exact ⟨rfl, R2⟩
set_option maxRecDepth 100000 in
theorem take_bad (H : RE W P l S A AL n c N cL) (R : RP W w P (.slice A n c) (.slice AL N cL) en a tv 0 0 lab X) (ht : S[a]? = some t) (y : Int) (hy : mkB l t y = false) :
    Calls Tryz.prog 55 #[.pointer (some ⟨P, 0, none⟩), .int .u8 y] w fun e w' => e = .returned (.bool false) ∧ RP W w' P (.slice A n c) (.slice AL N cL) en a tv 3 t.2.1 lab X := by
  have haN : a < N := by rw [H.htk.1]; exact (List.getElem?_eq_some_iff.1 ht).1
  have hN6 := H.hsN
  have HM := Lib.hid (more_yes R haN hN6)
  have HK := Lib.hid (fun (wx : World) (hb : Below w.heap.size w wx) => mark_any H (R.on hb) ht y)
  have HF := Lib.hid (fun (wx : World) (hb : Below w.heap.size w wx) => wrong_any (k1 := 3) (k2 := t.2.1) (R.on hb) rfl rfl)
  have HRR := Lib.hid (fun (wx : World) (hb : Below w.heap.size w wx) => (R.on hb).cells)
  obtain ⟨g, eg, hg, hct⟩ := (H.on R).2.at_ (by omega)
  subst eg
  obtain ⟨q1, q2, q3⟩ := hct a t ht
  have HQ := Lib.hid (fun (wx : World) (hb : Below w.heap.size w wx) => (hb.cell (p := ⟨g, a * 3 + 1, none⟩) (lt_cell2 q2)).trans q2)
  have HY := Lib.hid hy
  clear R H hct ht hy q1 q2 q3 hg
  go_enter Tryz.func55, Tryz.ntmps55
  go_wp2_with fail
  refine HM.out.mono ?_
  rintro e w2 ⟨rfl, hb2⟩
  go_wp2_with fail
  refine (HK.out _ hb2).mono ?_
  rintro e w3 ⟨rfl, hb3⟩
  rw [HY.out]
  have hb4 := below_tr hb2 hb3
  obtain ⟨c0, c1, c2, c3, c4, _⟩ := HRR.out _ hb4
  have q2 := HQ.out _ hb4
  go_upto_region 4 with fail
  go_region_with (go_at_call 25; refine (HF.out _ (by first | exact hb4 | exact hb4.drew | exact bdn hb4 _ | exact (bdn hb4 _).drew)).mono ?_; rintro e w5 ⟨rfl, R2⟩)
  all_goals
    go_wp2_with fail
    go_ret
    exact ⟨rfl, R2⟩
set_option maxRecDepth 100000 in
theorem take_yes (H : RE W P l S A AL n c N cL) (R : RP W w P (.slice A n c) (.slice AL N cL) en a tv 0 0 lab X) (ht : S[a]? = some t) (y : Int) (hy : mkB l t y = true) :
    Calls Tryz.prog 55 #[.pointer (some ⟨P, 0, none⟩), .int .u8 y] w fun e w' => e = .returned (.bool true) ∧ RP W w' P (.slice A n c) (.slice AL N cL) en (a + 1) tv 0 0 lab X := by
  have haN : a < N := by rw [H.htk.1]; exact (List.getElem?_eq_some_iff.1 ht).1
  have hN6 := H.hsN
  have HM := Lib.hid (more_yes R haN hN6)
  have HK := Lib.hid (fun (wx : World) (hb : Below w.heap.size w wx) => mark_any H (R.on hb) ht y)
  have HRR := Lib.hid (fun (wx : World) (hb : Below w.heap.size w wx) => R.on hb)
  have HY := Lib.hid hy
  clear R H ht hy
  go_enter Tryz.func55, Tryz.ntmps55
  go_wp2_with fail
  refine HM.out.mono ?_
  rintro e w2 ⟨rfl, hb2⟩
  go_wp2_with fail
  refine (HK.out _ hb2).mono ?_
  rintro e w3 ⟨rfl, hb3⟩
  rw [HY.out]
  have hb4 := below_tr hb2 hb3
  have R3 := HRR.out _ hb4
  obtain ⟨c0, c1, c2, c3, c4, _⟩ := R3.cells
  have z4 := R3.free 4
  have R4 := Lib.hid R3.next
  clear R3
  go_wp2_with fail
  go_ret
  exact ⟨rfl, R4.out⟩
end
end R9
end Jt
end Go.Proofs.YtdclhepjoifpiaaGreatDoor
