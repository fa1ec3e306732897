/- What landed: mark, token. -/
import Derived.Test.YtggeiajbcehkjaaGreatDoorGar
import Derived.Maps.Own
import Derived.Test.YtggeiajbcehkjaaGreatDoorGab
import Derived.Test.YtggeiajbcehkjaaGreatDoorGaa
import Derived.ScopeJumps
import Derived.WalkMore
namespace Go.Proofs.YtggeiajbcehkjaaGreatDoor
open Go.RowKit
namespace Jt
section
variable {w : World} {P : Nat} {sv nv : Value} {lab : Nat → Own} {op : Nat → Prop} {mb : Nat → Nat} {ks : Nat → List Bs} {X : List Nx} {l : List UInt8} {A : Option Addr} {N C : Nat} {en : Nat × Nat} {E : Env}
theorem end_is {s : St} {f t nn : Nat} (he : E.l = l) (h : PM w P (.slice A N C) s.wd s.sk lab op mb ks sv nv X) (hX : X.map Nx.nd = s.nd) (hK : ∀ a, (a, true) ∈ s.sk → ks a = keysAt s.nd a) (hw : Wf nn s) (hT : Txt w P A N C l) (hft : f < t) (ht : t ≤ N) {r : SR} (hr : r = s.end_ E (1, f, t)) :
    Calls Tryz.prog 141 #[.pointer (some ⟨P, 0, none⟩), .agg #[.int .u8 1, .int .i64 (f : Nat), .int .i64 (t : Nat)]] w (Step w P (.slice A N C) lab r) := by subst hr; exact end_any he h hX hK hw hT hft ht
/-- A callee has ended the walk: nothing is left of the region. -/
theorem over {Pr : Program} {w0 : World} {G : Prop} (g : G) (_h : wpAny Pr .any #[] (fun _ _ _ => True) 0 #[] { tmps := #[], defers := [] } w0) : G := g
set_option maxRecDepth 100000 in
set_option maxHeartbeats 4000000 in
theorem mark_any {s : St} {f t nn : Nat} (he : E = envL l en) (h : PM w P (.slice A N C) s.wd s.sk lab op mb ks sv nv X) (hX : X.map Nx.nd = s.nd) (hK : ∀ a, (a, true) ∈ s.sk → ks a = keysAt s.nd a) (hw : Wf nn s) (hnn : nn ≤ 1000000) (hT : Txt w P A N C l) (hft : f < t) (ht : t ≤ N) :
    Calls Tryz.prog 119 #[.pointer (some ⟨P, 0, none⟩), .agg #[.int .u8 1, .int .i64 (f : Nat), .int .i64 (t : Nat)]] w (Step w P (.slice A N C) lab (step E s (1, f, t))) := by
  obtain ⟨w1, hw1⟩ : ∃ w1, w1 = w.alloc (.cells #[.int .u8 1, .int .i64 (f : Nat), .int .i64 (t : Nat)] 145) := ⟨_, rfl⟩
  have hb1 : Below w.heap.size w w1 := by rw [hw1]; exact (Below.refl _ _).alloc (Nat.le_refl _) _
  have hl1 : w.heap.size < w1.heap.size := by rw [hw1]; simp
  have HM1 := Lib.hid (h.below hb1)
  have HB1 := Lib.hid hb1
  have HP := Lib.hid h.lt
  have t0 : ∀ wx, Below w1.heap.size w1 wx → wx.cell? ⟨w.heap.size, 0, none⟩ = some (.int .u8 1) ∧ wx.cell? ⟨w.heap.size, 1, none⟩ = some (.int .i64 (f : Nat)) ∧ wx.cell? ⟨w.heap.size, 2, none⟩ = some (.int .i64 (t : Nat)) := fun wx hb => by
    refine ⟨(hb.cell (by exact hl1)).trans ?_, (hb.cell (by exact hl1)).trans ?_, (hb.cell (by exact hl1)).trans ?_⟩ <;> (rw [hw1]; simp [go_sem])
  have HT0 := Lib.hid t0
  obtain ⟨r, hr⟩ : ∃ r, r = Jt.step E s (1, f, t) := ⟨_, rfl⟩
  rw [← hr]
  have HR := Lib.hid hr
  have HX := Lib.hid hX
  have HK := Lib.hid hK
  have HWF := Lib.hid hw
  have HT := Lib.hid hT
  have HE := Lib.hid he
  have HWD := Lib.hid hw.wd
  have HFT := Lib.hid (And.intro hft ht)
  have hfN : f < N := by omega
  have hEl : E.l = l := by rw [he]; rfl
  have HEL := Lib.hid hEl
  obtain ⟨b0, o0, rfl, hbP, hby⟩ := hT.byt.at_ (k := f) (by have := hT.n; omega)
  obtain ⟨y, hy⟩ : ∃ y, y = bt l f := ⟨_, rfl⟩
  have hmk : ∀ c, E.mk? (1, f, t) c = decide (y = c) := fun c => by rw [hy]; exact mk_bt hEl hft (by have := hT.n; omega) c
  have HMK := Lib.hid hmk
  have hyb := (hb1.cell (p := ⟨b0, o0 + f, none⟩) (by have := h.lt; show b0 < _; omega)).trans (hby f (by have := hT.n; omega))
  rw [← hy] at hyb
  have K0 := fun s : Kept w1 => s.cell HM1.out.po.cells.1
  have K1 := fun s : Kept w1 => s.cell (t0 w1 (Below.refl _ _)).2.1
  have KY := fun s : Kept w1 => s.cell hyb
  have hlast := hT.few
  clear h hX hK hw hb1 t0 hr hT hft ht he hEl hby hyb hy hmk
  go_enter Tryz.func119, Tryz.ntmps119
  go_upto_region 1 with fail
  rw [← hw1]
  refine reg_lit (C := fun wx => ∃ s : Kept w1, wx = s.wx) (by kernel_rfl) (by kernel_rfl) ⟨⟨_, (Below.refl _ _).drew⟩, rfl⟩ ?_
  iterate 8 (go_big_quiet_step (fail))
  refine wpQuiet_nil ?_
  rintro w2 ⟨⟨wx, ox0⟩, e⟩
  have ox : Below w1.heap.size w1 w2 := by rw [e]; exact ox0
  clear e ox0 K0 K1 KY hw1
  have HM2 := Lib.hid (HM1.out.below ox)
  have HB2 := Lib.hid (Jk.below_tr HB1.out ox)
  have HW2 := Lib.hid ox
  obtain ⟨q0, q1, q2⟩ := HT0.out w2 ox
  have c3 := HM2.out.po.cells.2.2.2
  obtain ⟨nA, nc, e, hnc, hnc6, _⟩ := (Rr.of_own HM2.out.nt.row).shape
  subst e
  obtain ⟨xl, hxl⟩ : ∃ xl, xl = X.length := ⟨_, rfl⟩
  have HXL := Lib.hid hxl
  rw [← hxl] at c3
  clear ox hxl hnc hnc6
  have hstep : ∀ r', (E.mk? (1, f, t) 91 = true → r' = s.begin_ (1, f, t) false) → (E.mk? (1, f, t) 91 = false → E.mk? (1, f, t) 123 = true → r' = s.begin_ (1, f, t) true) →
      (E.mk? (1, f, t) 91 = false → E.mk? (1, f, t) 123 = false → E.mk? (1, f, t) 58 = true → r' = if s.wd &&& 4 = 0 then .bad 3 f else .ok { s with wd := 1 }) →
      (E.mk? (1, f, t) 91 = false → E.mk? (1, f, t) 123 = false → E.mk? (1, f, t) 58 = false → E.mk? (1, f, t) 44 = true → r' = if s.wd &&& 8 = 0 then .bad 3 f else .ok { s with wd := firstTop s.sk }) →
      (E.mk? (1, f, t) 91 = false → E.mk? (1, f, t) 123 = false → E.mk? (1, f, t) 58 = false → E.mk? (1, f, t) 44 = false → r' = s.end_ E (1, f, t)) → r = r' := fun r' h1 h2 h3 h4 h5 => by
    rw [HR.out]
    unfold Jt.step
    rw [if_neg (show ¬ (1 : Nat) = 2 by decide), if_neg (show ¬ (1 : Nat) = 3 by decide), if_neg (show ¬ (1 : Nat) = 4 by decide), if_pos rfl]
    by_cases g1 : E.mk? (1, f, t) 91 = true
    · rw [if_pos g1, h1 g1]
    have g1' : E.mk? (1, f, t) 91 = false := by simpa using g1
    rw [if_neg g1]
    by_cases g2 : E.mk? (1, f, t) 123 = true
    · rw [if_pos g2, h2 g1' g2]
    have g2' : E.mk? (1, f, t) 123 = false := by simpa using g2
    rw [if_neg g2]
    by_cases g3 : E.mk? (1, f, t) 58 = true
    · rw [if_pos g3, h3 g1' g2' g3]
    have g3' : E.mk? (1, f, t) 58 = false := by simpa using g3
    rw [if_neg g3]
    by_cases g4 : E.mk? (1, f, t) 44 = true
    · rw [if_pos g4, h4 g1' g2' g3' g4]
    have g4' : E.mk? (1, f, t) 44 = false := by simpa using g4
    rw [if_neg g4, h5 g1' g2' g3' g4']
  have HST := Lib.hid hstep
  clear hstep
  have HB2P := Lib.hid (HB2.out.mono (Nat.le_of_lt HP.out))
  have HLX := Lib.hid (show s.nd.length = xl by rw [HXL.out, ← HX.out, List.length_map])
  have hmm := @run_makeMap Tryz.prog
  by_cases e91 : y = 91
  · subst e91
    have R := Lib.hid (HST.out (s.begin_ (1, f, t) false) (fun _ => rfl) (fun h => by rw [HMK.out] at h; simp at h) (fun h => by rw [HMK.out] at h; simp at h) (fun h => by rw [HMK.out] at h; simp at h) (fun h => by rw [HMK.out] at h; simp at h))
    have HM3 := HM2.out.below ((Below.refl _ _).drew)
    have B := begin_is (ky := 1) (k := 1) rfl (f := f) (t := t) (b := 0) (m := false) HM3 HX.out HK.out HWF.out hnn (fun e => by cases e) rfl (yk := 7) rfl R.out
    rw [HLX.out, show skC (fun _ => 0) (xl, false) = .iface 182 (.agg #[.int .i64 (xl : Nat)]) from rfl] at B
    have BB := Lib.hid B
    clear B HM3
    cases r with
    | bad c a =>
      go_upto_region 4 with fail
      go_region_with (go_at_call 137; refine BB.out.mono ?_; rintro e w4 ⟨hb4, rfl⟩; refine over (Pr := Tryz.prog) (w0 := w4) ⟨rfl, HB2P.out.drew.trans hb4, rfl⟩ ?_)
      all_goals trivial
    | ok s' =>
      go_upto_region 4 with fail
      go_region_with (go_at_call 137; refine BB.out.mono ?_; rintro e w4 ⟨hb4, rfl, hf4, hs4⟩; have HS4 := Lib.hid (And.intro hb4 (And.intro hf4 hs4)); clear hb4 hf4 hs4)
      all_goals
        go_wp2_with fail
        refine bodyPost_end (results_none rfl _ _ _) rfl ?_
        exact ⟨HB2P.out.drew.trans HS4.out.1, rfl, (Fr.of HB2.out).on HB2.out.size (fun _ _ => rfl) (show Fr lab P w2 w4 from HS4.out.2.1), HS4.out.2.2⟩
  by_cases e123 : y = 123
  · subst e123
    have R := Lib.hid (HST.out (s.begin_ (1, f, t) true) (fun h => by rw [HMK.out] at h; simp at h) (fun _ _ => rfl) (fun _ h => by rw [HMK.out] at h; simp at h) (fun _ h => by rw [HMK.out] at h; simp at h) (fun _ h => by rw [HMK.out] at h; simp at h))
    clear e91
    obtain ⟨w3, hw3⟩ : ∃ w3, w3 = (w2.drew).alloc (.map #[] 0) := ⟨_, rfl⟩
    have hb3 : Below w2.heap.size w2 w3 := by rw [hw3]; exact ((Below.refl _ _).drew).alloc (Nat.le_refl _) _
    have hown : w3.ownsMap Tryz.prog 9 unitElem w2.heap.size 0 (setK []) := by rw [hw3]; exact World.ownsMap_made _ _ _ _
    have hsz : w2.heap.size < w3.heap.size := by rw [hw3]; simp
    have HM3 : PM w3 P (.slice (some ⟨b0, o0, none⟩) N C) s.wd s.sk (fun k => if k = w2.heap.size then .no else lab k) op mb ks sv (.slice nA X.length nc) X :=
      (HM2.out.relabel (lab' := fun k => if k = w2.heap.size then .no else lab k) (fun k hk => if_neg (by omega))).below hb3
    have hbs : P + 1 ≤ w2.heap.size := HM2.out.lt
    have B := begin_is (ky := 1) (k := 1) rfl (f := f) (t := t) (b := w2.heap.size) (m := true) HM3 HX.out HK.out HWF.out hnn (fun _ => ⟨hbs, if_pos rfl, hsz, hown⟩) rfl (yk := 8) rfl R.out
    rw [HLX.out, show skC (fun _ => w2.heap.size) (xl, true) = .iface 185 (.agg #[.int .i64 (xl : Nat), .map (some w2.heap.size)]) from rfl] at B
    have HB3 := Lib.hid (HB2P.out.trans (hb3.mono (by omega)))
    rw [hw3] at B HB3
    have BB := Lib.hid B
    have c3a : ∀ o, (w2.alloc o).cell? ⟨P, 3, none⟩ = some (.slice nA xl nc) := fun o => by rw [World.cell?_alloc_lt _ _ _ (by exact hbs)]; exact c3
    have qa : ∀ j v, w2.cell? ⟨w.heap.size, j, none⟩ = some v → ∀ o, (w2.alloc o).cell? ⟨w.heap.size, j, none⟩ = some v := fun j v hv o => by
      rw [World.cell?_alloc_lt _ _ _ (World.block_lt_of_cell? _ _ hv)]; exact hv
    have q0a := qa _ _ q0
    have q1a := qa _ _ q1
    have q2a := qa _ _ q2
    clear B HM3 hw3 hb3 hown hsz hbs qa
    cases r with
    | bad c a =>
      go_upto_region 6 with fail
      go_region_with (go_at_call 137; refine BB.out.mono ?_; rintro e w4 ⟨hb4, rfl⟩; refine over (Pr := Tryz.prog) (w0 := w4) ⟨rfl, HB3.out.trans hb4, rfl⟩ ?_)
      all_goals trivial
    | ok s' =>
      go_upto_region 6 with fail
      go_region_with (go_at_call 137; refine BB.out.mono ?_; rintro e w4 ⟨hb4, rfl, hf4, hs4⟩; have HS4 := Lib.hid (And.intro hb4 (And.intro hf4 hs4)); clear hb4 hf4 hs4)
      all_goals
        go_wp2_with fail
        refine bodyPost_end (results_none rfl _ _ _) rfl ?_
        refine ⟨HB3.out.trans HS4.out.1, rfl, ?_, HS4.out.2.2⟩
        exact fun b hb hbP hbl => (HS4.out.2.1 b (by have := HB2.out.size; show b < (w2.drew.alloc _).heap.size; simp; omega) hbP (by show (if b = w2.heap.size then Own.no else lab b) = _; rw [if_neg (by have := HB2.out.size; omega)]; exact hbl)).trans
          (((Below.refl w2.heap.size w2).drew.alloc (Nat.le_refl _) _).block b (by have := HB2.out.size; omega) |>.trans (HB2.out.block b hb))
  by_cases e58 : y = 58
  · subst e58
    have R0 := HST.out (if s.wd &&& 4 = 0 then .bad 3 f else .ok { s with wd := 1 }) (fun h => by rw [HMK.out] at h; simp at h) (fun _ h => by rw [HMK.out] at h; simp at h) (fun _ _ _ => rfl) (fun _ _ h => by rw [HMK.out] at h; simp at h) (fun _ _ h => by rw [HMK.out] at h; simp at h)
    clear e91 e123
    by_cases hb : s.wd &&& 4 = 0
    · have CN := Lib.hid (need_no (b := 4) (y := 4) (k := 1) (f := (f : Nat)) (t := (t : Nat)) w2 HM2.out.po (by have := HWD.out; omega) (by decide) hb rfl)
      rw [if_pos hb] at R0
      have R := Lib.hid R0
      clear hb R0
      go_wp2_with fail
      refine CN.out.mono ?_
      rintro e w4 ⟨rfl, hb4⟩
      exact ⟨rfl, Step.bad (HB2P.out.trans (hb4.mono (Nat.le_of_lt HM2.out.lt))) R.out rfl⟩
    · have CN := Lib.hid (need_ok (b := 4) (y := 4) (k := 1) (f := (f : Nat)) (t := (t : Nat)) w2 HM2.out.po (by have := HWD.out; omega) (by decide) hb rfl)
      rw [if_neg hb] at R0
      have R := Lib.hid R0
      clear hb R0
      go_wp2_with fail
      refine CN.out.mono ?_
      rintro e w4 ⟨rfl, hb4⟩
      have HM4 := Lib.hid (HM2.out.below hb4)
      have HB4 := Lib.hid (HB2P.out.trans (hb4.mono (Nat.le_of_lt HM2.out.lt)))
      have HW4 := Lib.hid (Jk.below_tr HB2.out hb4)
      have c1 := HM4.out.po.cells.2.1
      have f1 := HM4.out.po.free 1
      clear hb4 CN
      go_wp2_with fail
      refine bodyPost_end (results_none rfl _ _ _) rfl ?_
      exact Step.ok (bset HB4.out 1 _) R.out rfl (HM4.out.want 1) HX.out HK.out ((Fr.of HW4.out).set 1 _)
  by_cases e44 : y = 44
  · subst e44
    have R0 := HST.out (if s.wd &&& 8 = 0 then .bad 3 f else .ok { s with wd := firstTop s.sk }) (fun h => by rw [HMK.out] at h; simp at h) (fun _ h => by rw [HMK.out] at h; simp at h) (fun _ _ h => by rw [HMK.out] at h; simp at h) (fun _ _ _ _ => rfl) (fun _ _ _ h => by rw [HMK.out] at h; simp at h)
    clear e91 e123 e58
    by_cases hb : s.wd &&& 8 = 0
    · have CN := Lib.hid (need_no (b := 8) (y := 8) (k := 1) (f := (f : Nat)) (t := (t : Nat)) w2 HM2.out.po (by have := HWD.out; omega) (by decide) hb rfl)
      rw [if_pos hb] at R0
      have R := Lib.hid R0
      clear hb R0
      go_wp2_with fail
      refine CN.out.mono ?_
      rintro e w4 ⟨rfl, hb4⟩
      exact ⟨rfl, Step.bad (HB2P.out.trans (hb4.mono (Nat.le_of_lt HM2.out.lt))) R.out rfl⟩
    · have CN := Lib.hid (need_ok (b := 8) (y := 8) (k := 1) (f := (f : Nat)) (t := (t : Nat)) w2 HM2.out.po (by have := HWD.out; omega) (by decide) hb rfl)
      rw [if_neg hb] at R0
      have R := Lib.hid R0
      have hne : s.sk ≠ [] := HWF.out.top (fun e0 => hb (by rw [e0]; rfl)) (fun e0 => hb (by rw [e0]; rfl))
      obtain ⟨a, m, S, hsk⟩ : ∃ a m S, s.sk = (a, m) :: S := by
        cases hs : s.sk with
        | nil => exact absurd hs hne
        | cons p S => exact ⟨p.1, p.2, S, rfl⟩
      have HSK := Lib.hid hsk
      have hdS : S.length ≤ 256 := by have := HWF.out.deep; rw [hsk, List.length_cons] at this; omega
      have hm2 := HM2.out
      rw [hsk] at hm2
      obtain ⟨tn, pv, hsh⟩ := skC_shape mb (a, m)
      obtain ⟨yf, hyf⟩ : ∃ yf : Int, yf = ((firstM m : Nat) : Int) := ⟨_, rfl⟩
      have WI := Lib.hid (fun w => hsh ▸ within_is mb a m (y := yf) (z := enM m) hyf rfl w)
      have HYF := Lib.hid hyf
      have HSH := Lib.hid hsh
      have H2 := Lib.hid hm2
      clear hb R0 hne hsk hm2 hsh hyf
      go_wp2_with fail
      refine CN.out.mono ?_
      rintro e w4 ⟨rfl, hb4⟩
      have HM4 := Lib.hid (H2.out.below hb4)
      have HB4 := Lib.hid (HB2P.out.trans (hb4.mono (Nat.le_of_lt HM2.out.lt)))
      have HW4 := Lib.hid (Jk.below_tr HB2.out hb4)
      have CT := Lib.hid (HSH.out ▸ top_any HM4.out hdS)
      clear hb4 CN
      go_wp2_with fail
      refine CT.out.mono ?_
      rintro e w5 ⟨rfl, hb5⟩
      have HM5 := Lib.hid (HM4.out.below hb5)
      have HB5 := Lib.hid (HB4.out.trans (hb5.mono (Nat.le_of_lt HM4.out.lt)))
      have HW5 := Lib.hid (Jk.below_tr HW4.out hb5)
      have c1 := HM5.out.po.cells.2.1
      have f1 := HM5.out.po.free 1
      clear hb5 CT
      go_wp2_with fail
      refine (WI.out _).mono ?_
      rintro e w6 ⟨rfl, hw6⟩
      rw [← hw6]
      clear hw6
      go_wp2_with fail
      refine bodyPost_end (results_none rfl _ _ _) rfl ?_
      have hM := HM5.out.want (firstM m)
      rw [← HYF.out] at hM
      have hM2 : PM (w5.setCell ⟨P, 1, none⟩ (.int .u8 yf)) P (.slice (some ⟨b0, o0, none⟩) N C) (firstTop s.sk) s.sk lab op mb ks sv (.slice nA X.length nc) X := by
        rw [HSK.out]
        exact hM
      exact Step.ok (s := { s with wd := firstTop s.sk }) (bset HB5.out 1 _) R.out rfl hM2 HX.out HK.out ((Fr.of HW5.out).set 1 _)
  · have R := Lib.hid (HST.out (s.end_ E (1, f, t)) (fun h => by rw [HMK.out] at h; exact absurd (of_decide_eq_true h) e91) (fun _ h => by rw [HMK.out] at h; exact absurd (of_decide_eq_true h) e123) (fun _ _ h => by rw [HMK.out] at h; exact absurd (of_decide_eq_true h) e58) (fun _ _ _ h => by rw [HMK.out] at h; exact absurd (of_decide_eq_true h) e44) (fun _ _ _ _ => rfl))
    have CE := Lib.hid (end_is (E := E) HEL.out HM2.out HX.out HK.out HWF.out (HT.out.below HB2P.out) HFT.out.1 HFT.out.2 R.out)
    have d1 : (y == 91) = false := by simpa using e91
    have d2 : (y == 123) = false := by simpa using e123
    have d3 : (y == 58) = false := by simpa using e58
    have d4 : (y == 44) = false := by simpa using e44
    clear e91 e123 e58 e44
    go_wp2_with fail
    refine CE.out.mono ?_
    rintro e w5 ⟨hb5, hS5⟩
    have HB5 := Lib.hid (HB2P.out.trans hb5)
    cases r with
    | bad c0 a0 =>
      obtain rfl := hS5
      exact ⟨rfl, HB5.out, rfl⟩
    | ok s' =>
      obtain ⟨rfl, hf6, hS6⟩ := hS5
      have HH := Lib.hid hS6
      have HFF := Lib.hid ((Fr.of (lab := lab) (P := P) HB2.out).on HB2.out.size (fun _ _ => rfl) hf6)
      clear hS6 hb5 hf6
      go_wp2_with fail
      refine bodyPost_end (results_none rfl _ _ _) rfl ?_
      exact ⟨HB5.out, rfl, HFF.out, HH.out⟩
end
end Jt
end Go.Proofs.YtggeiajbcehkjaaGreatDoor
/- What landed: where spaces, a mark, a word end. -/
namespace Go.Proofs.YtggeiajbcehkjaaGreatDoor
open Go.RowKit
namespace Jk

section
variable {l : List UInt8} {B : Nat} {A : Option Addr}
theorem spaceEnd_is (n c k : Nat) {x v : Int} (w : World) (hF : Forms) (hn : n = l.length) (hA : Byt w B A l) (hm : n ≤ 1000000) (hx : x = k) (hk : k ≤ 1000100) (hv : v = ((k + rw spc (l.drop k) : Nat) : Int)) :
    Calls Tryz.prog 131 #[.slice A n c, .int .i64 x] w fun e w' => e = .returned (.tuple #[.int .i64 v, .bool true]) ∧ w = w' := by
  have C := Lib.hid (fun w hA => behind_is (A := A) (B := B) n c k (x := x) (v := v) w hF.blanks hn hA hm hx hk hv)
  clear hn hm hx hk hv hF
  go_enter Tryz.func131, Tryz.ntmps131
  go_wp2_with (go_at_call 172; refine (C.out _ hA).mono ?_; rintro e w' ⟨rfl, rfl⟩)
  go_ret2
  exact ⟨rfl, rfl⟩
theorem markEnd_is (S : Value) {x : Int} (w : World) (h0 : 0 ≤ x) (h1 : x ≤ 1000100) :
    Calls Tryz.prog 132 #[S, .int .i64 x] w fun e w' => e = .returned (.tuple #[.int .i64 (x + 1), .bool true]) ∧ w = w' := by
  have hw : wrap64 (x + 1) = x + 1 := by unfold wrap64; omega
  go_enter Tryz.func132, Tryz.ntmps132
  go_wp2_with fail
  go_ret2
  exact ⟨rfl, rfl⟩
/-- Where a word ends, or where it is wrong. -/
def wdv (l : List UInt8) (i : Nat) : Value := if words ((l.drop i).take (rw ltr (l.drop i))) = true then .tuple #[.int .i64 ((i + rw ltr (l.drop i) : Nat) : Int), .bool true] else .tuple #[.int .i64 (i : Nat), .bool false]
set_option maxHeartbeats 4000000 in
theorem wordEnd_is (n c i : Nat) {x : Int} (w : World) (hF : Forms) (hn : n = l.length) (hnc : n ≤ c) (_hc6 : c ≤ maxLen) (hA : Byt w B A l) (hm : n ≤ 1000000) (hx : x = i) (hi : i < l.length) :
    Calls Tryz.prog 133 #[.slice A n c, .int .i64 x] w fun e w' => e = .returned (wdv l i) ∧ w = w' := by
  subst hx
  unfold maxLen at _hc6
  obtain ⟨j, hj⟩ : ∃ j, j = i + rw ltr (l.drop i) := ⟨_, rfl⟩
  have hjl : j ≤ n := by have := rw_in ltr l (Nat.le_of_lt hi); omega
  have hij : i ≤ j := by omega
  have C := Lib.hid (fun w hA => behind_is (A := A) (B := B) n c i (x := i) (v := j) w hF.letters hn hA hm rfl (by omega) (by rw [hj]))
  have E : wdv l i = if words ((l.take j).drop i) = true then .tuple #[.int .i64 (j : Nat), .bool true] else .tuple #[.int .i64 (i : Nat), .bool false] := by
    unfold wdv
    rw [word_cut, ← hj]
  obtain ⟨t, ht⟩ : ∃ t, t = (l.take j).drop i := ⟨_, rfl⟩
  rw [← ht] at E
  have HA := Lib.hid hA
  have hin : i < n := by omega
  obtain ⟨b, off, rfl, _, _⟩ := hA.at_ hi
  have hcv := conv_bytes (l := (l.take j).drop i) (w := w) (j - i) (c - i) (by simp; omega) (cut_two hA hij (by omega))
  rw [← ht] at hcv
  clear hn hm hF ht hj hi hA
  by_cases hw : words t = true
  · rw [if_pos hw] at E
    have E := Lib.hid E
    have hv : t = [116, 114, 117, 101] ∨ t = [102, 97, 108, 115, 101] ∨ t = [110, 117, 108, 108] := by simpa [words] using hw
    clear hw
    rcases hv with rfl | rfl | rfl
    all_goals
      simp only [txt] at hcv
      go_enter Tryz.func133, Tryz.ntmps133
      go_wp2_with (go_at_call 172; refine (C.out _ HA.out).mono ?_; rintro e w' ⟨rfl, rfl⟩)
      refine bodyPost_ret (v := .tuple #[.int .i64 j, .bool true]) (by simp [results, Tryz.results133, go_sem, *]) rfl ?_
      exact ⟨by rw [E.out], rfl⟩
  · rw [if_neg hw] at E
    have E := Lib.hid E
    have hv : ¬ (t = [116, 114, 117, 101] ∨ t = [102, 97, 108, 115, 101] ∨ t = [110, 117, 108, 108]) := by simpa [words] using hw
    clear hw
    obtain ⟨U, hU⟩ : ∃ U, U = txt t := ⟨_, rfl⟩
    have hne : ∀ m : List UInt8, t ≠ m → (U.toList == m) = false := fun m hm => by
      rw [hU, Lib.toList_data]
      exact beq_false_of_ne hm
    have u1 := hne _ (fun e => hv (.inl e))
    have u2 := hne _ (fun e => hv (.inr (.inl e)))
    have u3 := hne _ (fun e => hv (.inr (.inr e)))
    rw [← hU] at hcv
    clear hU hne hv
    go_enter Tryz.func133, Tryz.ntmps133
    go_wp2_with (go_at_call 172; refine (C.out _ HA.out).mono ?_; rintro e w' ⟨rfl, rfl⟩)
    refine bodyPost_ret (v := .tuple #[.int .i64 i, .bool false]) (by simp [results, Tryz.results133, go_sem, *]) rfl ?_
    exact ⟨by rw [E.out], rfl⟩
end
end Jk
end Go.Proofs.YtggeiajbcehkjaaGreatDoor
/- A scope in which the run jumps to labels: at each jump the walk goes on from that label, with the frame that it has. -/
namespace Go.Proofs.YtggeiajbcehkjaaGreatDoor
open Go.RowKit
namespace Jk

/-- From code r, inside the scope of c, the run arrives at Q. -/
def SW (P : Program) (c r : Code) (Q : Exit → Act → World → Prop) (a : Act) (w : World) : Prop :=
  ∀ (b : Frame) (k : List Item) (cs : List Frame), ∃ e a' w', Q e a' w' ∧ Arrives P (lone (b.at a (.code r :: .inScope c :: k)) cs w) b k cs e a' w'
/-- At a jump: what stands behind that label; else as Q. -/
def Exit.inSc (P : Program) (c : Code) (Q : Exit → Act → World → Prop) : Exit → Act → World → Prop
  | .goto l, a, w => ∃ rest, findLabel c l = some rest ∧ SW P c rest Q a w
  | e, a, w => Q e a w
section
variable {P : Program} {c r : Code} {Q : Exit → Act → World → Prop} {a : Act} {w : World}
theorem SW.of (h : r.wp P (Exit.inSc P c Q) a w) : SW P c r Q a w := by
  intro b k cs
  obtain ⟨e, a₁, w₁, hq, harr⟩ := h b (.inScope c :: k) cs
  cases e with
  | normal => exact ⟨.normal, a₁, w₁, hq, Steps.trans harr (.one step_inScope)⟩
  | exit id => exact ⟨.exit id, a₁, w₁, hq, fun k' hk => harr k' (by simp [exitTo, hk])⟩
  | goto l =>
    obtain ⟨rest, hf, hs⟩ := hq
    obtain ⟨e₂, a₂, w₂, hq₂, harr₂⟩ := hs b k cs
    have hg : gotoIn l (.inScope c :: k) = some (.code rest :: .inScope c :: k) := by simp [gotoIn, hf]
    exact ⟨e₂, a₂, w₂, hq₂, .of_steps (harr _ hg) harr₂⟩
  | ret => exact ⟨_, a₁, w₁, hq, harr⟩
  | panic ch => exact ⟨_, a₁, w₁, hq, harr⟩
  | outgrown => exact ⟨_, a₁, w₁, hq, harr⟩
theorem wp_scope_sw (h : SW P c c Q a w) : (Code.scope c).wp P Q a w := by
  intro b k cs
  obtain ⟨e, a₁, w₁, hq, harr⟩ := h b k cs
  exact ⟨e, a₁, w₁, hq, .of_steps (.one step_scope) harr⟩
theorem wp_scope_sw' (h : ∀ C, C = c → c.wp P (Exit.inSc P C Q) a w) : (Code.scope c).wp P Q a w := wp_scope_sw (SW.of (h c rfl))
theorem inSc_ret : Exit.inSc P c Q .ret a w = Q .ret a w := rfl
theorem inSc_goto {l : Nat} {rest : Code} (hf : findLabel c l = some rest) (h : rest.wp P (Exit.inSc P c Q) a w) : Exit.inSc P c Q (.goto l) a w := ⟨rest, hf, SW.of h⟩
end
end Jk
end Go.Proofs.YtggeiajbcehkjaaGreatDoor
