/- What landed: end. -/
import Derived.Test.YtggeiajbcehkjaaGreatDoorGag
import Derived.Deep.RegionWith
namespace Go.Proofs.YtggeiajbcehkjaaGreatDoor
open Go.RowKit
namespace Jt
section
variable {w : World} {P : Nat} {sv nv : Value} {lab : Nat → Own} {op : Nat → Prop} {mb : Nat → Nat} {ks : Nat → List Bs} {X : List Nx} {l : List UInt8} {A : Option Addr} {N C : Nat}
/-- The text that the parser holds. -/
structure Txt (w : World) (P : Nat) (A : Option Addr) (N C : Nat) (l : List UInt8) : Prop where
  byt : Byt w P A l
  n : N = l.length
  c : N ≤ C
  c6 : C ≤ maxLen
  few : N ≤ 1000000
theorem Txt.below {w' : World} (h : Txt w P A N C l) (hb : Below P w w') : Txt w' P A N C l := ⟨h.byt.below hb, h.n, h.c, h.c6, h.few⟩
theorem mk_bt {E : Env} (he : E.l = l) {f t : Nat} (hf : f < t) (_ht : t ≤ l.length) (c : Int) : E.mk? (1, f, t) c = decide (bt l f = c) := by
  unfold Env.mk? Env.by
  have e : bt ((E.l.take t).drop f) 0 = bt l f := by rw [bt_drop, Nat.add_zero, he, bt_take l hf]
  rw [e]
  by_cases h : bt l f = c <;> simp [h]
/-- While the innermost one is shut: the row of the stack still has it. -/
structure PG (w : World) (P : Nat) (bv : Value) (wd : Nat) (sk S : List (Nat × Bool)) (lab : Nat → Own) (op : Nat → Prop) (mb : Nat → Nat) (ks : Nat → List Bs) (sv nv : Value) (X : List Nx) : Prop where
  obj : w.heap[P]? = some (.cells #[bv, .int .u8 (wd : Nat), sv, nv] 103 (0, 0))
  nt : NT w (P + 1) lab op nv X
  stk : w.ownsRow (P + 1) 190 1 sv sk.length (skL mb sk)
  ls : ∀ b, sv.ownBlock = some b → lab b = .stk
  op : ∀ p ∈ S, op p.1
  maps : ∀ a, (a, true) ∈ S → lab (mb a) = .map a ∧ P + 1 ≤ mb a ∧ w.ownsMap Tryz.prog 9 unitElem (mb a) (ks a).length (setK (ks a))
section
variable {wd i : Nat} {bv : Value} {sk S : List (Nat × Bool)} {x : Nx}
theorem PM.shut {a : Nat} {m : Bool} (h : PM w P bv wd ((a, m) :: S) lab op mb ks sv nv X) (hn : ∀ m', (a, m') ∉ S) : PG w P bv wd ((a, m) :: S) S lab (fun i => op i ∧ i ≠ a) mb ks sv nv X :=
  ⟨h.obj, h.nt.opn_ fun _ q => q.1, h.stk, h.ls, fun p hp => ⟨h.op p (List.mem_cons_of_mem _ hp), fun e => hn p.2 (by rw [← e]; exact hp)⟩, fun a ha => h.maps a (List.mem_cons_of_mem _ ha)⟩
theorem PG.lt (h : PG w P bv wd sk S lab op mb ks sv nv X) : P < w.heap.size := Jk.lt_blk h.obj
theorem PG.po (h : PG w P bv wd sk S lab op mb ks sv nv X) : PO w P bv wd sv nv := h.obj
theorem PG.drew (h : PG w P bv wd sk S lab op mb ks sv nv X) : PG w.drew P bv wd sk S lab op mb ks sv nv X := ⟨h.obj, h.nt.keep (fun _ _ _ _ => rfl) (fun _ _ => rfl) fun _ h => h, h.stk, h.ls, h.op, h.maps⟩
theorem PG.cell {nd' : Nd} {vs : Nat → Value} {r g : Nat} {u : Value} (h : PG w P bv wd sk S lab op mb ks sv nv X) (hx : X[i]? = some x) (hr : r < 7) (hc : ndC ⟨nd', vs⟩ = (ndC x).set r u) (hnd : ∀ k, ecn nd' k = ecn x.nd k ∧ ecs nd' k = ecs x.nd k)
    (hvs : ∀ k, k < 3 → vs k = x.v k ∨ (¬ op i ∧ vs k = clipV (x.v k))) (hvb : nv.ownBlock = some g) : PG (w.setCell ⟨g, i * 7 + r, none⟩ u) P bv wd sk S lab op mb ks sv nv (X.set i ⟨nd', vs⟩) := by
  have hgl := h.nt.lt g hvb
  have key : ∀ b, b ≠ g → (w.setCell ⟨g, i * 7 + r, none⟩ u).heap[b]? = w.heap[b]? := fun b hb => heap_setCell_other _ _ _ _ hb
  have nog : ∀ b, lab b ≠ .nd → b ≠ g := fun b hb e => hb (by rw [e]; exact h.nt.l g hvb)
  refine ⟨?_, h.nt.cell hx hr hc hnd hvs hvb, own_keep h.stk fun k hk => key k (nog k (by rw [h.ls k hk]; exact fun e => by cases e)), h.ls, h.op, fun a ha => ?_⟩
  · rw [key P (by omega)]; exact h.obj
  · obtain ⟨m1, m2, m3⟩ := h.maps a ha
    exact ⟨m1, m2, map_keep m3 (key _ (nog _ (by rw [m1]; exact fun e => by cases e)))⟩
theorem PG.clip {j g : Nat} (h : PG w P bv wd sk S lab op mb ks sv nv X) (hx : X[i]? = some x) (hj : j < 3) (ho : ¬ op i) (hvb : nv.ownBlock = some g) :
    PG (w.setCell ⟨g, i * 7 + (2 + j), none⟩ (clipV (x.v j))) P bv wd sk S lab op mb ks sv nv (X.set i ⟨x.nd, upV x.v j (clipV (x.v j))⟩) := by
  refine h.cell hx (by omega) ?_ (fun _ => ⟨rfl, rfl⟩) (fun k _ => ?_) hvb
  · have : j = 0 ∨ j = 1 ∨ j = 2 := by omega
    rcases this with rfl | rfl | rfl <;> simp [ndC, upV]
  · by_cases e : k = j
    · subst e; exact .inr ⟨ho, upV_same _ _ _⟩
    · exact .inl (upV_ne _ _ _ e)
theorem map_same {v : Nat → Value} (hx : X[i]? = some x) : (X.set i ⟨x.nd, v⟩).map Nx.nd = X.map Nx.nd := by
  rw [map_set (f := fun y => y) hx]
  exact List.modify_id _ _
theorem PG.clip3 {g n0 n1 n2 c0 c1 c2 : Nat} {A0 A1 A2 : Option Addr} (h : PG w P bv wd sk S lab op mb ks sv nv X) (hx : X[i]? = some x) (ho : ¬ op i) (hvb : nv.ownBlock = some g) (e0 : x.v 0 = .slice A0 n0 c0) (e1 : x.v 1 = .slice A1 n1 c1) (e2 : x.v 2 = .slice A2 n2 c2) :
    ∃ X8, X8.map Nx.nd = X.map Nx.nd ∧ PG ((((w.setCell ⟨g, i * 7 + 2, none⟩ (.slice A0 n0 n0)).setCell ⟨g, i * 7 + 3, none⟩ (.slice A1 n1 n1)).setCell ⟨g, i * 7 + 4, none⟩ (.slice A2 n2 n2)).drew) P bv wd sk S lab op mb ks sv nv X8 := by
  have hi : i < X.length := (List.getElem?_eq_some_iff.1 hx).1
  have h0 := h.clip (j := 0) hx (by omega) ho hvb
  have hx0 : (X.set i ⟨x.nd, upV x.v 0 (clipV (x.v 0))⟩)[i]? = some ⟨x.nd, upV x.v 0 (clipV (x.v 0))⟩ := by rw [List.getElem?_set, if_pos rfl, if_pos hi]
  obtain ⟨X0, hX0⟩ : ∃ X0, X0 = X.set i ⟨x.nd, upV x.v 0 (clipV (x.v 0))⟩ := ⟨_, rfl⟩
  have m0 : X0.map Nx.nd = X.map Nx.nd := by rw [hX0]; exact map_same hx
  rw [← hX0] at h0 hx0
  have hi0 : i < X0.length := (List.getElem?_eq_some_iff.1 hx0).1
  have h1 := h0.clip (j := 1) hx0 (by omega) ho hvb
  obtain ⟨v1, hv1⟩ : ∃ v1, v1 = upV (upV x.v 0 (clipV (x.v 0))) 1 (clipV (upV x.v 0 (clipV (x.v 0)) 1)) := ⟨_, rfl⟩
  have hx1 : (X0.set i ⟨x.nd, v1⟩)[i]? = some ⟨x.nd, v1⟩ := by rw [List.getElem?_set, if_pos rfl, if_pos hi0]
  have m1 : (X0.set i ⟨x.nd, v1⟩).map Nx.nd = X0.map Nx.nd := map_same (x := ⟨x.nd, upV x.v 0 (clipV (x.v 0))⟩) hx0
  have hv2 : clipV (v1 2) = .slice A2 n2 n2 := by rw [hv1]; show clipV (x.v 2) = _; rw [e2]; rfl
  have hv10 : clipV (upV x.v 0 (clipV (x.v 0)) 1) = .slice A1 n1 n1 := by show clipV (x.v 1) = _; rw [e1]; rfl
  have hv00 : clipV (x.v 0) = .slice A0 n0 n0 := by rw [e0]; rfl
  rw [← hv1] at h1
  have h2 := h1.clip (j := 2) hx1 (by omega) ho hvb
  refine ⟨(X0.set i ⟨x.nd, v1⟩).set i ⟨x.nd, upV v1 2 (.slice A2 n2 n2)⟩, (map_same (x := ⟨x.nd, v1⟩) hx1).trans (m1.trans m0), ?_⟩
  · have h3 := h2.drew
    rw [show clipV (Nx.v ⟨x.nd, v1⟩ 2) = .slice A2 n2 n2 from hv2, show clipV (Nx.v ⟨x.nd, upV x.v 0 (clipV (x.v 0))⟩ 1) = .slice A1 n1 n1 from hv10, hv00] at h3
    exact h3
theorem PG.pop {p : Nat × Bool} {A : Option Addr} {c : Nat} (h : PG w P bv wd (p :: S) S lab op mb ks (.slice A (S.length + 1) c) nv X) :
    PM (w.setCell ⟨P, 2, none⟩ (.slice A S.length c)) P bv wd S lab op mb ks (.slice A S.length c) nv X := by
  have hP := h.lt
  have key : ∀ k, k ≠ P → (w.setCell ⟨P, 2, none⟩ (.slice A S.length c)).heap[k]? = w.heap[k]? := fun k hk => heap_setCell_other _ _ _ _ hk
  refine ⟨heap_setCell_same w P 2 _ _ _ h.obj, h.nt.keep (fun k hkb _ _ => key k (by omega)) (fun _ _ => rfl) fun _ h => h, ?_, fun k hk => h.ls k ?_, h.op, fun c hc => ?_⟩
  · rcases h.stk.2 with ⟨_, e⟩ | ⟨g, cap, cur, e1, hb, hg, h1, h2, h3, h4⟩
    · simp at e
    · injection e1 with e1 e2 e3
      subst e1; subst e3
      refine ⟨by rw [skL_len]; omega, .inr ⟨g, c, cur, rfl, hb, by rw [key g (by omega)]; exact hg, ?_, h2, h3, ?_⟩⟩
      · rw [List.length_cons] at h1; omega
      · rw [skL_cons] at h4
        have := congrArg (List.take (S.length * 1)) h4
        rw [List.take_take, List.take_left' (by rw [skL_len]; omega)] at this
        rw [← this]; congr 1; rw [List.length_cons]; omega
  · cases A <;> exact hk
  · obtain ⟨m1, m2, m3⟩ := h.maps c hc
    exact ⟨m1, m2, map_keep m3 (key _ (by omega))⟩
end
set_option maxRecDepth 100000 in
set_option maxHeartbeats 4000000 in
theorem end_any {E : Env} {s : St} {f t nn : Nat} (he : E.l = l) (h : PM w P (.slice A N C) s.wd s.sk lab op mb ks sv nv X) (hX : X.map Nx.nd = s.nd) (hK : ∀ a, (a, true) ∈ s.sk → ks a = keysAt s.nd a) (hw : Wf nn s) (hT : Txt w P A N C l) (hft : f < t) (ht : t ≤ N) :
    Calls Tryz.prog 141 #[.pointer (some ⟨P, 0, none⟩), .agg #[.int .u8 1, .int .i64 (f : Nat), .int .i64 (t : Nat)]] w (Step w P (.slice A N C) lab (s.end_ E (1, f, t))) := by
  obtain ⟨w1, hw1⟩ : ∃ w1, w1 = w.alloc (.cells #[.int .u8 1, .int .i64 (f : Nat), .int .i64 (t : Nat)] 145) := ⟨_, rfl⟩
  have hb1 : Below w.heap.size w w1 := by rw [hw1]; exact (Below.refl _ _).alloc (Nat.le_refl _) _
  have hl1 : w.heap.size < w1.heap.size := by rw [hw1]; simp
  have HM1 := Lib.hid (h.below hb1)
  have HB1 := Lib.hid hb1
  have hP := h.lt
  have HP := Lib.hid hP
  have t0 : ∀ wx, Below w1.heap.size w1 wx → wx.cell? ⟨w.heap.size, 0, none⟩ = some (.int .u8 1) ∧ wx.cell? ⟨w.heap.size, 1, none⟩ = some (.int .i64 (f : Nat)) ∧ wx.cell? ⟨w.heap.size, 2, none⟩ = some (.int .i64 (t : Nat)) := fun wx hb => by
    refine ⟨(hb.cell (by exact hl1)).trans ?_, (hb.cell (by exact hl1)).trans ?_, (hb.cell (by exact hl1)).trans ?_⟩ <;> (rw [hw1]; simp [go_sem])
  have HT0 := Lib.hid t0
  obtain ⟨r, hr⟩ : ∃ r, r = s.end_ E (1, f, t) := ⟨_, rfl⟩
  rw [← hr]
  have HR := Lib.hid hr
  have HX := Lib.hid hX
  have HK := Lib.hid hK
  have HWF := Lib.hid hw
  have HT := Lib.hid hT
  have HE := Lib.hid he
  have hwd := hw.wd
  have HWD := Lib.hid hwd
  have HFT := Lib.hid (And.intro hft ht)
  clear h hX hK hw hb1 t0 hr hwd hP he hT hft ht
  go_enter Tryz.func141, Tryz.ntmps141
  by_cases hb : s.wd &&& 16 = 0
  · have C := Lib.hid (need_no (b := 16) (y := 16) (k := 1) (f := (f : Nat)) (t := (t : Nat)) w1 HM1.out.po (by have := HWD.out; omega) (by decide) hb rfl)
    have R := Lib.hid (HR.out.trans (show s.end_ E (1, f, t) = .bad 3 f by unfold St.end_; rw [if_pos hb]))
    clear hb
    go_wp2_with fail
    rw [← hw1]
    refine C.out.mono ?_
    rintro e w2 ⟨rfl, hb2⟩
    exact ⟨rfl, Step.bad ((HB1.out.mono (Nat.le_of_lt HP.out)).trans (hb2.mono (Nat.le_of_lt HM1.out.lt))) R.out rfl⟩
  have CN := Lib.hid (need_ok (b := 16) (y := 16) (k := 1) (f := (f : Nat)) (t := (t : Nat)) w1 HM1.out.po (by have := HWD.out; omega) (by decide) hb rfl)
  have hne : s.sk ≠ [] := HWF.out.top (fun e0 => hb (by rw [e0]; rfl)) (fun e0 => hb (by rw [e0]; rfl))
  obtain ⟨a, m, S, hsk⟩ : ∃ a m S, s.sk = (a, m) :: S := by
    cases hs : s.sk with
    | nil => exact absurd hs hne
    | cons p S => exact ⟨p.1, p.2, S, rfl⟩
  have HNB := Lib.hid hb
  have HSK := Lib.hid hsk
  have hdS : S.length ≤ 256 := by have := HWF.out.deep; rw [hsk, List.length_cons] at this; omega
  rw [hsk] at HM1
  clear hb hne
  obtain ⟨tn, pv, fn, hsh, hmt0, hcf0, hnd0⟩ := inv_any mb a m
  have hmt := Lib.hid hmt0
  have hcf := Lib.hid hcf0
  have hnd := Lib.hid hnd0
  have WI := Lib.hid (fun w => hsh ▸ within_is mb a m (y := (firstM m : Nat)) (z := enM m) rfl rfl w)
  obtain ⟨ye, hye⟩ : ∃ ye, ye = enM m := ⟨_, rfl⟩
  rw [← hye] at WI
  have HYE := Lib.hid hye
  have HSH := Lib.hid hsh
  clear hmt0 hcf0 hnd0 hye hsk
  go_wp2_with fail
  rw [← hw1]
  refine CN.out.mono ?_
  rintro e w2 ⟨rfl, hb2⟩
  have HM2 := Lib.hid (HM1.out.below hb2)
  have HBB2 := Lib.hid hb2
  have CT := Lib.hid (hsh ▸ top_any HM2.out hdS)
  have HB2 := Lib.hid (Jk.below_tr HB1.out hb2)
  clear hb2 CN hsh hw1
  go_wp2_with fail
  refine CT.out.mono ?_
  rintro e w3 ⟨rfl, hb3⟩
  have HM3 := Lib.hid (HM2.out.below hb3)
  have HB3 := Lib.hid (Jk.below_tr HB2.out hb3)
  have HW3 := Lib.hid (HBB2.out.trans (hb3.mono (HBB2.out.size)))
  clear hb3 CT
  go_wp2_with fail
  refine (WI.out _).mono ?_
  rintro e w4 ⟨rfl, hw4⟩
  rw [← hw4]
  clear hw4
  -- the byte
  obtain ⟨b0, o0, hA0, hbP, hby⟩ := HT.out.byt.at_ (k := f) (by have := HT.out.n; have := HFT.out; omega)
  obtain ⟨y, hy⟩ : ∃ y, y = bt l f := ⟨_, rfl⟩
  have hyb := (HB3.out.cell (p := ⟨b0, o0 + f, none⟩) (by have := HP.out; show b0 < _; omega)).trans (hby f (by have := HT.out.n; have := HFT.out; omega))
  rw [← hy] at hyb
  subst hA0
  have K0 := fun s : Kept w3 => s.cell HM3.out.po.cells.1
  have K1 := fun s : Kept w3 => s.cell (HT0.out w3 HW3.out).2.1
  have KY := fun s : Kept w3 => s.cell hyb
  have hfN : f < N := by have := HFT.out; omega
  have HYY := Lib.hid hy
  clear hyb hy hby
  go_upto_region 4 with fail
  refine reg_lit (C := fun wx => ∃ s : Kept w3, wx = s.wx) (by kernel_rfl) (by kernel_rfl) ⟨⟨_, (Below.refl _ _).drew⟩, rfl⟩ ?_
  iterate 10 (go_big_quiet_step (fail))
  refine wpQuiet_nil ?_
  rintro w5 ⟨⟨wx, ox0⟩, e⟩
  have ox : Below w3.heap.size w3 w5 := by rw [e]; exact ox0
  clear e ox0 K0 K1 KY
  have HM5 := Lib.hid (HM3.out.below ox)
  have HB5 := Lib.hid (Jk.below_tr HB3.out ox)
  have HW5 := Lib.hid (HW3.out.trans (ox.mono HW3.out.size))
  obtain ⟨q0, q1, q2⟩ := HT0.out w5 HW5.out
  clear ox
  have hmk := mk_bt HE.out (f := f) (t := t) HFT.out.1 (by have := HT.out.n; have := HFT.out; omega) (enM m)
  rw [← HYY.out, ← HYE.out] at hmk
  by_cases hye : y = ye
  · subst hye
    have R := Lib.hid (HR.out.trans (show s.end_ E (1, f, t) = .ok { wd := goW S, sk := S, nd := s.nd.modify a (Nd.setTo t) } by
      unfold St.end_
      rw [if_neg HNB.out, HSK.out]
      show (if E.mk? (1, f, t) (enM m) = true then _ else _) = _
      rw [← HYE.out, if_pos (by rw [hmk]; simp)]))
    clear hmk
    have hyy : (y != y) = false := by simp
    have hn0 : ∀ m', (a, m') ∉ S := fun m' hm => by
      have := HWF.out.once
      rw [HSK.out] at this
      exact (List.nodup_cons.1 this).1 (List.mem_map.2 ⟨_, hm, rfl⟩)
    have HN0 := Lib.hid hn0
    have haX : a < X.length := by
      have := HWF.out.at_ (a, m) (by rw [HSK.out]; exact List.mem_cons_self ..)
      rw [← HX.out, List.length_map] at this; exact this
    obtain ⟨x, hx⟩ : ∃ x, X[a]? = some x := ⟨_, List.getElem?_eq_getElem haX⟩
    obtain ⟨xl, hxl⟩ : ∃ xl, xl = X.length := ⟨_, rfl⟩
    have HXL := Lib.hid hxl
    obtain ⟨g, c, hnv, hnb⟩ := HM5.out.nt.blk (by omega)
    subst hnv
    have HXA := Lib.hid hx
    have HNBK := Lib.hid hnb
    have K3 := fun s : Kept w5 => s.cell HM5.out.po.cells.2.2.2
    rw [← hxl] at haX K3
    clear hxl hnb hn0 hx q0 q1 q2
    go_upto_region 6 with fail
    refine reg_lit (C := fun wx => ∃ s : Kept w5, wx = s.wx) (by kernel_rfl) (by kernel_rfl) ⟨⟨_, (Below.refl _ _).drew⟩, rfl⟩ ?_
    iterate 5 (go_big_quiet_step (fail))
    go_big_quiet_want
    go_big_quiet_op
    refine ⟨.int .i64 (a : Nat), fun s => ?_, ?_⟩
    · rw [hmt.out]
      · simp only [Result.andThen_ok]
        rw [hcf.out]
        exact ⟨rfl, (hnd.out s.wx).mono (by rintro e w3 ⟨rfl, hb⟩; exact Kept.out hb)⟩
      · kernel_rfl
    go_big_quiet_on
    iterate 2 (go_big_quiet_step (fail))
    refine wpQuiet_nil ?_
    rintro w6 ⟨⟨wx, ox0⟩, e⟩
    have ox : Below w5.heap.size w5 w6 := by rw [e]; exact ox0
    clear e ox0 K3
    have HM6 := Lib.hid (HM5.out.below ox)
    have HB6 := Lib.hid (Jk.below_tr HB5.out ox)
    obtain ⟨q0, q1, q2⟩ := HT0.out w6 (HW5.out.trans (ox.mono HW5.out.size))
    clear ox q0 q1
    obtain ⟨g', cc, e, _, _, _, _, hfree, hcells⟩ := HM6.out.nt.shape (by have := HXL.out; omega)
    injection e with e1 _ e3
    subst e3
    injection e1 with e1
    injection e1 with e1
    subst e1
    have cz := hcells a x HXA.out 6 (.int .i64 (x.nd.span.2 : Nat)) rfl
    have fz := hfree (a * 7 + 6)
    clear hfree hcells
    go_upto_region 8 with fail
    have HG7 := Lib.hid ((HM6.out.shut HN0.out).cell (r := 6) (nd' := Nd.setTo t x.nd) (vs := x.v) (u := .int .i64 (t : Nat)) HXA.out (by omega) (by simp [ndC, Nd.setTo]) (fun k => ⟨by rcases k with _ | _ | k <;> rfl, by rcases k with _ | _ | k <;> rfl⟩) (fun _ _ => .inl rfl) HNBK.out)
    have hFset : ∀ (wx : World) (r : Nat) (u : Value), Fr lab P w wx → Fr lab P w (wx.setCell ⟨g, r, none⟩ u) := fun wx r u hf b hb hbP hbl =>
      (heap_setCell_other _ _ _ _ (show b ≠ g from fun e => by rw [e, HM6.out.nt.l g HNBK.out] at hbl; cases hbl)).trans (hf b hb hbP hbl)
    have HFS := Lib.hid hFset
    have HF7 := Lib.hid (hFset _ (a * 7 + 6) (.int .i64 (t : Nat)) (Fr.of HB6.out))
    have HB7 := Lib.hid ((HB6.out.mono (Nat.le_of_lt HP.out)).setCell (p := ⟨g, a * 7 + 6, none⟩) (by have := (HM6.out.nt.lt g HNBK.out).1; show P ≤ g; omega) (.int .i64 (t : Nat)))
    obtain ⟨w7, hw7⟩ : ∃ w7, w7 = w6.setCell ⟨g, a * 7 + 6, none⟩ (.int .i64 (t : Nat)) := ⟨_, rfl⟩
    rw [← hw7] at HG7 HB7 HF7 ⊢
    clear hw7 cz fz q2 hFset
    have hxs : (X.set a ⟨Nd.setTo t x.nd, x.v⟩)[a]? = some ⟨Nd.setTo t x.nd, x.v⟩ := by rw [List.getElem?_set, if_pos rfl, if_pos (by have := HXL.out; omega)]
    obtain ⟨g', cc, e, _, _, _, _, hfree, hcells⟩ := HG7.out.nt.shape (by rw [List.length_set]; have := HXL.out; omega)
    injection e with e1 _ e3
    injection e1 with e1
    injection e1 with e1
    subst e1
    obtain ⟨A0, c0, e0, h01, h02, h03⟩ := (HG7.out.nt.e a _ hxs 0 (by omega)).r.shape
    obtain ⟨A1, c1, e1, h11, h12, h13⟩ := (HG7.out.nt.e a _ hxs 1 (by omega)).r.shape
    obtain ⟨A2, c2, e2, h21, h22, h23⟩ := (HG7.out.nt.e a _ hxs 2 (by omega)).r.shape
    obtain ⟨n0, hn0⟩ : ∃ n, n = ecn (Nd.setTo t x.nd) 0 := ⟨_, rfl⟩
    obtain ⟨n1, hn1⟩ : ∃ n, n = ecn (Nd.setTo t x.nd) 1 := ⟨_, rfl⟩
    obtain ⟨n2, hn2⟩ : ∃ n, n = ecn (Nd.setTo t x.nd) 2 := ⟨_, rfl⟩
    replace e0 : x.v 0 = .slice A0 n0 c0 := by rw [hn0]; exact e0
    replace e1 : x.v 1 = .slice A1 n1 c1 := by rw [hn1]; exact e1
    replace e2 : x.v 2 = .slice A2 n2 c2 := by rw [hn2]; exact e2
    have z0 := hcells a _ hxs 2 (.slice A0 n0 c0) (by rw [← e0]; rfl)
    have z1 := hcells a _ hxs 3 (.slice A1 n1 c1) (by rw [← e1]; rfl)
    have z2 := hcells a _ hxs 4 (.slice A2 n2 c2) (by rw [← e2]; rfl)
    have f0 := hfree (a * 7 + 2)
    have f1 := hfree (a * 7 + 3)
    have f2 := hfree (a * 7 + 4)
    have CL0 := Lib.hid (fun w => clip_str (A := A0) (N := n0) (c := c0) w (by rw [hn0]; exact h01) h02 h03)
    have CL1 := Lib.hid (fun w => clip_span (A := A1) (N := n1) (c := c1) w (by rw [hn1]; exact h11) h12 h13)
    have CL2 := Lib.hid (fun w => clip_int (A := A2) (N := n2) (c := c2) w (by rw [hn2]; exact h21) h22 h23)
    have HXS := Lib.hid hxs
    have E0 := Lib.hid e0
    have E1 := Lib.hid e1
    have E2 := Lib.hid e2
    clear e3 hfree hcells h01 h02 h03 h11 h12 h13 h21 h22 h23 hn0 hn1 hn2 hxs e0 e1 e2
    rw [hyy]
    go_cut [44] from 44 to 67 (fun _ wx => wx = (((w7.setCell ⟨g, a * 7 + 2, none⟩ (.slice A0 n0 n0)).setCell ⟨g, a * 7 + 3, none⟩ (.slice A1 n1 n1)).setCell ⟨g, a * 7 + 4, none⟩ (.slice A2 n2 n2)).drew)
    case first =>
      go_region_with (first
        | (go_at_call 107; refine (CL0.out _).mono ?_; rintro e w' ⟨rfl, rfl⟩)
        | (go_at_call 108; refine (CL1.out _).mono ?_; rintro e w' ⟨rfl, rfl⟩)
        | (go_at_call 109; refine (CL2.out _).mono ?_; rintro e w' ⟨rfl, rfl⟩))
      all_goals
        go_wp2_with fail
        go_meet
        exact rfl
    case rest =>
      subst hcut
      obtain ⟨X8, hX8, h8⟩ := HG7.out.clip3 HXS.out (fun q => q.2 rfl) HNBK.out E0.out E1.out E2.out
      rw [map_set (f := Nd.setTo t) HXA.out, HX.out] at hX8
      have HB8 := Lib.hid ((((HB7.out.setCell (p := ⟨g, a * 7 + 2, none⟩) (by have := (HM6.out.nt.lt g HNBK.out).1; show P ≤ g; omega) (.slice A0 n0 n0)).setCell (p := ⟨g, a * 7 + 3, none⟩) (by have := (HM6.out.nt.lt g HNBK.out).1; show P ≤ g; omega) (.slice A1 n1 n1)).setCell (p := ⟨g, a * 7 + 4, none⟩) (by have := (HM6.out.nt.lt g HNBK.out).1; show P ≤ g; omega) (.slice A2 n2 n2)).drew)
      have HF8 := Lib.hid (show Fr lab P w ((((w7.setCell ⟨g, a * 7 + 2, none⟩ (.slice A0 n0 n0)).setCell ⟨g, a * 7 + 3, none⟩ (.slice A1 n1 n1)).setCell ⟨g, a * 7 + 4, none⟩ (.slice A2 n2 n2)).drew) from HFS.out _ _ _ (HFS.out _ _ _ (HFS.out _ _ _ HF7.out)))
      obtain ⟨w8, hw8⟩ : ∃ w8, w8 = (((w7.setCell ⟨g, a * 7 + 2, none⟩ (.slice A0 n0 n0)).setCell ⟨g, a * 7 + 3, none⟩ (.slice A1 n1 n1)).setCell ⟨g, a * 7 + 4, none⟩ (.slice A2 n2 n2)).drew := ⟨_, rfl⟩
      rw [← hw8] at h8 HB8 HF8 ⊢
      clear hw8 z0 z1 z2 f0 f1 f2 CL0 CL1 CL2
      have H8 := Lib.hid h8
      have HX8 := Lib.hid hX8
      clear h8 hX8
      obtain ⟨sA, sc, esv, hsc, hsc6, _⟩ := (Rr.of_own H8.out.stk).shape
      subst esv
      obtain ⟨k, hk⟩ : ∃ k, k = S.length := ⟨_, rfl⟩
      have z2 := H8.out.po.cells.2.2.1
      have fz := H8.out.po.free 2
      rw [List.length_cons] at z2 hsc
      rw [← hk] at z2 hsc hdS
      have HKS := Lib.hid hk
      clear hk
      unfold maxLen at hsc6
      have sA0 : ∃ sg, sA = some ⟨sg, 0, none⟩ := by
        rcases H8.out.stk.2 with ⟨_, e⟩ | ⟨sg, cap, cur, e, _⟩
        · simp at e
        · injection e with e _ _; exact ⟨sg, e⟩
      obtain ⟨sg, rfl⟩ := sA0
      have HG8 := H8.out
      rw [List.length_cons] at HG8
      have HM9 := Lib.hid (HG8.pop.below ((Below.refl _ _).drew))
      have HB9 := Lib.hid ((bset HB8.out 2 (.slice (some ⟨sg, 0, none⟩) S.length sc)).drew)
      have HF9 := Lib.hid (show Fr lab P w ((w8.setCell ⟨P, 2, none⟩ (.slice (some ⟨sg, 0, none⟩) S.length sc)).drew) from HF8.out.set 2 _)
      rw [← HKS.out] at HM9 HB9 HF9
      have G := Lib.hid (goOn_any HM9.out)
      have HS9 := Lib.hid (HB9.out.size)
      clear HG8
      go_upto_region 9 with fail
      go_region
      go_wp2_with fail
      refine G.out.mono ?_
      rintro e w9 ⟨rfl, hM, hb, hf⟩
      go_wp2_with fail
      refine bodyPost_end (results_none rfl _ _ _) rfl ?_
      refine Step.ok (HB9.out.trans hb) R.out rfl hM HX8.out ?_ (HF9.out.on HS9.out (fun _ _ => rfl) hf)
      intro a' ha'
      have hne : a' ≠ a := fun e => HN0.out true (e ▸ ha')
      have e : keysAt (s.nd.modify a (Nd.setTo t)) a' = keysAt s.nd a' := by
        unfold keysAt
        rw [List.getElem?_modify]
        cases s.nd[a']? with
        | none => rfl
        | some y => show Nd.keys (if a = a' then _ else y) = y.keys; rw [if_neg (fun e => hne e.symm)]
      exact (HK.out a' (by rw [HSK.out]; exact List.mem_cons_of_mem _ ha')).trans e.symm
  · have R := Lib.hid (HR.out.trans (show s.end_ E (1, f, t) = .bad 3 f by
      unfold St.end_
      rw [if_neg HNB.out, HSK.out]
      show (if E.mk? (1, f, t) (enM m) = true then _ else _) = _
      rw [← HYE.out, if_neg (by rw [hmk]; simpa using hye)]))
    have hne : (y != ye) = true := by simpa using hye
    clear hmk hye
    go_wp2_with fail
    refine (fail_any _ _ _).mono ?_
    rintro e w3 ⟨rfl, rfl⟩
    exact ⟨rfl, Step.bad (HB5.out.mono (Nat.le_of_lt HP.out)) R.out rfl⟩
end
end Jt
end Go.Proofs.YtggeiajbcehkjaaGreatDoor
