/- The law ValuesTurned, walked, over what landed. -/
import Derived.Test.YtnnlgodgaolkkaaDoorUhm
import Derived.Test.YtnnlgodgaolkkaaDoorUgm
namespace Go.Proofs.YtnnlgodgaolkkaaDoor
open Go.RowKit
namespace Va
set_option maxRecDepth 100000

theorem grow_lo {a b : World} {o : Obj} {P : Nat} (hP : P = a.heap.size) (h : (a.alloc o).grownBy b (some P)) : Below a.heap.size a b := by
  have hs : (a.alloc o).heap.size = a.heap.size + 1 := by show (a.heap.push o).size = _; rw [Array.size_push]
  refine ⟨h.os, h.tape, h.output, by have := h.size; omega, fun k hk => ?_⟩
  rw [h.block k (by omega) (fun e => by have := Option.some.inj e; omega)]
  show (a.heap.push o)[k]? = _
  rw [Array.getElem?_push_lt hk, Array.getElem?_eq_getElem hk]
set_option maxHeartbeats 64000000 in
set_option maxRecDepth 100000 in
theorem turnedL_any {Lo : Nat} {Tb : World → Prop} {κ : V → Bs} (L : Ld Lo Tb κ) (w : World) (hT : Tb w) {x : V} {v : Value} (hv : Vm w v x) (hx : wt x ≤ 1048576) (b at_ : Nat) (hb : b < 256) (ha : at_ < 65536) :
    Calls Tryd.prog 3 #[v, .int .u8 (b : Nat), .int .u16 (at_ : Nat)] w fun e w' => e = .returned (.bool true) ∧ Below w.heap.size w w' := by
  have HL := Lib.hid L
  have HT := Lib.hid hT
  clear L hT
  have CL := Lib.hid (fun (X : World) (hb : Below w.heap.size w X) => lives_any HL.out X (HL.out.up HT.out hb))
  have CG := Lib.hid (fun (X : World) (hb : Below w.heap.size w X) => great_any X (by omega) (hv.on hb))
  have CM := Lib.hid (fun (X : World) (hb : Below w.heap.size w X) => rmay_any X (by omega) (hv.on hb))
  have CU := Lib.hid (fun (hg : decide (1500 < wt x) = false) (hm : may x = true) (X : World) (hX : Below w.heap.size w X) => turned_any b hb 1000000 x (by have := of_decide_eq_false hg; omega) (by omega) hm X v (b : Nat) rfl (hv.on hX))
  have HV := Lib.hid hv
  have HBB := Lib.hid hb
  obtain ⟨G, hG⟩ : ∃ g, g = decide (1500 < wt x) := ⟨_, rfl⟩
  obtain ⟨M, hM⟩ : ∃ g, g = may x := ⟨_, rfl⟩
  have HG := Lib.hid hG
  have HM := Lib.hid hM
  rw [← hG] at CG CU
  rw [← hM] at CM CU
  obtain ⟨y, hy⟩ : ∃ y : Int, y = (b : Nat) := ⟨_, rfl⟩
  have hy0 : 0 ≤ y := by omega
  have hy1 : y < 256 := by omega
  rw [← hy] at CU ⊢
  clear hG hM hb hx hy
  obtain ⟨k, A, B, n, c, m, d, T, rfl⟩ : ∃ (k : Nat) (A B : Option Addr) (n c m d : Nat) (T : ByteArray), v = .agg #[.int .u8 k, .string T, .slice A n c, .slice B m d] := by
    obtain ⟨k, t, A, B, n, c, m, d, e⟩ := vshape hv
    exact ⟨k, A, B, n, c, m, d, t, e⟩
  clear hv
  obtain ⟨W1, hW1⟩ : ∃ W, W = w.alloc (vO (.int .u8 k) (.string T) (.slice A n c) (.slice B m d)) := ⟨_, rfl⟩
  have HXa := Lib.hid (show Bx W1 w.heap.size (.int .u8 k) (.string T) (.slice A n c) (.slice B m d) from by rw [hW1]; exact Bx.new ..)
  have HB1 := Lib.hid (show Below w.heap.size w W1 from by rw [hW1]; exact below_new ..)
  have HW1 := Lib.hid hW1
  clear hW1
  go_enter Tryd.func3, Tryd.ntmps3
  go_upto_region 1 with fail
  rw [← HW1.out]
  obtain ⟨ga, hga⟩ : ∃ h, h = w.heap.size := ⟨_, rfl⟩
  rw [← hga] at HXa
  rw [← hga]
  clear HW1 hga
  have HC := Lib.hid (Below.refl W1.heap.size W1)
  have Xa := HXa.out.on HC.out
  have a0 := Xa.c0
  have a1 := Xa.c1
  have a2 := Xa.c2
  have a3 := Xa.c3
  clear Xa
  go_wp2_with fail
  refine (CG.out _ (below_tr HB1.out HC.out)).mono ?_
  rintro e w2 ⟨he, hb⟩
  have he : e = .returned (.bool G) := he
  subst he
  have HC := Lib.hid (below_tr HC.out hb)
  clear hb a0 a1 a2 a3
  have Xa := HXa.out.on HC.out
  have a0 := Xa.c0
  have a1 := Xa.c1
  have a2 := Xa.c2
  have a3 := Xa.c3
  clear Xa
  cases G with
  | true =>
    go_wp2_with fail
    refine (CL.out _ (below_tr HB1.out HC.out)).mono ?_
    rintro e wl ⟨rfl, hbl⟩
    have HF := Lib.hid (below_tr (below_tr HB1.out HC.out) hbl)
    clear hbl
    go_wp2_with fail
    go_ret
    exact ⟨rfl, HF.out⟩
  | false =>
    go_wp2_with fail
    refine (CM.out _ (below_tr HB1.out HC.out)).mono ?_
    rintro e w3 ⟨he, hb⟩
    have he : e = .returned (.bool M) := he
    subst he
    have HC := Lib.hid (below_tr HC.out hb)
    clear hb a0 a1 a2 a3
    have Xa := HXa.out.on HC.out
    have a0 := Xa.c0
    have a1 := Xa.c1
    have a2 := Xa.c2
    have a3 := Xa.c3
    clear Xa
    cases M with
    | false =>
      go_wp2_with fail
      refine (CL.out _ (below_tr HB1.out HC.out)).mono ?_
      rintro e wl ⟨rfl, hbl⟩
      have HF := Lib.hid (below_tr (below_tr HB1.out HC.out) hbl)
      clear hbl
      go_wp2_with fail
      go_ret
      exact ⟨rfl, HF.out⟩
    | true =>
      have hwx : wt x ≤ 1500 := by have := of_decide_eq_false HG.out.symm; omega
      have hmx : may x = true := HM.out.symm
      have HWX := Lib.hid (And.intro hwx hmx)
      clear hwx hmx
      go_wp2_with fail
      refine (CU.out (by first | rfl | trivial) (by first | rfl | trivial) _ (below_tr HB1.out HC.out)).mono ?_
      rintro e w4 ⟨⟨ut, rfl, hut⟩, hb⟩
      obtain ⟨tk, tT, tA, tB, tn, tc, tm, td, rfl⟩ := hut.shape
      have HC4 := Lib.hid (below_tr HC.out hb)
      have HUT := Lib.hid hut.vm
      clear hb hut a0 a1 a2 a3 CU
      go_upto_region 4 with fail
      obtain ⟨W4, hW4⟩ : ∃ W, W = w4.alloc (vO (.int .u8 tk) (.string tT) (.slice tA tn tc) (.slice tB tm td)) := ⟨_, rfl⟩
      rw [← hW4]
      have hn4 : Below w4.heap.size w4 W4 := by rw [hW4]; exact below_new ..
      have HXt := Lib.hid (show Bx W4 w4.heap.size (.int .u8 tk) (.string tT) (.slice tA tn tc) (.slice tB tm td) from by rw [hW4]; exact Bx.new ..)
      have HB4 := Lib.hid (below_tr (below_tr HB1.out HC4.out) hn4)
      have HXa4 := Lib.hid (HXa.out.on (below_tr HC4.out hn4))
      have HVT := Lib.hid (HUT.out.on hn4)
      obtain ⟨gt_, hgt⟩ : ∃ h, h = w4.heap.size := ⟨_, rfl⟩
      rw [← hgt] at HXt ⊢
      clear hW4 hn4 hgt HUT HC HXa
      have HTR := Lib.hid (trn_ok b (may_pl HWX.out.2))
      have HTM := Lib.hid (trn_may (b := b) HWX.out.2)
      have HTS := Lib.hid (show sm x (trn b x) = true from sm_sym HTR.out.1 (may_pl HWX.out.2) HTR.out.2.2.2.2)
      have HTC := Lib.hid (show can (trn b x) = can x from (sm_can HTR.out.1 (may_pl HWX.out.2)).1 HTR.out.2.2.2.2)
      have HTW := Lib.hid (show wt (trn b x) ≤ 1000000 from by rw [HTR.out.2.2.2.1]; have := HWX.out.1; omega)
      have HXW := Lib.hid (show wt x ≤ 1000000 from by have := HWX.out.1; omega)
      obtain ⟨S, hS⟩ : ∃ S, S = txt (te x) := ⟨_, rfl⟩
      have UP := Lib.hid (fun (X : World) (h : Below W4.heap.size W4 X) => HL.out.up HT.out (below_tr HB4.out h))
      have VX := Lib.hid (fun (X : World) (h : Below W4.heap.size W4 X) => HV.out.on (below_tr HB4.out h))
      have QS := Lib.hid (fun (X : World) (h : Below W4.heap.size W4 X) => by have := HL.out.same X (UP.out X h) (VX.out X h) (HVT.out.on h) HXW.out HTW.out; rw [HWX.out.2, HTM.out, HTS.out] at this; exact this)
      have QC := Lib.hid (fun (X : World) (h : Below W4.heap.size W4 X) => by have := HL.out.cmp X (UP.out X h) (HVT.out.on h) (VX.out X h) HTW.out HXW.out; rw [HWX.out.2, HTM.out, HTC.out, cmpV_self] at this; exact this)
      have QTt := Lib.hid (fun (X : World) (h : Below W4.heap.size W4 X) => by have := HL.out.text X (UP.out X h) (HVT.out.on h) HTW.out; rw [teM, if_pos HTM.out, te_sm HTR.out.1 (may_pl HWX.out.2) HTR.out.2.2.2.2, ← hS] at this; exact this)
      have QTx := Lib.hid (fun (X : World) (h : Below W4.heap.size W4 X) => by have := HL.out.text X (UP.out X h) (VX.out X h) HXW.out; rw [teM, if_pos HWX.out.2, ← hS] at this; exact this)
      have QZt := Lib.hid (fun (X : World) (h : Below W4.heap.size W4 X) => by have := HL.out.size X (UP.out X h) (HVT.out.on h) HTW.out; rw [HTM.out, HTR.out.2.2.1] at this; exact this)
      have QZx := Lib.hid (fun (X : World) (h : Below W4.heap.size W4 X) => by have := HL.out.size X (UP.out X h) (VX.out X h) HXW.out; rw [HWX.out.2] at this; exact this)
      have QDt := Lib.hid (fun (X : World) (h : Below W4.heap.size W4 X) => by have := HL.out.deep X (UP.out X h) (HVT.out.on h) HTW.out; rw [HTM.out, HTR.out.2.1] at this; exact this)
      have QDx := Lib.hid (fun (X : World) (h : Below W4.heap.size W4 X) => by have := HL.out.deep X (UP.out X h) (VX.out X h) HXW.out; rw [HWX.out.2] at this; exact this)
      obtain ⟨zx, hzx⟩ : ∃ z, z = sz x := ⟨_, rfl⟩
      obtain ⟨dx, hdx⟩ : ∃ z, z = dp x := ⟨_, rfl⟩
      rw [← hzx] at QZt QZx
      rw [← hdx] at QDt QDx
      clear hS hzx hdx
      have Xa := HXa4.out
      have Ka0 := fun s : Kept W4 => s.cell Xa.c0
      have Ka1 := fun s : Kept W4 => s.cell Xa.c1
      have Ka2 := fun s : Kept W4 => s.cell Xa.c2
      have Ka3 := fun s : Kept W4 => s.cell Xa.c3
      clear Xa
      have Xt := HXt.out
      have Kt0 := fun s : Kept W4 => s.cell Xt.c0
      have Kt1 := fun s : Kept W4 => s.cell Xt.c1
      have Kt2 := fun s : Kept W4 => s.cell Xt.c2
      have Kt3 := fun s : Kept W4 => s.cell Xt.c3
      clear Xt
      refine reg_lit (C := fun wx => ∃ s : Kept W4, wx = s.wx) (by kernel_rfl) (by kernel_rfl) ⟨⟨_, (Below.refl _ _).drew⟩, rfl⟩ ?_
      iterate 2 (go_big_quiet_step (fail))
      go_big_quiet_want
      go_big_quiet_op
      refine ⟨.bool true, fun s => (QS.out s.wx s.held).mono ?_, ?_⟩
      · rintro e w3 ⟨he, hb⟩
        obtain rfl : e = .returned (.bool true) := he
        exact Kept.out hb
      go_big_quiet_on
      iterate 4 (go_big_quiet_step (fail))
      go_big_quiet_want
      go_big_quiet_op
      refine ⟨.int .i64 0, fun s => (QC.out s.wx s.held).mono ?_, ?_⟩
      · rintro e w3 ⟨he, hb⟩
        obtain rfl : e = .returned (.int .i64 0) := he
        exact Kept.out hb
      go_big_quiet_on
      iterate 4 (go_big_quiet_step (fail))
      go_big_quiet_want
      go_big_quiet_op
      refine ⟨.string S, fun s => (QTt.out s.wx s.held).mono ?_, ?_⟩
      · rintro e w3 ⟨he, hb⟩
        obtain rfl : e = .returned (.string S) := he
        exact Kept.out hb
      go_big_quiet_on
      iterate 1 (go_big_quiet_step (fail))
      go_big_quiet_want
      go_big_quiet_op
      refine ⟨.string S, fun s => (QTx.out s.wx s.held).mono ?_, ?_⟩
      · rintro e w3 ⟨he, hb⟩
        obtain rfl : e = .returned (.string S) := he
        exact Kept.out hb
      go_big_quiet_on
      iterate 4 (go_big_quiet_step (fail))
      go_big_quiet_want
      go_big_quiet_op
      refine ⟨.int .i64 (zx : Int), fun s => (QZt.out s.wx s.held).mono ?_, ?_⟩
      · rintro e w3 ⟨he, hb⟩
        obtain rfl : e = .returned (.int .i64 (zx : Int)) := he
        exact Kept.out hb
      go_big_quiet_on
      iterate 1 (go_big_quiet_step (fail))
      go_big_quiet_want
      go_big_quiet_op
      refine ⟨.int .i64 (zx : Int), fun s => (QZx.out s.wx s.held).mono ?_, ?_⟩
      · rintro e w3 ⟨he, hb⟩
        obtain rfl : e = .returned (.int .i64 (zx : Int)) := he
        exact Kept.out hb
      go_big_quiet_on
      iterate 4 (go_big_quiet_step (fail))
      go_big_quiet_want
      go_big_quiet_op
      refine ⟨.int .i64 (dx : Int), fun s => (QDt.out s.wx s.held).mono ?_, ?_⟩
      · rintro e w3 ⟨he, hb⟩
        obtain rfl : e = .returned (.int .i64 (dx : Int)) := he
        exact Kept.out hb
      go_big_quiet_on
      iterate 1 (go_big_quiet_step (fail))
      go_big_quiet_want
      go_big_quiet_op
      refine ⟨.int .i64 (dx : Int), fun s => (QDx.out s.wx s.held).mono ?_, ?_⟩
      · rintro e w3 ⟨he, hb⟩
        obtain rfl : e = .returned (.int .i64 (dx : Int)) := he
        exact Kept.out hb
      go_big_quiet_on
      iterate 2 (go_big_quiet_step (fail))
      refine wpQuiet_nil ?_
      rintro wc ⟨⟨wx, ox0⟩, e⟩
      have HC6 := Lib.hid (show Below W4.heap.size W4 wc from by rw [e]; exact ox0)
      clear e ox0 Ka0 Ka1 Ka2 Ka3 Kt0 Kt1 Kt2 Kt3
      clear QS QC QTt QTx QZt QZx QDt QDx
      obtain ⟨yn, hyn⟩ : ∃ y : Int, y = (at_ : Nat) := ⟨_, rfl⟩
      rw [← hyn]
      have hyn0 : 0 ≤ yn := by omega
      have hyn1 : yn < 65536 := by omega
      have hyn2 : IntKind.i64.wrap yn = yn := by rw [IntKind.wrap_i64]; omega
      obtain ⟨wq, hwq⟩ : ∃ wq, wq = wc := ⟨_, rfl⟩
      subst hwq
      have XT := HXt.out.on HC6.out
      have t0 := XT.c0
      have t1 := XT.c1
      have t2 := XT.c2
      have t3 := XT.c3
      clear XT
      have HYN := Lib.hid hyn
      clear hyn
      go_upto_region 7 with fail
      obtain ⟨W7, hW7⟩ : ∃ W, W = wq.alloc (.cells #[.int .i64 yn] 3) := ⟨_, rfl⟩
      rw [← hW7]
      obtain ⟨P, hP⟩ : ∃ P, P = wq.heap.size := ⟨_, rfl⟩
      rw [← hP]
      have hn7 : Below wq.heap.size wq W7 := by rw [hW7]; exact below_new ..
      have HPH := Lib.hid (show W7.heap[P]? = some (.cells #[.int .i64 (at_ : Nat)] 3) from by rw [hP, hW7, ← HYN.out]; exact heap_alloc_new ..)
      have HPS := Lib.hid (show P < W7.heap.size from (Array.getElem?_eq_some_iff.1 HPH.out).1)
      have VT7 := Lib.hid (show Vk W7 (fun g => g ≠ P) (.agg #[.int .u8 tk, .string tT, .slice tA tn tc, .slice tB tm td]) (trn b x) from by
        have h1 := Vk.on (HVT.out.on HC6.out) (ok := fun _ => True) (Below.refl _ _)
        have h2 := Vk.on (h1.to (ok' := fun g => g < wq.heap.size) fun g h _ => h) hn7
        exact h2.to fun g _ h => by rw [hP]; exact Nat.ne_of_lt h)
      have CO := Lib.hid (other_any 1000000 (trn b x) HTW.out (Nat.le_refl _) W7 _ P at_ (fun g => g ≠ P) HPS.out HPH.out (by omega) (fun g h => h) VT7.out)
      have HP := Lib.hid hP
      have HW7 := Lib.hid hW7
      have XT := (HXt.out.on HC6.out).on hn7
      have q0 := XT.c0
      have q1 := XT.c1
      have q2 := XT.c2
      have q3 := XT.c3
      clear XT hW7 hP hn7 t0 t1 t2 t3 hyn0 hyn1 hyn2
      go_wp2_with fail
      refine CO.out.mono ?_
      rintro e w8 ⟨HOP, hg8⟩
      have HB8 := Lib.hid (show Below wq.heap.size wq w8 from grow_lo HP.out (HW7.out ▸ hg8))
      clear hg8 q0 q1 q2 q3 CO
      unfold OthP at HOP
      cases ho : oth (trn b x) at_ with
      | left m2 =>
        rw [ho] at HOP
        obtain ⟨fk, ft, fA, fB, fn, fc, fb, fd, rfl, _⟩ := HOP
        clear ho
        go_upto_region 8 with fail
        obtain ⟨W9, hW9⟩ : ∃ W, W = w8.alloc (vO (.int .u8 fk) (.string ft) (.slice fA fn fc) (.slice fB fb fd)) := ⟨_, rfl⟩
        rw [← hW9]
        have HB9 := Lib.hid (show Below w.heap.size w W9 from below_tr (below_tr (below_tr HB4.out HC6.out) HB8.out) (by rw [hW9]; exact below_new ..))
        clear hW9
        refine reg_lit (C := fun wx => ∃ s : Kept W9, wx = s.wx) (by kernel_rfl) (by kernel_rfl) ⟨⟨_, (Below.refl _ _).drew⟩, rfl⟩ ?_
        iterate 25 (go_big_quiet_step (fail))
        go_big_quiet_want
        go_big_quiet_op
        refine ⟨.bool true, fun s => (CL.out s.wx (below_tr HB9.out s.held)).mono ?_, ?_⟩
        · rintro e w3 ⟨he, hb⟩
          obtain rfl : e = .returned (.bool true) := he
          exact Kept.out hb
        go_big_quiet_on
        iterate 2 (go_big_quiet_step (fail))
        refine wpQuiet_nil ?_
        rintro wc ⟨⟨wx, ox0⟩, e⟩
        have HC9 := Lib.hid (show Below W9.heap.size W9 wc from by rw [e]; exact ox0)
        clear e ox0 
        have HF := Lib.hid (below_tr HB9.out HC9.out)
        go_wp2_with fail
        go_ret
        exact ⟨rfl, HF.out⟩
      | done yv =>
        rw [ho] at HOP
        obtain ⟨uo, rfl, huo⟩ := HOP
        obtain ⟨fk, ft, fA, fB, fn, fc, fb, fd, rfl⟩ := vk_shape huo
        have HO := Lib.hid (oth_may HTM.out ho)
        clear ho
        go_upto_region 8 with fail
        obtain ⟨W9, hW9⟩ : ∃ W, W = w8.alloc (vO (.int .u8 fk) (.string ft) (.slice fA fn fc) (.slice fB fb fd)) := ⟨_, rfl⟩
        rw [← hW9]
        have hn9 : Below w8.heap.size w8 W9 := by rw [hW9]; exact below_new ..
        have H49 := Lib.hid (below_tr (below_tr HC6.out HB8.out) hn9)
        have HB9 := Lib.hid (show Below w.heap.size w W9 from below_tr HB4.out H49.out)
        have HXo := Lib.hid (show Bx W9 w8.heap.size (.int .u8 fk) (.string ft) (.slice fA fn fc) (.slice fB fb fd) from by rw [hW9]; exact Bx.new ..)
        have HXa9 := Lib.hid (HXa4.out.on H49.out)
        have HVO := Lib.hid (huo.vm.on hn9)
        have HVX := Lib.hid (HV.out.on HB9.out)
        obtain ⟨go_, hgo⟩ : ∃ h, h = w8.heap.size := ⟨_, rfl⟩
        rw [← hgo] at HXo ⊢
        clear hW9 hn9 hgo huo
        have HOW := Lib.hid (show wt yv ≤ 1000000 from by have h1 := HO.out.2.1; have h2 := HTR.out.2.2.2.1; have h3 := HWX.out.1; omega)
        have HOS := Lib.hid (show sm x yv = false from by
          have h1 := HO.out.2.2
          unfold sm at h1 ⊢
          rwa [HTC.out] at h1)
        have QS := Lib.hid (fun (X : World) (h : Below W9.heap.size W9 X) => by have := HL.out.same X (HL.out.up HT.out (below_tr HB9.out h)) (HVX.out.on h) (HVO.out.on h) HXW.out HOW.out; rw [HWX.out.2, HO.out.1, HOS.out] at this; exact this)
        have QA := Lib.hid (fun (X : World) (h : Below W9.heap.size W9 X) => by have := HL.out.cmp X (HL.out.up HT.out (below_tr HB9.out h)) (HVX.out.on h) (HVO.out.on h) HXW.out HOW.out; rw [HWX.out.2, HO.out.1] at this; exact this)
        have QB := Lib.hid (fun (X : World) (h : Below W9.heap.size W9 X) => by have := HL.out.cmp X (HL.out.up HT.out (below_tr HB9.out h)) (HVO.out.on h) (HVX.out.on h) HOW.out HXW.out; rw [HWX.out.2, HO.out.1, cmpV_swap (can x) (can yv)] at this; exact this)
        have FO := Lib.hid (show (cmpV (can x) (can yv) == .eq) = false from HOS.out)
        obtain ⟨oo, hoo⟩ : ∃ o, o = cmpV (can x) (can yv) := ⟨_, rfl⟩
        rw [← hoo] at QA QB FO
        clear hoo
        have Xa := HXa9.out
        have Ka0 := fun s : Kept W9 => s.cell Xa.c0
        have Ka1 := fun s : Kept W9 => s.cell Xa.c1
        have Ka2 := fun s : Kept W9 => s.cell Xa.c2
        have Ka3 := fun s : Kept W9 => s.cell Xa.c3
        clear Xa
        have Xo := HXo.out
        have Ko0 := fun s : Kept W9 => s.cell Xo.c0
        have Ko1 := fun s : Kept W9 => s.cell Xo.c1
        have Ko2 := fun s : Kept W9 => s.cell Xo.c2
        have Ko3 := fun s : Kept W9 => s.cell Xo.c3
        clear Xo
        cases oo with
        | eq => exact absurd FO.out (by decide)
        | lt =>
          refine reg_lit (C := fun wx => ∃ s : Kept W9, wx = s.wx) (by kernel_rfl) (by kernel_rfl) ⟨⟨_, (Below.refl _ _).drew⟩, rfl⟩ ?_
          iterate 5 (go_big_quiet_step (fail))
          go_big_quiet_want
          go_big_quiet_op
          refine ⟨.bool false, fun s => (QS.out s.wx s.held).mono ?_, ?_⟩
          · rintro e w3 ⟨he, hb⟩
            obtain rfl : e = .returned (.bool false) := he
            exact Kept.out hb
          go_big_quiet_on
          iterate 4 (go_big_quiet_step (fail))
          go_big_quiet_want
          go_big_quiet_op
          refine ⟨.int .i64 (-1), fun s => (QA.out s.wx s.held).mono ?_, ?_⟩
          · rintro e w3 ⟨he, hb⟩
            obtain rfl : e = .returned (.int .i64 (-1)) := he
            exact Kept.out hb
          go_big_quiet_on
          iterate 2 (go_big_quiet_step (fail))
          go_big_quiet_want
          go_big_quiet_op
          refine ⟨.int .i64 (1), fun s => (QB.out s.wx s.held).mono ?_, ?_⟩
          · rintro e w3 ⟨he, hb⟩
            obtain rfl : e = .returned (.int .i64 (1)) := he
            exact Kept.out hb
          go_big_quiet_on
          iterate 6 (go_big_quiet_step (fail))
          go_big_quiet_want
          go_big_quiet_op
          refine ⟨.int .i64 (-1), fun s => (QA.out s.wx s.held).mono ?_, ?_⟩
          · rintro e w3 ⟨he, hb⟩
            obtain rfl : e = .returned (.int .i64 (-1)) := he
            exact Kept.out hb
          go_big_quiet_on
          iterate 4 (go_big_quiet_step (fail))
          go_big_quiet_want
          go_big_quiet_op
          refine ⟨.bool true, fun s => (CL.out s.wx (below_tr HB9.out s.held)).mono ?_, ?_⟩
          · rintro e w3 ⟨he, hb⟩
            obtain rfl : e = .returned (.bool true) := he
            exact Kept.out hb
          go_big_quiet_on
          iterate 2 (go_big_quiet_step (fail))
          refine wpQuiet_nil ?_
          rintro wc ⟨⟨wx, ox0⟩, e⟩
          have HC9 := Lib.hid (show Below W9.heap.size W9 wc from by rw [e]; exact ox0)
          clear e ox0 Ka0 Ka1 Ka2 Ka3 Ko0 Ko1 Ko2 Ko3
          have HF := Lib.hid (below_tr HB9.out HC9.out)
          go_wp2_with fail
          go_ret
          exact ⟨rfl, HF.out⟩
        | gt =>
          refine reg_lit (C := fun wx => ∃ s : Kept W9, wx = s.wx) (by kernel_rfl) (by kernel_rfl) ⟨⟨_, (Below.refl _ _).drew⟩, rfl⟩ ?_
          iterate 5 (go_big_quiet_step (fail))
          go_big_quiet_want
          go_big_quiet_op
          refine ⟨.bool false, fun s => (QS.out s.wx s.held).mono ?_, ?_⟩
          · rintro e w3 ⟨he, hb⟩
            obtain rfl : e = .returned (.bool false) := he
            exact Kept.out hb
          go_big_quiet_on
          iterate 4 (go_big_quiet_step (fail))
          go_big_quiet_want
          go_big_quiet_op
          refine ⟨.int .i64 (1), fun s => (QA.out s.wx s.held).mono ?_, ?_⟩
          · rintro e w3 ⟨he, hb⟩
            obtain rfl : e = .returned (.int .i64 (1)) := he
            exact Kept.out hb
          go_big_quiet_on
          iterate 2 (go_big_quiet_step (fail))
          go_big_quiet_want
          go_big_quiet_op
          refine ⟨.int .i64 (-1), fun s => (QB.out s.wx s.held).mono ?_, ?_⟩
          · rintro e w3 ⟨he, hb⟩
            obtain rfl : e = .returned (.int .i64 (-1)) := he
            exact Kept.out hb
          go_big_quiet_on
          iterate 6 (go_big_quiet_step (fail))
          go_big_quiet_want
          go_big_quiet_op
          refine ⟨.int .i64 (1), fun s => (QA.out s.wx s.held).mono ?_, ?_⟩
          · rintro e w3 ⟨he, hb⟩
            obtain rfl : e = .returned (.int .i64 (1)) := he
            exact Kept.out hb
          go_big_quiet_on
          iterate 4 (go_big_quiet_step (fail))
          go_big_quiet_want
          go_big_quiet_op
          refine ⟨.bool true, fun s => (CL.out s.wx (below_tr HB9.out s.held)).mono ?_, ?_⟩
          · rintro e w3 ⟨he, hb⟩
            obtain rfl : e = .returned (.bool true) := he
            exact Kept.out hb
          go_big_quiet_on
          iterate 2 (go_big_quiet_step (fail))
          refine wpQuiet_nil ?_
          rintro wc ⟨⟨wx, ox0⟩, e⟩
          have HC9 := Lib.hid (show Below W9.heap.size W9 wc from by rw [e]; exact ox0)
          clear e ox0 Ka0 Ka1 Ka2 Ka3 Ko0 Ko1 Ko2 Ko3
          have HF := Lib.hid (below_tr HB9.out HC9.out)
          go_wp2_with fail
          go_ret
          exact ⟨rfl, HF.out⟩
end Va
end Go.Proofs.YtnnlgodgaolkkaaDoor
