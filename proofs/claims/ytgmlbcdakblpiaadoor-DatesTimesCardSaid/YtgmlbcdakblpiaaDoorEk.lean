/- The law DatesTimes, walked. -/
import Derived.Test.YtgmlbcdakblpiaaDoorEm
import Derived.Test.YtgmlbcdakblpiaaDoorEi
import Derived.Deep.RegionHeld3
import Derived.Deep.CutRange
namespace Go.Proofs.YtgmlbcdakblpiaaDoor
open Go.RowKit
namespace Da

abbrev fiv (a b c d e : Int) : Value := .agg #[.int .u8 a, .int .u8 b, .int .u8 c, .int .u8 d, .int .u8 e]
abbrev fio (a b c d e : Int) : Obj := .cells #[.int .u8 a, .int .u8 b, .int .u8 c, .int .u8 d, .int .u8 e] 36
/-- The five numbers' block. -/
def BX (w wx : World) (a b c d e : Int) : Prop := Below w.heap.size w wx ∧ wx.heap[w.heap.size]? = some (fio a b c d e)
section
variable {w wx wy : World} {a b c d e : Int}
theorem BX.start : BX w (w.alloc (fio a b c d e)) a b c d e := ⟨(Below.refl _ _).alloc (Nat.le_refl _) _, by show (w.heap.push _)[w.heap.size]? = _; simp⟩
theorem BX.on (h : BX w wx a b c d e) (hb : Below wx.heap.size wx wy) : BX w wy a b c d e := ⟨below_tr h.1 hb, by rw [hb.block _ (lt_of_block h.2)]; exact h.2⟩
theorem BX.drew (h : BX w wx a b c d e) : BX w wx.drew a b c d e := h.on ((Below.refl _ _).drew)
theorem BX.c0 (h : BX w wx a b c d e) : wx.cell? ⟨w.heap.size, 0, none⟩ = some (.int .u8 a) := by simp [World.cell?, h.2]
theorem BX.c1 (h : BX w wx a b c d e) : wx.cell? ⟨w.heap.size, 1, none⟩ = some (.int .u8 b) := by simp [World.cell?, h.2]
theorem BX.c2 (h : BX w wx a b c d e) : wx.cell? ⟨w.heap.size, 2, none⟩ = some (.int .u8 c) := by simp [World.cell?, h.2]
theorem BX.c3 (h : BX w wx a b c d e) : wx.cell? ⟨w.heap.size, 3, none⟩ = some (.int .u8 d) := by simp [World.cell?, h.2]
theorem BX.c4 (h : BX w wx a b c d e) : wx.cell? ⟨w.heap.size, 4, none⟩ = some (.int .u8 e) := by simp [World.cell?, h.2]
end
theorem clk_txt {h m s : Nat} : txt (nml h 2) ++ ⟨#[58]⟩ ++ txt (nml m 2) ++ ⟨#[58]⟩ ++ txt (nml s 2) = txt (cl h m s) := by
  rw [show (⟨#[58]⟩ : ByteArray) = txt [58] from rfl, txt_app, txt_app, txt_app, txt_app, cl]
  congr 1
  try simp
set_option maxHeartbeats 16000000 in
set_option maxRecDepth 100000 in
theorem timesL_any {x0 x1 x2 x3 x4 xp xk : Int} (a0 : 0 ≤ x0) (z0 : x0 ≤ 255) (a1 : 0 ≤ x1) (z1 : x1 ≤ 255) (a2 : 0 ≤ x2) (z2 : x2 ≤ 255) (a3 : 0 ≤ x3) (z3 : x3 ≤ 255) (a4 : 0 ≤ x4) (z4 : x4 ≤ 255)
    (ap : 0 ≤ xp) (zp : xp ≤ 4294967295) (ak : 0 ≤ xk) (zk : xk ≤ 255) (w : World) :
    Calls Tryd.prog 5 #[fiv x0 x1 x2 x3 x4, .int .u32 xp, .int .u8 xk] w fun e w' => e = .returned (.bool true) ∧ Below w.heap.size w w' := by
  obtain ⟨n0, rfl⟩ : ∃ n : Nat, x0 = n := ⟨x0.toNat, by omega⟩
  obtain ⟨n1, rfl⟩ : ∃ n : Nat, x1 = n := ⟨x1.toNat, by omega⟩
  obtain ⟨n2, rfl⟩ : ∃ n : Nat, x2 = n := ⟨x2.toNat, by omega⟩
  obtain ⟨n3, rfl⟩ : ∃ n : Nat, x3 = n := ⟨x3.toNat, by omega⟩
  obtain ⟨n4, rfl⟩ : ∃ n : Nat, x4 = n := ⟨x4.toNat, by omega⟩
  obtain ⟨np, rfl⟩ : ∃ n : Nat, xp = n := ⟨xp.toNat, by omega⟩
  obtain ⟨nk, rfl⟩ : ∃ n : Nat, xk = n := ⟨xk.toNat, by omega⟩
  obtain ⟨h, hh⟩ : ∃ y, y = n0 % 100 := ⟨_, rfl⟩
  have qh : (n0 : Int).tmod 100 = h := tm hh
  have uh : (n0 : Int) % 100 = h := em hh
  have lh : h ≤ 99 := by omega
  obtain ⟨m, hm⟩ : ∃ y, y = n1 % 100 := ⟨_, rfl⟩
  have qm : (n1 : Int).tmod 100 = m := tm hm
  have um : (n1 : Int) % 100 = m := em hm
  have lm : m ≤ 99 := by omega
  obtain ⟨s, hs⟩ : ∃ y, y = n2 % 100 := ⟨_, rfl⟩
  have qs : (n2 : Int).tmod 100 = s := tm hs
  have us : (n2 : Int) % 100 = s := em hs
  have ls : s ≤ 99 := by omega
  obtain ⟨a, ha⟩ : ∃ y, y = n3 % 100 := ⟨_, rfl⟩
  have qa : (n3 : Int).tmod 100 = a := tm ha
  have ua : (n3 : Int) % 100 = a := em ha
  have la : a ≤ 99 := by omega
  obtain ⟨b, hb⟩ : ∃ y, y = n4 % 100 := ⟨_, rfl⟩
  have qb : (n4 : Int).tmod 100 = b := tm hb
  have ub : (n4 : Int) % 100 = b := em hb
  have lb : b ≤ 99 := by omega
  obtain ⟨p, hp⟩ : ∃ y, y = np % 1000000 := ⟨_, rfl⟩
  have tp' : (np : Int).tmod 1000000 = p := tm hp
  have up' : (np : Int) % 1000000 = p := em hp
  have lp : p ≤ 999999 := by omega
  obtain ⟨k, hk⟩ : ∃ y, y = nk % 9 := ⟨_, rfl⟩
  have tk' : (nk : Int).tmod 9 = k := tm hk
  have uk' : (nk : Int) % 9 = k := em hk
  have lk : k ≤ 8 := by omega
  have HL := Lib.hid lives_any
  obtain ⟨Sh, hSh⟩ : ∃ S, S = txt (nml h 2) := ⟨_, rfl⟩
  have Ch := Lib.hid (fun w => lnum_is (x := (h : Int)) (y := 2) h 2 w rfl (by omega) (by omega) rfl hSh)
  have zh : Sh.size ≤ 2 := by rw [hSh, txt_size, nml_len]; omega
  obtain ⟨Sm, hSm⟩ : ∃ S, S = txt (nml m 2) := ⟨_, rfl⟩
  have Cm := Lib.hid (fun w => lnum_is (x := (m : Int)) (y := 2) m 2 w rfl (by omega) (by omega) rfl hSm)
  have zm : Sm.size ≤ 2 := by rw [hSm, txt_size, nml_len]; omega
  obtain ⟨Ss, hSs⟩ : ∃ S, S = txt (nml s 2) := ⟨_, rfl⟩
  have Cs := Lib.hid (fun w => lnum_is (x := (s : Int)) (y := 2) s 2 w rfl (by omega) (by omega) rfl hSs)
  have zs : Ss.size ≤ 2 := by rw [hSs, txt_size, nml_len]; omega
  obtain ⟨Sa, hSa⟩ : ∃ S, S = txt (nml a 2) := ⟨_, rfl⟩
  have Ca := Lib.hid (fun w => lnum_is (x := (a : Int)) (y := 2) a 2 w rfl (by omega) (by omega) rfl hSa)
  have za : Sa.size ≤ 2 := by rw [hSa, txt_size, nml_len]; omega
  obtain ⟨Sb, hSb⟩ : ∃ S, S = txt (nml b 2) := ⟨_, rfl⟩
  have Cb := Lib.hid (fun w => lnum_is (x := (b : Int)) (y := 2) b 2 w rfl (by omega) (by omega) rfl hSb)
  have zb : Sb.size ≤ 2 := by rw [hSb, txt_size, nml_len]; omega
  obtain ⟨TL, hTL⟩ : ∃ S, S = txt (nml p 6) := ⟨_, rfl⟩
  have CP := Lib.hid (fun w => lnum_is (x := (p : Int)) (y := 6) p 6 w rfl (by omega) (by omega) rfl hTL)
  have zTL : TL.size ≤ 6 := by rw [hTL, txt_size, nml_len]; omega
  obtain ⟨CT, hCT⟩ : ∃ S, S = txt (st0 (nml p 6)) := ⟨_, rfl⟩
  have CTR := Lib.hid (fun w => trr_is w hTL (by rw [nml_len]; omega) hCT)
  have zCT : CT.size ≤ 6 := by rw [hCT, txt_size]; have := st0_len (nml p 6); rw [nml_len] at this; exact this
  obtain ⟨RP, hRP⟩ : ∃ S, S = txt (List.replicate k 48) := ⟨_, rfl⟩
  have CRP := Lib.hid (fun w => repeat_is (x := (k : Int)) k (by omega) w rfl hRP)
  have zRP : RP.size ≤ 8 := by rw [hRP, txt_size, List.length_replicate]; exact lk
  -- the texts
  obtain ⟨TM, hTM⟩ : ∃ S, S = txt (cl h m s) := ⟨_, rfl⟩
  have zTM : TM.size ≤ 8 := by rw [hTM, txt_size, cl_len]; omega
  obtain ⟨ZN, hZN⟩ : ∃ S, S = Sa ++ ⟨#[58]⟩ ++ Sb := ⟨_, rfl⟩
  have zZN : ZN.size ≤ 5 := by
    rw [hZN, ByteArray.size_append, ByteArray.size_append]
    have : (⟨#[58]⟩ : ByteArray).size = 1 := rfl
    omega
  obtain ⟨TD, hTD⟩ : ∃ S, S = txt (cl h m s ++ fl p k) := ⟨_, rfl⟩
  obtain ⟨WT, hWT⟩ : ∃ S, S = txt (cl h m s ++ stp (fl p k)) := ⟨_, rfl⟩
  have zTD : TD.size ≤ 30 := by rw [hTD, txt_size, List.length_append, cl_len, fl, List.length_cons, List.length_append, nml_len, List.length_replicate]; omega
  have zWT : WT.size ≤ 30 := by
    rw [hWT, txt_size, List.length_append, cl_len]
    have e1 := stp_len (fl p k)
    have e2 : (fl p k).length = 7 + k := by rw [fl, List.length_cons, List.length_append, nml_len, List.length_replicate]; omega
    omega
  have ETM := Lib.hid (show Sh ++ ⟨#[58]⟩ ++ Sm ++ ⟨#[58]⟩ ++ Ss = TM by rw [hSh, hSm, hSs, hTM]; exact clk_txt)
  have ETD := Lib.hid (show TM ++ ⟨#[46]⟩ ++ TL ++ RP = TD by
    rw [hTM, hTL, hRP, hTD, show (⟨#[46]⟩ : ByteArray) = txt [46] from rfl, txt_app, txt_app, txt_app, fl]; congr 1; try simp)
  obtain ⟨cq, hcq⟩ : ∃ c, c = decide (st0 (nml p 6) = []) := ⟨_, rfl⟩
  have EW0 := Lib.hid (fun (g' : cq = true) => show TM = WT by rw [hTM, hWT, stp_fl, if_pos (of_decide_eq_true (hcq.symm.trans g')), List.append_nil])
  have EW1 := Lib.hid (fun (g' : cq = false) => show TM ++ ⟨#[46]⟩ ++ CT = WT by
    rw [hTM, hWT, hCT, stp_fl, if_neg (of_decide_eq_false (hcq.symm.trans g')), show (⟨#[46]⟩ : ByteArray) = txt [46] from rfl, txt_app, txt_app]; congr 1; try simp)
  have hce := (txt_empty hCT).trans hcq.symm
  obtain ⟨ob, hob⟩ : ∃ o, o = mT (cl h m s) := ⟨_, rfl⟩
  have HOB := Lib.hid (show ob = decide (h < 24 ∧ m < 60 ∧ (s < 60 ∨ s = 60 ∧ m = 59)) by rw [hob]; exact cl_mT (by omega) (by omega) (by omega))
  obtain ⟨fb', hfb⟩ : ∃ o, o = decide (a < 24 ∧ b < 60) := ⟨_, rfl⟩
  have HFB := Lib.hid hfb
  have FT := Lib.hid (fl_ft p k)
  have L8 := Lib.hid (cl_len h m s)
  have K8 := Lib.hid (cl_clk h m s)
  -- what is read
  have F1 := Lib.hid (fun (g : ob = false) w => lfails_is (c := 9) w hTD (by rw [← txt_size, ← hTD]; omega) (by rw [r_told L8.out K8.out (.inr FT.out), ← hob, if_neg (by rw [g]; simp)]))
  have F2 := Lib.hid (fun (g : ob = false) w => lfails_is (c := 9) w hTM (by rw [← txt_size, ← hTM]; omega) (by have := r_told L8.out K8.out (.inl rfl); rw [List.append_nil] at this; rw [this, ← hob, if_neg (by rw [g]; simp)]))
  have I1 := Lib.hid (fun (g : ob = true) w => lis_is w hTD hWT (by rw [← txt_size, ← hTD]; omega) (by rw [r_told L8.out K8.out (.inr FT.out), ← hob, if_pos g]))
  have O1 := Lib.hid (fun (g : ob = true) w => Of_is (k := 2) w hWT (by rw [← txt_size, ← hWT]; omega) (by rw [o_time L8.out K8.out (.inr FT.out) (by rw [← hob]; exact g)]; rfl))
  have hTDt : TD = txt (tdl h m s p k) := hTD
  have hWTt : WT = txt (wtl h m s p k) := hWT
  have XF2 := Lib.hid (fun (g : ob = false) (c : UInt8) (hc : sp (c.toNat : Int) = true) (S : ByteArray) (hS : S = DAY ++ txt [c] ++ TD) w => fa_is (Z := []) (S := S) hTDt lk hc (.inl rfl) (by simp) (by rw [← hob, g]; rfl) (by rw [hS]; exact app_nil _) w)
  have XF3 := Lib.hid (fun (g : ob = false) (c : UInt8) (hc : sp (c.toNat : Int) = true) (S : ByteArray) (hS : S = DAY ++ txt [c] ++ TD ++ txt [90]) w => fa_is (Z := [90]) (S := S) hTDt lk hc (.inr (.inl ⟨rfl, by decide⟩)) (by simp) (by rw [← hob, g]; rfl) hS w)
  have XI2 := Lib.hid (fun (g : ob = true) (c : UInt8) (hc : sp (c.toNat : Int) = true) (S W : ByteArray) (hS : S = DAY ++ txt [c] ++ TD) (hW : W = DAY ++ txt [84] ++ WT) w => ia_is (Z := []) (U := []) (S := S) (W := W) hTDt hWTt lk hc (.inl rfl) (by simp) rfl (by rw [← hob, g]; rfl) (by rw [hS]; exact app_nil _) (by rw [hW]; exact app_nil _) w)
  have XI3 := Lib.hid (fun (g : ob = true) (c : UInt8) (hc : sp (c.toNat : Int) = true) (S W : ByteArray) (hS : S = DAY ++ txt [c] ++ TD ++ txt [122]) (hW : W = DAY ++ txt [84] ++ WT ++ txt [90]) w => ia_is (Z := [122]) (U := [90]) (S := S) (W := W) hTDt hWTt lk hc (.inr (.inl ⟨rfl, by decide⟩)) (by simp) rfl (by rw [← hob, g]; rfl) hS hW w)
  have XO2 := Lib.hid (fun (g : ob = true) (W : ByteArray) (hW : W = DAY ++ txt [84] ++ WT) w => oa_is (Z := []) (U := []) (W := W) (n := 3) hWTt lk (.inl rfl) (by simp) rfl (by rw [← hob, g]) rfl rfl (by rw [hW]; exact app_nil _) w)
  have XO3 := Lib.hid (fun (g : ob = true) (W : ByteArray) (hW : W = DAY ++ txt [84] ++ WT ++ txt [90]) w => oa_is (Z := [90]) (U := [90]) (W := W) (n := 4) hWTt lk (.inr (.inl ⟨rfl, by decide⟩)) (by simp) rfl (by rw [← hob, g]) rfl rfl hW w)
  have MZ := Lib.hid (fun (c : UInt8) => show mZ (zl c a b) = fb' by rw [zl_mZ (by omega) (by omega), hfb])
  have XI4 := Lib.hid (fun (g : ob = true) (g2 : fb' = true) (c : UInt8) (hc : sp (c.toNat : Int) = true) (d : UInt8) (hd : d = 43 ∨ d = 45) (S W : ByteArray) (hS : S = DAY ++ txt [c] ++ TD ++ txt (zl d a b)) (hW : W = DAY ++ txt [84] ++ WT ++ txt (zl d a b)) w => ia_is (Z := zl d a b) (U := zl d a b) (S := S) (W := W) hTDt hWTt lk hc (.inr (zl_zt hd a b)) (by show 6 ≤ 6; omega) (zl_up hd a b).symm (by rw [← hob, g, MZ.out, g2]; simp) hS hW w)
  have XF5 := Lib.hid (fun (g2 : fb' = false) (c : UInt8) (hc : sp (c.toNat : Int) = true) (d : UInt8) (hd : d = 43 ∨ d = 45) (S : ByteArray) (hS : S = DAY ++ txt [c] ++ TD ++ txt (zl d a b)) w => fa_is (Z := zl d a b) (S := S) hTDt lk hc (.inr (zl_zt hd a b)) (by show 6 ≤ 6; omega) (by rw [MZ.out, g2]; simp [zl]) hS w)
  have XFB := Lib.hid (fun (d : UInt8) (hd : d = 43 ∨ d = 45) (S : ByteArray) (hS : S = TD ++ txt (zl d a b)) w => fb_is (S := S) hTDt lk hd hS w)
  have XZN := Lib.hid (fun (d : UInt8) => show txt [d] ++ ZN = txt (zl d a b) from zn_txt hSa hSb hZN)
  have HZ := Lib.hid (And.intro hSa (And.intro hSb hZN))
  have F0 := Lib.hid (BX.start (w := w) (a := (n0 : Int)) (b := n1) (c := n2) (d := n3) (e := n4))
  clear MZ hTDt hWTt hcq hh hm hs ha hb hp hk hSh hSm hSs hSa hSb hTL hCT hRP hTM hTD hWT hob hfb hZN
  go_enter Tryd.func5, Tryd.ntmps5
  go_upto_region 1 with fail
  generalize hW0 : w.alloc (fio n0 n1 n2 n3 n4) = w0 at F0
  have c0 := F0.out.c0
  have c1 := F0.out.c1
  have c2 := F0.out.c2
  clear hW0
  go_wp2_with fail
  refine (Ch.out _).mono ?_
  rintro en1 w1 ⟨rfl, hb1⟩
  have F1' := Lib.hid (F0.out.on hb1)
  clear hb1 c0 c1 c2
  go_wp2_with fail
  refine (Cm.out _).mono ?_
  rintro en2 w2 ⟨rfl, hb1⟩
  have F2' := Lib.hid (F1'.out.on hb1)
  clear hb1
  go_wp2_with fail
  refine (Cs.out _).mono ?_
  rintro en3 w3 ⟨rfl, hb1⟩
  have F3' := Lib.hid (F2'.out.on hb1)
  clear hb1
  go_upto_region 5 with fail
  rw [ETM.out]
  have hx3 := F3'.out.c3
  have hx4 := F3'.out.c4
  have ho := F3'.out
  obtain ⟨v1, hv1⟩ : ∃ v, Sa ++ (⟨#[58]⟩ : ByteArray) = v := ⟨_, rfl⟩
  have hv2 : v1 ++ Sb = ZN := by rw [← hv1]; exact HZ.out.2.2.symm
  have zv1 : v1.size ≤ 3 := by
    rw [← hv1, ByteArray.size_append]
    have : (⟨#[58]⟩ : ByteArray).size = 1 := rfl
    omega
  have nn1 : ¬ (9223372036854775807 < Sa.size + 1) := by omega
  have nn1' : ¬ (9223372036854775806 < Sa.size) := by omega
  have nn2 : ¬ (9223372036854775807 < v1.size + Sb.size) := by omega
  have HW3 := Lib.hid (show (IntKind.i64.wrap (n3 : Int)).tmod 100 = (a : Int) by rw [IntWalk.i64_in _ (by omega)]; exact qa)
  have HW4 := Lib.hid (show (IntKind.i64.wrap (n4 : Int)).tmod 100 = (b : Int) by rw [IntWalk.i64_in _ (by omega)]; exact qb)
  have HC3 := Lib.hid (fun (wx : World) (h : BX w wx n0 n1 n2 n3 n4) => h.c3)
  have HC4 := Lib.hid (fun (wx : World) (h : BX w wx n0 n1 n2 n3 n4) => h.c4)
  clear F0 F1' F2' F3' Ch Cm Cs
  go_region_held3 (fun wx => BX w wx n0 n1 n2 n3 n4 ∧ wx.cell? ⟨w.heap.size, 3, none⟩ = some (.int .u8 n3) ∧ wx.cell? ⟨w.heap.size, 4, none⟩ = some (.int .u8 n4))
    (((try go_split_ands); refine (fun h => ⟨h, HC3.out _ h, HC4.out _ h⟩) ?_; first | assumption | exact BX.drew (by assumption) | (refine BX.on ?_ hb1; assumption)))
    (((try go_split_ands); go_at_call 14; (try rw [HW3.out]); (try rw [HW4.out]); first | (with_reducible refine (Ca.out _).mono ?_; rintro e w1 ⟨rfl, hb1⟩) | (with_reducible refine (Cb.out _).mono ?_; rintro e w1 ⟨rfl, hb1⟩)))
  rename_i hS
  have G0 := Lib.hid hS.1
  clear HW3 HW4 hS hx3 hx4 ho hv1 hv2 nn1 nn1' nn2 zv1 HC3 HC4 Ca Cb
  go_wp2_with fail
  refine (CP.out _).mono ?_
  rintro en4 w4 ⟨rfl, hb1⟩
  have G1 := Lib.hid (G0.out.on hb1)
  clear hb1 CP
  go_upto_region 9 with (go_at_call 16; refine (CTR.out _).mono ?_; rintro e w' ⟨rfl, rfl⟩)
  clear CTR
  go_cut [65] from 64 to 65 (fun q wx => q = .bool (!cq) ∧ w4 = wx)
  case first =>
    clear EW0 EW1 F1 F2 I1 O1 HZ HL XF2 XF3 XI2 XI3 XO2 XO3 XI4 XF5 XFB XZN
    cases cq
    · go_wp2_with fail
      go_meet
      exact ⟨rfl, rfl⟩
    · go_wp2_with fail
      go_meet
      exact ⟨rfl, rfl⟩
  case rest =>
  obtain ⟨rfl, rfl⟩ := hcut
  go_upto_if 65 with fail
  go_cut [14] from 66 to 69 (fun v wx => v = .string WT ∧ BX w wx n0 n1 n2 n3 n4)
  case first =>
    clear F1 F2 I1 O1 HZ HL XF2 XF3 XI2 XI3 XO2 XO3 XI4 XF5 XFB XZN
    cases cq
    · have E1 := Lib.hid (EW1.out rfl)
      clear EW0 EW1
      go_wp2_with fail
      go_meet
      exact ⟨by rw [← E1.out], G1.out⟩
    · have E1 := Lib.hid (EW0.out rfl)
      clear EW0 EW1
      go_wp2_with fail
      go_meet
      exact ⟨by rw [E1.out], G1.out⟩
  case rest =>
    obtain ⟨rfl, hbx⟩ := hcut
    have G2 := Lib.hid hbx
    clear hbx G0 G1 EW0 EW1 hce
    go_wp2_with fail
    refine (CRP.out _).mono ?_
    rintro en5 w5 ⟨rfl, hb1⟩
    have G3 := Lib.hid (G2.out.on hb1)
    clear hb1 CRP G2
    go_upto_region 12 with fail
    rw [ETD.out]
    clear ETD ETM
    go_cut [16] from 79 to 96 (fun v wx => v = .bool ob ∧ w5 = wx)
    case first =>
      clear F1 F2 I1 O1 HZ XF2 XF3 XI2 XI3 XO2 XO3 XI4 XF5 XFB XZN
      by_cases g1 : (h : Int) < 24
      · by_cases g2 : (m : Int) < 60
        · by_cases g3 : (s : Int) < 60
          · have E1 := Lib.hid (show ob = true by rw [HOB.out]; exact decide_eq_true (by omega))
            go_wp2_with fail
            go_meet
            exact ⟨by rw [E1.out]; try simp; try omega, rfl⟩
          · by_cases g4 : s = 60
            · by_cases g5 : m = 59
              · have E1 := Lib.hid (show ob = true by rw [HOB.out]; exact decide_eq_true (by omega))
                subst g4 g5
                go_wp2_with fail
                go_meet
                exact ⟨by rw [E1.out]; try simp; try omega, rfl⟩
              · have E1 := Lib.hid (show ob = false by rw [HOB.out]; exact decide_eq_false (by omega))
                have g5' : ((m : Int) == 59) = false := by simp; omega
                subst g4
                go_wp2_with fail
                go_meet
                exact ⟨by rw [E1.out]; try simp; try omega, rfl⟩
            · have E1 := Lib.hid (show ob = false by rw [HOB.out]; exact decide_eq_false (by omega))
              have g4' : ((s : Int) == 60) = false := by simp; omega
              go_wp2_with fail
              go_meet
              exact ⟨by rw [E1.out]; try simp; try omega, rfl⟩
        · have E1 := Lib.hid (show ob = false by rw [HOB.out]; exact decide_eq_false (by omega))
          go_wp2_with fail
          go_meet
          exact ⟨by rw [E1.out]; try simp; try omega, rfl⟩
      · have E1 := Lib.hid (show ob = false by rw [HOB.out]; exact decide_eq_false (by omega))
        go_wp2_with fail
        go_meet
        exact ⟨by rw [E1.out]; try simp; try omega, rfl⟩
    case rest =>
      obtain ⟨rfl, rfl⟩ := hcut
      have hx3 := G3.out.c3
      have hx4 := G3.out.c4
      go_upto_region 13 with fail
      go_cut [17] from 97 to 108 (fun v wx => v = .bool fb' ∧ w5 = wx)
      case first =>
        clear F1 F2 I1 O1 HZ XF2 XF3 XI2 XI3 XO2 XO3 XI4 XF5 XFB XZN
        by_cases g1 : (a : Int) < 24
        · by_cases g2 : (b : Int) < 60
          · have E1 := Lib.hid (show fb' = true by rw [HFB.out]; exact decide_eq_true (by omega))
            go_wp2_with fail
            go_meet
            exact ⟨by rw [E1.out]; try simp; try omega, rfl⟩
          · have E1 := Lib.hid (show fb' = false by rw [HFB.out]; exact decide_eq_false (by omega))
            go_wp2_with fail
            go_meet
            exact ⟨by rw [E1.out]; try simp; try omega, rfl⟩
        · have E1 := Lib.hid (show fb' = false by rw [HFB.out]; exact decide_eq_false (by omega))
          go_wp2_with fail
          go_meet
          exact ⟨by rw [E1.out]; try simp; try omega, rfl⟩
      case rest =>
        obtain ⟨rfl, rfl⟩ := hcut
        have HB5 := Lib.hid G3.out.1
        have LAB := Lib.hid (And.intro la lb)
        clear hx3 hx4 G3 HOB qh qm qs qa qb uh um us ua ub lh lm ls la lb tp' up' lp tk' uk' lk
        go_wp2_with fail
        clear HZ FT L8 K8 HFB LAB
        go_loopw [19, 20, 21, 22] (fun i _ _ _ wr => ∃ j : Nat, j ≤ 3 ∧ i = .int .i64 j ∧ Below w.heap.size w wr) (fun i _ _ _ _ => 3 - (intOf i).toNat)
        case atStart => exact ⟨0, by omega, rfl, HB5.out⟩
        case round =>
          obtain ⟨j, hj, rfl, hbw⟩ := hrel
          have HB := Lib.hid hbw
          clear hbw
          by_cases hlt : j < 3
          · go_upto_region 18 with fail
            go_cut [20] from 109 to 249 (fun v wx => (∃ c : UInt8, sp (c.toNat : Int) = true ∧ v = .string (txt [c])) ∧ Below w.heap.size w wx)
            case first =>
              clear F1 F2 I1 O1 HL XF2 XF3 XI2 XI3 XO2 XO3 XI4 XF5 XFB XZN
              rcases (by omega : j = 0 ∨ j = 1 ∨ j = 2) with rfl | rfl | rfl
              · go_wp2_with fail
                go_meet
                exact ⟨⟨84, by decide, rfl⟩, HB.out.alloc HB.out.size _⟩
              · go_wp2_with fail
                go_meet
                exact ⟨⟨116, by decide, rfl⟩, HB.out.alloc HB.out.size _⟩
              · go_wp2_with fail
                go_meet
                exact ⟨⟨32, by decide, rfl⟩, HB.out.alloc HB.out.size _⟩
            case rest =>
              obtain ⟨⟨c, hc, rfl⟩, hb1⟩ := hcut
              have HB6 := Lib.hid hb1
              have HC := Lib.hid hc
              clear hb1 hc HB
              obtain ⟨M, hM⟩ : ∃ M, M = txt [c] := ⟨_, rfl⟩
              have zM : M.size = 1 := by rw [hM]; rfl
              obtain ⟨A2, hA2⟩ : ∃ A, A = DAY ++ M ++ TD := ⟨_, rfl⟩
              obtain ⟨W2, hW2⟩ : ∃ A, A = DAY ++ ⟨#[84]⟩ ++ WT := ⟨_, rfl⟩
              obtain ⟨A3, hA3⟩ : ∃ A, A = A2 ++ ⟨#[90]⟩ := ⟨_, rfl⟩
              obtain ⟨A4, hA4⟩ : ∃ A, A = A2 ++ ⟨#[122]⟩ := ⟨_, rfl⟩
              obtain ⟨W3, hW3⟩ : ∃ A, A = W2 ++ ⟨#[90]⟩ := ⟨_, rfl⟩
              have zd : DAY.size = 10 := rfl
              have o84 : (⟨#[84]⟩ : ByteArray).size = 1 := rfl
              have zA2 : A2.size ≤ 41 := by rw [hA2, ByteArray.size_append, ByteArray.size_append]; omega
              have zW2 : W2.size ≤ 41 := by rw [hW2, ByteArray.size_append, ByteArray.size_append]; omega
              have EA2 := Lib.hid hA2.symm
              have EW2 := Lib.hid hW2.symm
              have EA3 := Lib.hid hA3.symm
              have EA4 := Lib.hid hA4.symm
              have EW3 := Lib.hid hW3.symm
              have YF2 := Lib.hid (fun g => XF2.out g c HC.out A2 (by rw [hA2, hM]))
              have YF3 := Lib.hid (fun g => XF3.out g c HC.out A3 (by rw [hA3, hA2, hM]; rfl))
              have YI2 := Lib.hid (fun g => XI2.out g c HC.out A2 W2 (by rw [hA2, hM]) hW2)
              have YI3 := Lib.hid (fun g => XI3.out g c HC.out A4 W3 (by rw [hA4, hA2, hM]; rfl) (by rw [hW3, hW2]; rfl))
              have YO2 := Lib.hid (fun g => XO2.out g W2 hW2)
              have YO3 := Lib.hid (fun g => XO3.out g W3 (by rw [hW3, hW2]; rfl))
              have YI4 := Lib.hid (fun g g2 d hd => XI4.out g g2 c HC.out d hd (A2 ++ txt (zl d a b)) (W2 ++ txt (zl d a b)) (by rw [hA2, hM]) (by rw [hW2]; rfl))
              have YF5 := Lib.hid (fun g2 d hd => XF5.out g2 c HC.out d hd (A2 ++ txt (zl d a b)) (by rw [hA2, hM]))
              rw [← hM]
              clear hM hA2 hW2 hA3 hA4 hW3 zd o84 XF2 XF3 XI2 XI3 XO2 XO3 XI4 XF5
              cases ob
              · have G1 := Lib.hid (F1.out rfl)
                have G2 := Lib.hid (F2.out rfl)
                have G3 := Lib.hid (YF2.out rfl)
                have G4 := Lib.hid (YF3.out rfl)
                clear F1 F2 I1 O1 YF2 YF3 YI2 YI3 YO2 YO3 YI4 YF5 XFB XZN HL
                go_wp2_with fail
                refine (G1.out _).mono ?_
                rintro e7 w7 ⟨rfl, hb1⟩
                have HB7 := Lib.hid (below_tr HB6.out hb1)
                clear hb1
                go_wp2_with fail
                refine (G2.out _).mono ?_
                rintro e8 w8 ⟨rfl, hb1⟩
                have HB8 := Lib.hid (below_tr HB7.out hb1)
                clear hb1
                go_wp2_with fail
                rw [EA2.out]
                refine (G3.out _).mono ?_
                rintro e9 w9 ⟨rfl, hb1⟩
                have HB9 := Lib.hid (below_tr HB8.out hb1)
                clear hb1
                go_wp2_with fail
                rw [EA2.out, EA3.out]
                refine (G4.out _).mono ?_
                rintro e10 w10 ⟨rfl, hb1⟩
                have HB10 := Lib.hid (below_tr HB9.out hb1)
                clear hb1
                go_wp2_with fail
                go_roundw
                case rel => exact ⟨j + 1, by omega, by go_num, HB10.out⟩
                case measure => simp [intOf]; omega
              · have G1 := Lib.hid (I1.out rfl)
                have G2 := Lib.hid (YI2.out rfl)
                have G3 := Lib.hid (YI3.out rfl)
                have G4 := Lib.hid (O1.out rfl)
                have G5 := Lib.hid (YO2.out rfl)
                have G6 := Lib.hid (YO3.out rfl)
                have G7 := Lib.hid (YI4.out rfl)
                clear F1 F2 I1 O1 YF2 YF3 YI2 YI3 YO2 YO3 YI4 HL
                go_wp2_with fail
                refine (G1.out _).mono ?_
                rintro e7 w7 ⟨rfl, hb1⟩
                have HB7 := Lib.hid (below_tr HB6.out hb1)
                clear hb1
                go_wp2_with fail
                rw [EA2.out, EW2.out]
                refine (G2.out _).mono ?_
                rintro e8 w8 ⟨rfl, hb1⟩
                have HB8 := Lib.hid (below_tr HB7.out hb1)
                clear hb1
                go_wp2_with fail
                rw [EA2.out, EW2.out, EA4.out, EW3.out]
                refine (G3.out _).mono ?_
                rintro e9 w9 ⟨rfl, hb1⟩
                have HB9 := Lib.hid (below_tr HB8.out hb1)
                clear hb1
                go_wp2_with fail
                refine (G4.out _).mono ?_
                rintro e10 w10 ⟨rfl, hb1⟩
                have HB10 := Lib.hid (below_tr HB9.out hb1)
                clear hb1
                go_wp2_with fail
                rw [EW2.out]
                refine (G5.out _).mono ?_
                rintro e11 w11 ⟨rfl, hb1⟩
                have HB11 := Lib.hid (below_tr HB10.out hb1)
                clear hb1
                go_wp2_with fail
                rw [EW2.out, EW3.out]
                refine (G6.out _).mono ?_
                rintro e12 w12 ⟨rfl, hb1⟩
                have HB12 := Lib.hid (below_tr HB11.out hb1)
                clear hb1 G1 G2 G3 G4 G5 G6 HB7 HB8 HB9 HB10 HB11
                go_wp2_with fail
                go_loopw [21, 22] (fun i _ wr => ∃ q : Nat, q ≤ 2 ∧ i = .int .i64 q ∧ Below w.heap.size w wr) (fun i _ _ => 2 - (intOf i).toNat)
                case atStart => exact ⟨0, by omega, rfl, HB12.out⟩
                case round =>
                  obtain ⟨q, hq, rfl, hbw⟩ := hrel
                  have HB13 := Lib.hid hbw
                  clear hbw HB12
                  by_cases hq2 : q < 2
                  · go_upto_region 27 with fail
                    go_cut [22] from 200 to 249 (fun v wx => (∃ d : UInt8, (d = 43 ∨ d = 45) ∧ v = .string (txt (zl d a b))) ∧ Below w.heap.size w wx)
                    case first =>
                      clear G7 YF5 XFB
                      rcases (by omega : q = 0 ∨ q = 1) with rfl | rfl
                      · have e1 := Lib.hid (XZN.out 43)
                        go_wp2_with fail
                        go_meet
                        exact ⟨⟨43, .inl rfl, by rw [← e1.out]; rfl⟩, HB13.out.alloc HB13.out.size _⟩
                      · have e1 := Lib.hid (XZN.out 45)
                        go_wp2_with fail
                        go_meet
                        exact ⟨⟨45, .inr rfl, by rw [← e1.out]; rfl⟩, HB13.out.alloc HB13.out.size _⟩
                    case rest =>
                      obtain ⟨⟨d, hd, rfl⟩, hb1⟩ := hcut
                      have HB14 := Lib.hid hb1
                      clear hb1 HB13
                      obtain ⟨B1, hB1⟩ : ∃ B, B = txt (zl d a b) := ⟨_, rfl⟩
                      have zB1 : B1.size ≤ 6 := by rw [hB1, txt_size]; show 6 ≤ 6; omega
                      obtain ⟨A5, hA5⟩ : ∃ A, A = A2 ++ B1 := ⟨_, rfl⟩
                      obtain ⟨W4, hW4⟩ : ∃ A, A = W2 ++ B1 := ⟨_, rfl⟩
                      obtain ⟨T5, hT5⟩ : ∃ A, A = TD ++ B1 := ⟨_, rfl⟩
                      have EA5 := Lib.hid hA5.symm
                      have EW4 := Lib.hid hW4.symm
                      have ET5 := Lib.hid hT5.symm
                      have K1 := Lib.hid (fun g2 => G7.out g2 d hd)
                      have K2 := Lib.hid (fun g2 => YF5.out g2 d hd)
                      have K3 := Lib.hid (XFB.out d hd T5 (by rw [hT5, hB1]))
                      rw [← hB1, ← hA5, ← hW4] at K1
                      rw [← hB1, ← hA5] at K2
                      rw [← hB1]
                      clear hB1 hA5 hW4 hT5 hd G7 YF5 XFB XZN
                      cases fb'
                      · have K2x := Lib.hid (K2.out rfl)
                        clear K1 K2
                        go_wp2_with fail
                        rw [EA2.out, EA5.out]
                        refine (K2x.out _).mono ?_
                        rintro e15 w15 ⟨rfl, hb1⟩
                        have HB15 := Lib.hid (below_tr HB14.out hb1)
                        clear hb1
                        go_wp2_with fail
                        rw [ET5.out]
                        refine (K3.out _).mono ?_
                        rintro e16 w16 ⟨rfl, hb1⟩
                        have HB16 := Lib.hid (below_tr HB15.out hb1)
                        clear hb1
                        go_wp2_with fail
                        go_roundw
                        case rel => exact ⟨q + 1, by omega, by go_num, HB16.out⟩
                        case measure => simp [intOf]; omega
                      · have K1x := Lib.hid (K1.out rfl)
                        clear K1 K2
                        go_wp2_with fail
                        rw [EA2.out, EW2.out, EA5.out, EW4.out]
                        refine (K1x.out _).mono ?_
                        rintro e15 w15 ⟨rfl, hb1⟩
                        have HB15 := Lib.hid (below_tr HB14.out hb1)
                        clear hb1
                        go_wp2_with fail
                        rw [ET5.out]
                        refine (K3.out _).mono ?_
                        rintro e16 w16 ⟨rfl, hb1⟩
                        have HB16 := Lib.hid (below_tr HB15.out hb1)
                        clear hb1
                        go_wp2_with fail
                        go_roundw
                        case rel => exact ⟨q + 1, by omega, by go_num, HB16.out⟩
                        case measure => simp [intOf]; omega
                  · clear G7 YF5 XFB XZN
                    go_wp2_with fail
                    go_roundw
                    case rel => exact ⟨j + 1, by omega, by go_num, HB13.out⟩
                    case measure => simp [intOf]; omega
          · clear F1 F2 I1 O1 XF2 XF3 XI2 XI3 XO2 XO3 XI4 XF5 XFB XZN
            go_wp2_with fail
            refine (HL.out _).mono ?_
            rintro e20 w20 ⟨rfl, hb1⟩
            have HB20 := Lib.hid (below_tr HB.out hb1)
            clear hb1
            go_wp2_with fail
            go_ret
            exact ⟨rfl, HB20.out⟩
  end Da
  end Go.Proofs.YtgmlbcdakblpiaaDoor
