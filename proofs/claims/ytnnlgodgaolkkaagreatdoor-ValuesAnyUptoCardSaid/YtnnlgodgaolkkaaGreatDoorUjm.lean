/- The law ValuesOrder, walked, over what landed. -/
import Derived.Test.YtnnlgodgaolkkaaGreatDoorUhm
namespace Go.Proofs.YtnnlgodgaolkkaaGreatDoor
open Go.RowKit
namespace Va
set_option maxRecDepth 100000

set_option maxHeartbeats 64000000 in
set_option maxRecDepth 100000 in
theorem orderL_any {Lo : Nat} {Tb : World → Prop} {κ : V → Bs} (L : Ld Lo Tb κ) (w : World) (hT : Tb w) {x y z : V} {v u s : Value} (hv : Vm w v x) (hu : Vm w u y) (hs : Vm w s z) (hx : wt x ≤ 1048576) (hy : wt y ≤ 1048576) (hz : wt z ≤ 1048576) :
    Calls Tryz.prog 4 #[v, u, s] w fun e w' => e = .returned (.bool true) ∧ Below w.heap.size w w' := by
  have HL := Lib.hid L
  have HT := Lib.hid hT
  clear L hT
  have CL := Lib.hid (fun (X : World) (hb : Below w.heap.size w X) => lives_any HL.out X (HL.out.up HT.out hb))
  have CGa := Lib.hid (fun (X : World) (hb : Below w.heap.size w X) => great_any X (by omega) (hv.on hb))
  have CMa := Lib.hid (fun (hg : decide (1500 < wt x) = false) (X : World) (hb : Below w.heap.size w X) => HL.out.may X (HL.out.up HT.out hb) (hv.on hb) (by have := of_decide_eq_false hg; omega))
  have CZa := Lib.hid (fun (hg : decide (1500 < wt x) = false) (X : World) (hb : Below w.heap.size w X) => HL.out.size X (HL.out.up HT.out hb) (hv.on hb) (by have := of_decide_eq_false hg; omega))
  have CTa := Lib.hid (fun (hg : decide (1500 < wt x) = false) (X : World) (hb : Below w.heap.size w X) => HL.out.text X (HL.out.up HT.out hb) (hv.on hb) (by have := of_decide_eq_false hg; omega))
  have CKa := Lib.hid (fun (hg : decide (1500 < wt x) = false) (X : World) (hb : Below w.heap.size w X) => HL.out.key X (HL.out.up HT.out hb) (hv.on hb) (by have := of_decide_eq_false hg; omega))
  have CGb := Lib.hid (fun (X : World) (hb : Below w.heap.size w X) => great_any X (by omega) (hu.on hb))
  have CMb := Lib.hid (fun (hg : decide (1500 < wt y) = false) (X : World) (hb : Below w.heap.size w X) => HL.out.may X (HL.out.up HT.out hb) (hu.on hb) (by have := of_decide_eq_false hg; omega))
  have CZb := Lib.hid (fun (hg : decide (1500 < wt y) = false) (X : World) (hb : Below w.heap.size w X) => HL.out.size X (HL.out.up HT.out hb) (hu.on hb) (by have := of_decide_eq_false hg; omega))
  have CTb := Lib.hid (fun (hg : decide (1500 < wt y) = false) (X : World) (hb : Below w.heap.size w X) => HL.out.text X (HL.out.up HT.out hb) (hu.on hb) (by have := of_decide_eq_false hg; omega))
  have CKb := Lib.hid (fun (hg : decide (1500 < wt y) = false) (X : World) (hb : Below w.heap.size w X) => HL.out.key X (HL.out.up HT.out hb) (hu.on hb) (by have := of_decide_eq_false hg; omega))
  have CGc := Lib.hid (fun (X : World) (hb : Below w.heap.size w X) => great_any X (by omega) (hs.on hb))
  have CMc := Lib.hid (fun (hg : decide (1500 < wt z) = false) (X : World) (hb : Below w.heap.size w X) => HL.out.may X (HL.out.up HT.out hb) (hs.on hb) (by have := of_decide_eq_false hg; omega))
  have CZc := Lib.hid (fun (hg : decide (1500 < wt z) = false) (X : World) (hb : Below w.heap.size w X) => HL.out.size X (HL.out.up HT.out hb) (hs.on hb) (by have := of_decide_eq_false hg; omega))
  have CTc := Lib.hid (fun (hg : decide (1500 < wt z) = false) (X : World) (hb : Below w.heap.size w X) => HL.out.text X (HL.out.up HT.out hb) (hs.on hb) (by have := of_decide_eq_false hg; omega))
  have CKc := Lib.hid (fun (hg : decide (1500 < wt z) = false) (X : World) (hb : Below w.heap.size w X) => HL.out.key X (HL.out.up HT.out hb) (hs.on hb) (by have := of_decide_eq_false hg; omega))
  have CCab := Lib.hid (fun (hg : decide (1500 < wt x) = false) (hg2 : decide (1500 < wt y) = false) (X : World) (hb : Below w.heap.size w X) => HL.out.cmp X (HL.out.up HT.out hb) (hv.on hb) (hu.on hb) (by have := of_decide_eq_false hg; omega) (by have := of_decide_eq_false hg2; omega))
  have CSab := Lib.hid (fun (hg : decide (1500 < wt x) = false) (hg2 : decide (1500 < wt y) = false) (X : World) (hb : Below w.heap.size w X) => HL.out.same X (HL.out.up HT.out hb) (hv.on hb) (hu.on hb) (by have := of_decide_eq_false hg; omega) (by have := of_decide_eq_false hg2; omega))
  have CCbc := Lib.hid (fun (hg : decide (1500 < wt y) = false) (hg2 : decide (1500 < wt z) = false) (X : World) (hb : Below w.heap.size w X) => HL.out.cmp X (HL.out.up HT.out hb) (hu.on hb) (hs.on hb) (by have := of_decide_eq_false hg; omega) (by have := of_decide_eq_false hg2; omega))
  have CCac := Lib.hid (fun (hg : decide (1500 < wt x) = false) (hg2 : decide (1500 < wt z) = false) (X : World) (hb : Below w.heap.size w X) => HL.out.cmp X (HL.out.up HT.out hb) (hv.on hb) (hs.on hb) (by have := of_decide_eq_false hg; omega) (by have := of_decide_eq_false hg2; omega))
  have CCba := Lib.hid (fun (hg : decide (1500 < wt y) = false) (hg2 : decide (1500 < wt x) = false) (X : World) (hb : Below w.heap.size w X) => HL.out.cmp X (HL.out.up HT.out hb) (hu.on hb) (hv.on hb) (by have := of_decide_eq_false hg; omega) (by have := of_decide_eq_false hg2; omega))
  have CCaa := Lib.hid (fun (hg : decide (1500 < wt x) = false) (hg2 : decide (1500 < wt x) = false) (X : World) (hb : Below w.heap.size w X) => HL.out.cmp X (HL.out.up HT.out hb) (hv.on hb) (hv.on hb) (by have := of_decide_eq_false hg; omega) (by have := of_decide_eq_false hg2; omega))
  have CSaa := Lib.hid (fun (hg : decide (1500 < wt x) = false) (hg2 : decide (1500 < wt x) = false) (X : World) (hb : Below w.heap.size w X) => HL.out.same X (HL.out.up HT.out hb) (hv.on hb) (hv.on hb) (by have := of_decide_eq_false hg; omega) (by have := of_decide_eq_false hg2; omega))
  have FK := Lib.hid (And.intro (fun h1 : may x = true => HL.out.kyes h1) (fun (h1 : may x = true) (h2 : may y = true) => HL.out.kone h1 h2))
  have FT := Lib.hid (fun (h1 : may x = true) (h2 : may y = true) (h3 : sm x y = true) => And.intro (te_sm (may_pl h1) (may_pl h2) h3) (sz_sm (may_pl h1) (may_pl h2) h3))
  have FR := Lib.hid (tri_cmpV (can x) (can y) (can z))
  have FS := Lib.hid (show sm x y = (cmpV (can x) (can y) == .eq) from rfl)
  have FW := Lib.hid (cmpV_swap (can x) (can y))
  have FX := Lib.hid (And.intro (sm_self (x := x)) (cmpV_self (can x)))
  obtain ⟨Ga, hGa⟩ : ∃ g, g = decide (1500 < wt x) := ⟨_, rfl⟩
  obtain ⟨Ma, hMa⟩ : ∃ g, g = may x := ⟨_, rfl⟩
  obtain ⟨Gb, hGb⟩ : ∃ g, g = decide (1500 < wt y) := ⟨_, rfl⟩
  obtain ⟨Mb, hMb⟩ : ∃ g, g = may y := ⟨_, rfl⟩
  obtain ⟨Gc, hGc⟩ : ∃ g, g = decide (1500 < wt z) := ⟨_, rfl⟩
  obtain ⟨Mc, hMc⟩ : ∃ g, g = may z := ⟨_, rfl⟩
  rw [← hGa] at CGa CMa CZa CTa CKa
  rw [← hMa] at CMa CZa
  rw [← hGb] at CGb CMb CZb CTb CKb
  rw [← hMb] at CMb CZb
  rw [← hGc] at CGc CMc CZc CTc CKc
  rw [← hMc] at CMc CZc
  simp only [← hGa, ← hGb, ← hMa, ← hMb] at CCab CSab
  simp only [← hGb, ← hGc, ← hMb, ← hMc] at CCbc
  simp only [← hGa, ← hGc, ← hMa, ← hMc] at CCac
  simp only [← hGb, ← hGa, ← hMb, ← hMa] at CCba
  simp only [← hGa, ← hMa] at CCaa CSaa
  have FTa := Lib.hid (show Ma = true → teM x = te x from fun h => by rw [teM, if_pos (hMa ▸ h)])
  have FTb := Lib.hid (show Mb = true → teM y = te y from fun h => by rw [teM, if_pos (hMb ▸ h)])
  simp only [← hMa, ← hMb] at FK FT
  obtain ⟨o1, ho1⟩ : ∃ o, o = cmpV (can x) (can y) := ⟨_, rfl⟩
  obtain ⟨o2, ho2⟩ : ∃ o, o = cmpV (can y) (can z) := ⟨_, rfl⟩
  obtain ⟨o3, ho3⟩ : ∃ o, o = cmpV (can x) (can z) := ⟨_, rfl⟩
  rw [FW.out, ← ho1] at CCba
  rw [FX.out.2] at CCaa
  rw [FX.out.1] at CSaa
  rw [← ho1] at CCab FS
  rw [← ho2] at CCbc
  rw [← ho3] at CCac
  rw [← ho1, ← ho2, ← ho3] at FR
  obtain ⟨Sab, hSab⟩ : ∃ b, b = sm x y := ⟨_, rfl⟩
  rw [← hSab] at CSab FS FK FT
  obtain ⟨ta, hta⟩ : ∃ t, t = teM x := ⟨_, rfl⟩
  obtain ⟨tb, htb⟩ : ∃ t, t = teM y := ⟨_, rfl⟩
  obtain ⟨ya, hya⟩ : ∃ t, t = κ x := ⟨_, rfl⟩
  obtain ⟨yb, hyb⟩ : ∃ t, t = κ y := ⟨_, rfl⟩
  obtain ⟨za, hza⟩ : ∃ t, t = sz x := ⟨_, rfl⟩
  obtain ⟨zb, hzb⟩ : ∃ t, t = sz y := ⟨_, rfl⟩
  rw [← hta] at CTa FTa
  rw [← htb] at CTb FTb
  rw [← hya, ← hyb] at FK
  rw [← hya] at CKa
  rw [← hyb] at CKb
  rw [← hza] at CZa
  rw [← hzb] at CZb
  rw [← hza, ← hzb] at FT
  clear hGa hGb hGc hMa hMb hMc ho1 ho2 ho3 hSab hta htb hya hyb hza hzb FW FX hx hy hz CZc CTc CKc
  obtain ⟨ka, ta', la, sa⟩ := x
  obtain ⟨Aa, Ba, ca, da, rfl, _, _, _, _, _, _, _, _, _⟩ := hv.inv
  obtain ⟨Ta, hTa⟩ : ∃ T, T = txt ta' := ⟨_, rfl⟩
  obtain ⟨na, hna⟩ : ∃ n, n = la.length := ⟨_, rfl⟩
  obtain ⟨ma, hma⟩ : ∃ n, n = sa.length := ⟨_, rfl⟩
  obtain ⟨kb, tb', lb, sb⟩ := y
  obtain ⟨Ab, Bb, cb, db, rfl, _, _, _, _, _, _, _, _, _⟩ := hu.inv
  obtain ⟨Tb, hTb⟩ : ∃ T, T = txt tb' := ⟨_, rfl⟩
  obtain ⟨nb, hnb⟩ : ∃ n, n = lb.length := ⟨_, rfl⟩
  obtain ⟨mb, hmb⟩ : ∃ n, n = sb.length := ⟨_, rfl⟩
  obtain ⟨kc, tc', lc, sc⟩ := z
  obtain ⟨Ac, Bc, cc, dc, rfl, _, _, _, _, _, _, _, _, _⟩ := hs.inv
  obtain ⟨Tc, hTc⟩ : ∃ T, T = txt tc' := ⟨_, rfl⟩
  obtain ⟨nc, hnc⟩ : ∃ n, n = lc.length := ⟨_, rfl⟩
  obtain ⟨mc, hmc⟩ : ∃ n, n = sc.length := ⟨_, rfl⟩
  rw [← hTa, ← hna, ← hma] at CGa CMa CZa CTa CKa CCab CCac CCba CCaa CSab CSaa ⊢
  rw [← hTb, ← hnb, ← hmb] at CGb CMb CZb CTb CKb CCab CCbc CCba CSab ⊢
  rw [← hTc, ← hnc, ← hmc] at CGc CMc CCbc CCac ⊢
  clear hv hu hs hTa hna hma hTb hnb hmb hTc hnc hmc
  obtain ⟨W1, hW1⟩ : ∃ W, W = w.alloc (vO (.int .u8 ka) (.string Ta) (.slice Aa na ca) (.slice Ba ma da)) := ⟨_, rfl⟩
  obtain ⟨W2, hW2⟩ : ∃ W, W = W1.alloc (vO (.int .u8 kb) (.string Tb) (.slice Ab nb cb) (.slice Bb mb db)) := ⟨_, rfl⟩
  obtain ⟨W3, hW3⟩ : ∃ W, W = W2.alloc (vO (.int .u8 kc) (.string Tc) (.slice Ac nc cc) (.slice Bc mc dc)) := ⟨_, rfl⟩
  have hb1 : Below w.heap.size w W1 := by rw [hW1]; exact below_new ..
  have hb2 : Below W1.heap.size W1 W2 := by rw [hW2]; exact below_new ..
  have hb3 : Below W2.heap.size W2 W3 := by rw [hW3]; exact below_new ..
  have HXa := Lib.hid (show Bx W3 w.heap.size (.int .u8 ka) (.string Ta) (.slice Aa na ca) (.slice Ba ma da) from ((show Bx W1 w.heap.size (.int .u8 ka) (.string Ta) (.slice Aa na ca) (.slice Ba ma da) from by rw [hW1]; exact Bx.new ..).on hb2).on hb3)
  have HXb := Lib.hid (show Bx W3 W1.heap.size (.int .u8 kb) (.string Tb) (.slice Ab nb cb) (.slice Bb mb db) from (show Bx W2 W1.heap.size (.int .u8 kb) (.string Tb) (.slice Ab nb cb) (.slice Bb mb db) from by rw [hW2]; exact Bx.new ..).on hb3)
  have HXc := Lib.hid (show Bx W3 W2.heap.size (.int .u8 kc) (.string Tc) (.slice Ac nc cc) (.slice Bc mc dc) from by rw [hW3]; exact Bx.new ..)
  have HB3 := Lib.hid (below_tr (below_tr hb1 hb2) hb3)
  have al : ∀ (W : World) (o : Obj), (W.alloc o).heap.size = W.heap.size + 1 := fun W o => by show (W.heap.push o).size = _; rw [Array.size_push]
  have HS1 := Lib.hid (show w.heap.size + 1 = W1.heap.size by rw [hW1, al])
  have HS2 := Lib.hid (show w.heap.size + 1 + 1 = W2.heap.size by rw [hW2, al, hW1, al])
  have HW1 := Lib.hid hW1
  have HW2 := Lib.hid hW2
  have HW3 := Lib.hid hW3
  clear hW1 hW2 hW3 hb1 hb2 hb3 al
  go_enter Tryz.func4, Tryz.ntmps4
  go_upto_region 1 with fail
  rw [← HW1.out, ← HW2.out, ← HW3.out]
  obtain ⟨gc, hgc⟩ : ∃ h, h = w.heap.size + 1 + 1 := ⟨_, rfl⟩
  obtain ⟨gb, hgb⟩ : ∃ h, h = w.heap.size + 1 := ⟨_, rfl⟩
  obtain ⟨ga, hga⟩ : ∃ h, h = w.heap.size := ⟨_, rfl⟩
  rw [← HS2.out, ← hgc] at HXc
  rw [← HS1.out, ← hgb] at HXb
  rw [← hga] at HXa
  rw [← hgc, ← hgb, ← hga]
  clear HW1 HW2 HW3 HS1 HS2 hgc hgb hga
  have HC := Lib.hid (Below.refl W3.heap.size W3)
  have Xa := HXa.out.on HC.out
  have a0 := Xa.c0
  have a1 := Xa.c1
  have a2 := Xa.c2
  have a3 := Xa.c3
  have Xb := HXb.out.on HC.out
  have b0 := Xb.c0
  have b1 := Xb.c1
  have b2 := Xb.c2
  have b3 := Xb.c3
  have Xc := HXc.out.on HC.out
  have c0 := Xc.c0
  have c1 := Xc.c1
  have c2 := Xc.c2
  have c3 := Xc.c3
  clear Xa Xb Xc
  go_wp2_with fail
  refine (CGa.out _ (below_tr HB3.out HC.out)).mono ?_
  rintro e w4 ⟨he, hb⟩
  have he : e = .returned (.bool Ga) := he
  subst he
  have HC := Lib.hid (below_tr HC.out hb)
  clear hb a0 a1 a2 a3 b0 b1 b2 b3 c0 c1 c2 c3
  have Xa := HXa.out.on HC.out
  have a0 := Xa.c0
  have a1 := Xa.c1
  have a2 := Xa.c2
  have a3 := Xa.c3
  have Xb := HXb.out.on HC.out
  have b0 := Xb.c0
  have b1 := Xb.c1
  have b2 := Xb.c2
  have b3 := Xb.c3
  have Xc := HXc.out.on HC.out
  have c0 := Xc.c0
  have c1 := Xc.c1
  have c2 := Xc.c2
  have c3 := Xc.c3
  clear Xa Xb Xc
  cases Ga with
  | true =>
    go_wp2_with fail
    refine (CL.out _ (below_tr HB3.out HC.out)).mono ?_
    rintro e wl ⟨rfl, hbl⟩
    have HF := Lib.hid (below_tr (below_tr HB3.out HC.out) hbl)
    clear hbl a0 a1 a2 a3 b0 b1 b2 b3 c0 c1 c2 c3
    go_wp2_with fail
    go_ret
    exact ⟨rfl, HF.out⟩
  | false =>
    go_wp2_with fail
    refine (CGb.out _ (below_tr HB3.out HC.out)).mono ?_
    rintro e w5 ⟨he, hb⟩
    have he : e = .returned (.bool Gb) := he
    subst he
    have HC := Lib.hid (below_tr HC.out hb)
    clear hb a0 a1 a2 a3 b0 b1 b2 b3 c0 c1 c2 c3
    have Xa := HXa.out.on HC.out
    have a0 := Xa.c0
    have a1 := Xa.c1
    have a2 := Xa.c2
    have a3 := Xa.c3
    have Xb := HXb.out.on HC.out
    have b0 := Xb.c0
    have b1 := Xb.c1
    have b2 := Xb.c2
    have b3 := Xb.c3
    have Xc := HXc.out.on HC.out
    have c0 := Xc.c0
    have c1 := Xc.c1
    have c2 := Xc.c2
    have c3 := Xc.c3
    clear Xa Xb Xc
    cases Gb with
    | true =>
      go_wp2_with fail
      refine (CL.out _ (below_tr HB3.out HC.out)).mono ?_
      rintro e wl ⟨rfl, hbl⟩
      have HF := Lib.hid (below_tr (below_tr HB3.out HC.out) hbl)
      clear hbl a0 a1 a2 a3 b0 b1 b2 b3 c0 c1 c2 c3
      go_wp2_with fail
      go_ret
      exact ⟨rfl, HF.out⟩
    | false =>
      go_wp2_with fail
      refine (CGc.out _ (below_tr HB3.out HC.out)).mono ?_
      rintro e w6 ⟨he, hb⟩
      have he : e = .returned (.bool Gc) := he
      subst he
      have HC := Lib.hid (below_tr HC.out hb)
      clear hb a0 a1 a2 a3 b0 b1 b2 b3 c0 c1 c2 c3
      have Xa := HXa.out.on HC.out
      have a0 := Xa.c0
      have a1 := Xa.c1
      have a2 := Xa.c2
      have a3 := Xa.c3
      have Xb := HXb.out.on HC.out
      have b0 := Xb.c0
      have b1 := Xb.c1
      have b2 := Xb.c2
      have b3 := Xb.c3
      have Xc := HXc.out.on HC.out
      have c0 := Xc.c0
      have c1 := Xc.c1
      have c2 := Xc.c2
      have c3 := Xc.c3
      clear Xa Xb Xc
      cases Gc with
      | true =>
        go_wp2_with fail
        refine (CL.out _ (below_tr HB3.out HC.out)).mono ?_
        rintro e wl ⟨rfl, hbl⟩
        have HF := Lib.hid (below_tr (below_tr HB3.out HC.out) hbl)
        clear hbl a0 a1 a2 a3 b0 b1 b2 b3 c0 c1 c2 c3
        go_wp2_with fail
        go_ret
        exact ⟨rfl, HF.out⟩
      | false =>
        go_wp2_with fail
        refine (CMa.out (by first | rfl | trivial) _ (below_tr HB3.out HC.out)).mono ?_
        rintro e w7 ⟨he, hb⟩
        have he : e = .returned (.bool Ma) := he
        subst he
        have HC := Lib.hid (below_tr HC.out hb)
        clear hb a0 a1 a2 a3 b0 b1 b2 b3 c0 c1 c2 c3
        have Xa := HXa.out.on HC.out
        have a0 := Xa.c0
        have a1 := Xa.c1
        have a2 := Xa.c2
        have a3 := Xa.c3
        have Xb := HXb.out.on HC.out
        have b0 := Xb.c0
        have b1 := Xb.c1
        have b2 := Xb.c2
        have b3 := Xb.c3
        have Xc := HXc.out.on HC.out
        have c0 := Xc.c0
        have c1 := Xc.c1
        have c2 := Xc.c2
        have c3 := Xc.c3
        clear Xa Xb Xc
        cases Ma with
        | false =>
          go_wp2_with fail
          refine (CL.out _ (below_tr HB3.out HC.out)).mono ?_
          rintro e wl ⟨rfl, hbl⟩
          have HF := Lib.hid (below_tr (below_tr HB3.out HC.out) hbl)
          clear hbl a0 a1 a2 a3 b0 b1 b2 b3 c0 c1 c2 c3
          go_wp2_with fail
          go_ret
          exact ⟨rfl, HF.out⟩
        | true =>
          go_wp2_with fail
          refine (CMb.out (by first | rfl | trivial) _ (below_tr HB3.out HC.out)).mono ?_
          rintro e w8 ⟨he, hb⟩
          have he : e = .returned (.bool Mb) := he
          subst he
          have HC := Lib.hid (below_tr HC.out hb)
          clear hb a0 a1 a2 a3 b0 b1 b2 b3 c0 c1 c2 c3
          have Xa := HXa.out.on HC.out
          have a0 := Xa.c0
          have a1 := Xa.c1
          have a2 := Xa.c2
          have a3 := Xa.c3
          have Xb := HXb.out.on HC.out
          have b0 := Xb.c0
          have b1 := Xb.c1
          have b2 := Xb.c2
          have b3 := Xb.c3
          have Xc := HXc.out.on HC.out
          have c0 := Xc.c0
          have c1 := Xc.c1
          have c2 := Xc.c2
          have c3 := Xc.c3
          clear Xa Xb Xc
          cases Mb with
          | false =>
            go_wp2_with fail
            refine (CL.out _ (below_tr HB3.out HC.out)).mono ?_
            rintro e wl ⟨rfl, hbl⟩
            have HF := Lib.hid (below_tr (below_tr HB3.out HC.out) hbl)
            clear hbl a0 a1 a2 a3 b0 b1 b2 b3 c0 c1 c2 c3
            go_wp2_with fail
            go_ret
            exact ⟨rfl, HF.out⟩
          | true =>
            go_wp2_with fail
            refine (CMc.out (by first | rfl | trivial) _ (below_tr HB3.out HC.out)).mono ?_
            rintro e w9 ⟨he, hb⟩
            have he : e = .returned (.bool Mc) := he
            subst he
            have HC := Lib.hid (below_tr HC.out hb)
            clear hb a0 a1 a2 a3 b0 b1 b2 b3 c0 c1 c2 c3
            have Xa := HXa.out.on HC.out
            have a0 := Xa.c0
            have a1 := Xa.c1
            have a2 := Xa.c2
            have a3 := Xa.c3
            have Xb := HXb.out.on HC.out
            have b0 := Xb.c0
            have b1 := Xb.c1
            have b2 := Xb.c2
            have b3 := Xb.c3
            have Xc := HXc.out.on HC.out
            have c0 := Xc.c0
            have c1 := Xc.c1
            have c2 := Xc.c2
            have c3 := Xc.c3
            clear Xa Xb Xc
            cases Mc with
            | false =>
              go_wp2_with fail
              refine (CL.out _ (below_tr HB3.out HC.out)).mono ?_
              rintro e wl ⟨rfl, hbl⟩
              have HF := Lib.hid (below_tr (below_tr HB3.out HC.out) hbl)
              clear hbl a0 a1 a2 a3 b0 b1 b2 b3 c0 c1 c2 c3
              go_wp2_with fail
              go_ret
              exact ⟨rfl, HF.out⟩
            | true =>
              go_wp2_with fail
              refine (CCab.out (by first | rfl | trivial) (by first | rfl | trivial) _ (below_tr HB3.out HC.out)).mono ?_
              rintro e w10 ⟨he, hb⟩
              have he : e = .returned (.int .i64 (oI o1)) := he
              obtain ⟨ab, hab⟩ : ∃ i, i = oI o1 := ⟨_, rfl⟩
              rw [← hab] at he
              have Hab := Lib.hid hab
              clear hab
              subst he
              have HC := Lib.hid (below_tr HC.out hb)
              clear hb a0 a1 a2 a3 b0 b1 b2 b3 c0 c1 c2 c3
              have Xa := HXa.out.on HC.out
              have a0 := Xa.c0
              have a1 := Xa.c1
              have a2 := Xa.c2
              have a3 := Xa.c3
              have Xb := HXb.out.on HC.out
              have b0 := Xb.c0
              have b1 := Xb.c1
              have b2 := Xb.c2
              have b3 := Xb.c3
              have Xc := HXc.out.on HC.out
              have c0 := Xc.c0
              have c1 := Xc.c1
              have c2 := Xc.c2
              have c3 := Xc.c3
              clear Xa Xb Xc
              go_wp2_with fail
              refine (CCbc.out (by first | rfl | trivial) (by first | rfl | trivial) _ (below_tr HB3.out HC.out)).mono ?_
              rintro e w11 ⟨he, hb⟩
              have he : e = .returned (.int .i64 (oI o2)) := he
              obtain ⟨bc, hbc⟩ : ∃ i, i = oI o2 := ⟨_, rfl⟩
              rw [← hbc] at he
              have Hbc := Lib.hid hbc
              clear hbc
              subst he
              have HC := Lib.hid (below_tr HC.out hb)
              clear hb a0 a1 a2 a3 b0 b1 b2 b3 c0 c1 c2 c3
              have Xa := HXa.out.on HC.out
              have a0 := Xa.c0
              have a1 := Xa.c1
              have a2 := Xa.c2
              have a3 := Xa.c3
              have Xb := HXb.out.on HC.out
              have b0 := Xb.c0
              have b1 := Xb.c1
              have b2 := Xb.c2
              have b3 := Xb.c3
              have Xc := HXc.out.on HC.out
              have c0 := Xc.c0
              have c1 := Xc.c1
              have c2 := Xc.c2
              have c3 := Xc.c3
              clear Xa Xb Xc
              go_wp2_with fail
              refine (CCac.out (by first | rfl | trivial) (by first | rfl | trivial) _ (below_tr HB3.out HC.out)).mono ?_
              rintro e w12 ⟨he, hb⟩
              have he : e = .returned (.int .i64 (oI o3)) := he
              obtain ⟨ac, hac⟩ : ∃ i, i = oI o3 := ⟨_, rfl⟩
              rw [← hac] at he
              have Hac := Lib.hid hac
              clear hac
              subst he
              have HC := Lib.hid (below_tr HC.out hb)
              clear hb a0 a1 a2 a3 b0 b1 b2 b3 c0 c1 c2 c3
              have Xa := HXa.out.on HC.out
              have a0 := Xa.c0
              have a1 := Xa.c1
              have a2 := Xa.c2
              have a3 := Xa.c3
              have Xb := HXb.out.on HC.out
              have b0 := Xb.c0
              have b1 := Xb.c1
              have b2 := Xb.c2
              have b3 := Xb.c3
              have Xc := HXc.out.on HC.out
              have c0 := Xc.c0
              have c1 := Xc.c1
              have c2 := Xc.c2
              have c3 := Xc.c3
              clear Xa Xb Xc
              obtain ⟨KA, hKA⟩ : ∃ k, k = txt ya := ⟨_, rfl⟩
              have k1 : ¬ KA.toList = [] := fun e => FK.out.1 (by first | rfl | trivial) (by have e2 := congrArg List.length e; rw [hKA, Lib.toList_data] at e2; simpa [txt] using e2)
              have k2 : (KA.toList == ([] : List UInt8)) = false := beq_eq_false_iff_ne.2 k1
              have k3 : KA.toList.isEmpty = false := by cases h : KA.toList with | nil => exact absurd h k1 | cons => rfl
              go_upto_region 6 with fail
              cases o1 with
              | lt =>
                obtain rfl : ab = -1 := Hab.out
                obtain rfl : Sab = false := FS.out
                obtain ⟨KB, hKB⟩ : ∃ k, k = txt yb := ⟨_, rfl⟩
                have n1 : ¬ KA.toList = KB.toList := fun e => by have := (FK.out.2 (by first | rfl | trivial) (by first | rfl | trivial)).1 ((tl_eq hKA hKB).1 e); cases this
                have n2 : (KA.toList == KB.toList) = false := beq_eq_false_iff_ne.2 n1
                have CKa2 := Lib.hid (fun X hb => hKA ▸ CKa.out (by first | rfl | trivial) X hb)
                have CKb2 := Lib.hid (fun X hb => hKB ▸ CKb.out (by first | rfl | trivial) X hb)
                clear hKB
                clear hKA
                have Ka0 := fun s : Kept w12 => s.cell a0
                have Ka1 := fun s : Kept w12 => s.cell a1
                have Ka2 := fun s : Kept w12 => s.cell a2
                have Ka3 := fun s : Kept w12 => s.cell a3
                have Kb0 := fun s : Kept w12 => s.cell b0
                have Kb1 := fun s : Kept w12 => s.cell b1
                have Kb2 := fun s : Kept w12 => s.cell b2
                have Kb3 := fun s : Kept w12 => s.cell b3
                clear a0 a1 a2 a3 b0 b1 b2 b3 c0 c1 c2 c3
                refine reg_lit (C := fun wx => ∃ s : Kept w12, wx = s.wx) (by kernel_rfl) (by kernel_rfl) ⟨⟨_, (Below.refl _ _).drew⟩, rfl⟩ ?_
                iterate 2 (go_big_quiet_step (fail))
                go_big_quiet_want
                go_big_quiet_op
                refine ⟨.bool true, fun s => (CSaa.out (by first | rfl | trivial) (by first | rfl | trivial) s.wx (below_tr (below_tr HB3.out HC.out) s.held)).mono ?_, ?_⟩
                · rintro e w3 ⟨he, hb⟩
                  obtain rfl : e = .returned (.bool true) := he
                  exact Kept.out hb
                go_big_quiet_on
                iterate 4 (go_big_quiet_step (fail))
                go_big_quiet_want
                go_big_quiet_op
                refine ⟨.int .i64 0, fun s => (CCaa.out (by first | rfl | trivial) (by first | rfl | trivial) s.wx (below_tr (below_tr HB3.out HC.out) s.held)).mono ?_, ?_⟩
                · rintro e w3 ⟨he, hb⟩
                  obtain rfl : e = .returned (.int .i64 0) := he
                  exact Kept.out hb
                go_big_quiet_on
                iterate 5 (go_big_quiet_step (fail))
                go_big_quiet_want
                go_big_quiet_op
                refine ⟨.int .i64 (1), fun s => (CCba.out (by first | rfl | trivial) (by first | rfl | trivial) s.wx (below_tr (below_tr HB3.out HC.out) s.held)).mono ?_, ?_⟩
                · rintro e w3 ⟨he, hb⟩
                  obtain rfl : e = .returned (.int .i64 (1)) := he
                  exact Kept.out hb
                go_big_quiet_on
                iterate 9 (go_big_quiet_step (fail))
                go_big_quiet_want
                go_big_quiet_op
                refine ⟨.bool false, fun s => (CSab.out (by first | rfl | trivial) (by first | rfl | trivial) s.wx (below_tr (below_tr HB3.out HC.out) s.held)).mono ?_, ?_⟩
                · rintro e w3 ⟨he, hb⟩
                  obtain rfl : e = .returned (.bool false) := he
                  exact Kept.out hb
                go_big_quiet_on
                iterate 4 (go_big_quiet_step (fail))
                go_big_quiet_want
                go_big_quiet_op
                refine ⟨.string KA, fun s => (CKa2.out s.wx (below_tr (below_tr HB3.out HC.out) s.held)).mono ?_, ?_⟩
                · rintro e w3 ⟨he, hb⟩
                  obtain rfl : e = .returned (.string KA) := he
                  exact Kept.out hb
                go_big_quiet_on
                iterate 1 (go_big_quiet_step (fail))
                go_big_quiet_want
                go_big_quiet_op
                refine ⟨.string KB, fun s => (CKb2.out s.wx (below_tr (below_tr HB3.out HC.out) s.held)).mono ?_, ?_⟩
                · rintro e w3 ⟨he, hb⟩
                  obtain rfl : e = .returned (.string KB) := he
                  exact Kept.out hb
                go_big_quiet_on
                iterate 3 (go_big_quiet_step (fail))
                go_big_quiet_want
                go_big_quiet_op
                refine ⟨.bool false, fun s => (CSab.out (by first | rfl | trivial) (by first | rfl | trivial) s.wx (below_tr (below_tr HB3.out HC.out) s.held)).mono ?_, ?_⟩
                · rintro e w3 ⟨he, hb⟩
                  obtain rfl : e = .returned (.bool false) := he
                  exact Kept.out hb
                go_big_quiet_on
                iterate 4 (go_big_quiet_step (fail))
                go_big_quiet_want
                go_big_quiet_op
                refine ⟨.string KA, fun s => (CKa2.out s.wx (below_tr (below_tr HB3.out HC.out) s.held)).mono ?_, ?_⟩
                · rintro e w3 ⟨he, hb⟩
                  obtain rfl : e = .returned (.string KA) := he
                  exact Kept.out hb
                go_big_quiet_on
                iterate 2 (go_big_quiet_step (fail))
                refine wpQuiet_nil ?_
                rintro wc ⟨⟨wx, ox0⟩, e⟩
                have HC := Lib.hid (show Below W3.heap.size W3 wc from by rw [e]; exact below_tr HC.out ox0)
                clear e ox0 Ka0 Ka1 Ka2 Ka3 Kb0 Kb1 Kb2 Kb3
                clear k1 k2 k3 n1 n2
                cases o2 with
                | lt =>
                  obtain rfl : bc = -1 := Hbc.out
                  cases o3 with
                  | lt =>
                    obtain rfl : ac = -1 := Hac.out
                    go_upto_region 10 with fail
                    obtain ⟨wd, hwd⟩ : ∃ wd, wd = wc := ⟨_, rfl⟩
                    subst hwd
                    refine reg_lit (C := fun wx => ∃ s : Kept wd, wx = s.wx) (by kernel_rfl) (by kernel_rfl) ⟨⟨_, (Below.refl _ _).drew⟩, rfl⟩ ?_
                    iterate 21 (go_big_quiet_step (fail))
                    refine wpQuiet_nil ?_
                    rintro wc ⟨⟨wx, ox0⟩, e⟩
                    have HC := Lib.hid (show Below W3.heap.size W3 wc from by rw [e]; exact below_tr HC.out ox0)
                    clear e ox0 
                    go_wp2_with fail
                    refine (CL.out _ (below_tr HB3.out HC.out)).mono ?_
                    rintro e wl ⟨rfl, hbl⟩
                    have HF := Lib.hid (below_tr (below_tr HB3.out HC.out) hbl)
                    clear hbl
                    go_wp2_with fail
                    go_ret
                    exact ⟨rfl, HF.out⟩
                  | eq =>
                    exfalso
                    have F := FR.out
                    simp [Tri] at F
                  | gt =>
                    exfalso
                    have F := FR.out
                    simp [Tri] at F
                | eq =>
                  obtain rfl : bc = 0 := Hbc.out
                  cases o3 with
                  | lt =>
                    obtain rfl : ac = -1 := Hac.out
                    go_upto_region 10 with fail
                    obtain ⟨wd, hwd⟩ : ∃ wd, wd = wc := ⟨_, rfl⟩
                    subst hwd
                    refine reg_lit (C := fun wx => ∃ s : Kept wd, wx = s.wx) (by kernel_rfl) (by kernel_rfl) ⟨⟨_, (Below.refl _ _).drew⟩, rfl⟩ ?_
                    iterate 21 (go_big_quiet_step (fail))
                    refine wpQuiet_nil ?_
                    rintro wc ⟨⟨wx, ox0⟩, e⟩
                    have HC := Lib.hid (show Below W3.heap.size W3 wc from by rw [e]; exact below_tr HC.out ox0)
                    clear e ox0 
                    go_wp2_with fail
                    refine (CL.out _ (below_tr HB3.out HC.out)).mono ?_
                    rintro e wl ⟨rfl, hbl⟩
                    have HF := Lib.hid (below_tr (below_tr HB3.out HC.out) hbl)
                    clear hbl
                    go_wp2_with fail
                    go_ret
                    exact ⟨rfl, HF.out⟩
                  | eq =>
                    exfalso
                    have F := FR.out
                    simp [Tri] at F
                  | gt =>
                    exfalso
                    have F := FR.out
                    simp [Tri] at F
                | gt =>
                  obtain rfl : bc = 1 := Hbc.out
                  cases o3 with
                  | lt =>
                    obtain rfl : ac = -1 := Hac.out
                    go_upto_region 10 with fail
                    obtain ⟨wd, hwd⟩ : ∃ wd, wd = wc := ⟨_, rfl⟩
                    subst hwd
                    refine reg_lit (C := fun wx => ∃ s : Kept wd, wx = s.wx) (by kernel_rfl) (by kernel_rfl) ⟨⟨_, (Below.refl _ _).drew⟩, rfl⟩ ?_
                    iterate 21 (go_big_quiet_step (fail))
                    refine wpQuiet_nil ?_
                    rintro wc ⟨⟨wx, ox0⟩, e⟩
                    have HC := Lib.hid (show Below W3.heap.size W3 wc from by rw [e]; exact below_tr HC.out ox0)
                    clear e ox0 
                    go_wp2_with fail
                    refine (CL.out _ (below_tr HB3.out HC.out)).mono ?_
                    rintro e wl ⟨rfl, hbl⟩
                    have HF := Lib.hid (below_tr (below_tr HB3.out HC.out) hbl)
                    clear hbl
                    go_wp2_with fail
                    go_ret
                    exact ⟨rfl, HF.out⟩
                  | eq =>
                    obtain rfl : ac = 0 := Hac.out
                    go_upto_region 10 with fail
                    obtain ⟨wd, hwd⟩ : ∃ wd, wd = wc := ⟨_, rfl⟩
                    subst hwd
                    refine reg_lit (C := fun wx => ∃ s : Kept wd, wx = s.wx) (by kernel_rfl) (by kernel_rfl) ⟨⟨_, (Below.refl _ _).drew⟩, rfl⟩ ?_
                    iterate 21 (go_big_quiet_step (fail))
                    refine wpQuiet_nil ?_
                    rintro wc ⟨⟨wx, ox0⟩, e⟩
                    have HC := Lib.hid (show Below W3.heap.size W3 wc from by rw [e]; exact below_tr HC.out ox0)
                    clear e ox0 
                    go_wp2_with fail
                    refine (CL.out _ (below_tr HB3.out HC.out)).mono ?_
                    rintro e wl ⟨rfl, hbl⟩
                    have HF := Lib.hid (below_tr (below_tr HB3.out HC.out) hbl)
                    clear hbl
                    go_wp2_with fail
                    go_ret
                    exact ⟨rfl, HF.out⟩
                  | gt =>
                    obtain rfl : ac = 1 := Hac.out
                    go_upto_region 10 with fail
                    obtain ⟨wd, hwd⟩ : ∃ wd, wd = wc := ⟨_, rfl⟩
                    subst hwd
                    refine reg_lit (C := fun wx => ∃ s : Kept wd, wx = s.wx) (by kernel_rfl) (by kernel_rfl) ⟨⟨_, (Below.refl _ _).drew⟩, rfl⟩ ?_
                    iterate 21 (go_big_quiet_step (fail))
                    refine wpQuiet_nil ?_
                    rintro wc ⟨⟨wx, ox0⟩, e⟩
                    have HC := Lib.hid (show Below W3.heap.size W3 wc from by rw [e]; exact below_tr HC.out ox0)
                    clear e ox0 
                    go_wp2_with fail
                    refine (CL.out _ (below_tr HB3.out HC.out)).mono ?_
                    rintro e wl ⟨rfl, hbl⟩
                    have HF := Lib.hid (below_tr (below_tr HB3.out HC.out) hbl)
                    clear hbl
                    go_wp2_with fail
                    go_ret
                    exact ⟨rfl, HF.out⟩
              | eq =>
                obtain rfl : ab = 0 := Hab.out
                obtain rfl : Sab = true := FS.out
                obtain rfl : ya = yb := (FK.out.2 (by first | rfl | trivial) (by first | rfl | trivial)).2 rfl
                have CKb2 := Lib.hid (fun X hb => hKA ▸ CKb.out (by first | rfl | trivial) X hb)
                have CKa2 := Lib.hid (fun X hb => hKA ▸ CKa.out (by first | rfl | trivial) X hb)
                clear hKA
                have Ka0 := fun s : Kept w12 => s.cell a0
                have Ka1 := fun s : Kept w12 => s.cell a1
                have Ka2 := fun s : Kept w12 => s.cell a2
                have Ka3 := fun s : Kept w12 => s.cell a3
                have Kb0 := fun s : Kept w12 => s.cell b0
                have Kb1 := fun s : Kept w12 => s.cell b1
                have Kb2 := fun s : Kept w12 => s.cell b2
                have Kb3 := fun s : Kept w12 => s.cell b3
                clear a0 a1 a2 a3 b0 b1 b2 b3 c0 c1 c2 c3
                refine reg_lit (C := fun wx => ∃ s : Kept w12, wx = s.wx) (by kernel_rfl) (by kernel_rfl) ⟨⟨_, (Below.refl _ _).drew⟩, rfl⟩ ?_
                iterate 2 (go_big_quiet_step (fail))
                go_big_quiet_want
                go_big_quiet_op
                refine ⟨.bool true, fun s => (CSaa.out (by first | rfl | trivial) (by first | rfl | trivial) s.wx (below_tr (below_tr HB3.out HC.out) s.held)).mono ?_, ?_⟩
                · rintro e w3 ⟨he, hb⟩
                  obtain rfl : e = .returned (.bool true) := he
                  exact Kept.out hb
                go_big_quiet_on
                iterate 4 (go_big_quiet_step (fail))
                go_big_quiet_want
                go_big_quiet_op
                refine ⟨.int .i64 0, fun s => (CCaa.out (by first | rfl | trivial) (by first | rfl | trivial) s.wx (below_tr (below_tr HB3.out HC.out) s.held)).mono ?_, ?_⟩
                · rintro e w3 ⟨he, hb⟩
                  obtain rfl : e = .returned (.int .i64 0) := he
                  exact Kept.out hb
                go_big_quiet_on
                iterate 5 (go_big_quiet_step (fail))
                go_big_quiet_want
                go_big_quiet_op
                refine ⟨.int .i64 (0), fun s => (CCba.out (by first | rfl | trivial) (by first | rfl | trivial) s.wx (below_tr (below_tr HB3.out HC.out) s.held)).mono ?_, ?_⟩
                · rintro e w3 ⟨he, hb⟩
                  obtain rfl : e = .returned (.int .i64 (0)) := he
                  exact Kept.out hb
                go_big_quiet_on
                iterate 9 (go_big_quiet_step (fail))
                go_big_quiet_want
                go_big_quiet_op
                refine ⟨.bool true, fun s => (CSab.out (by first | rfl | trivial) (by first | rfl | trivial) s.wx (below_tr (below_tr HB3.out HC.out) s.held)).mono ?_, ?_⟩
                · rintro e w3 ⟨he, hb⟩
                  obtain rfl : e = .returned (.bool true) := he
                  exact Kept.out hb
                go_big_quiet_on
                iterate 4 (go_big_quiet_step (fail))
                go_big_quiet_want
                go_big_quiet_op
                refine ⟨.string KA, fun s => (CKa2.out s.wx (below_tr (below_tr HB3.out HC.out) s.held)).mono ?_, ?_⟩
                · rintro e w3 ⟨he, hb⟩
                  obtain rfl : e = .returned (.string KA) := he
                  exact Kept.out hb
                go_big_quiet_on
                iterate 1 (go_big_quiet_step (fail))
                go_big_quiet_want
                go_big_quiet_op
                refine ⟨.string KA, fun s => (CKb2.out s.wx (below_tr (below_tr HB3.out HC.out) s.held)).mono ?_, ?_⟩
                · rintro e w3 ⟨he, hb⟩
                  obtain rfl : e = .returned (.string KA) := he
                  exact Kept.out hb
                go_big_quiet_on
                iterate 3 (go_big_quiet_step (fail))
                go_big_quiet_want
                go_big_quiet_op
                refine ⟨.bool true, fun s => (CSab.out (by first | rfl | trivial) (by first | rfl | trivial) s.wx (below_tr (below_tr HB3.out HC.out) s.held)).mono ?_, ?_⟩
                · rintro e w3 ⟨he, hb⟩
                  obtain rfl : e = .returned (.bool true) := he
                  exact Kept.out hb
                go_big_quiet_on
                iterate 4 (go_big_quiet_step (fail))
                go_big_quiet_want
                go_big_quiet_op
                refine ⟨.string KA, fun s => (CKa2.out s.wx (below_tr (below_tr HB3.out HC.out) s.held)).mono ?_, ?_⟩
                · rintro e w3 ⟨he, hb⟩
                  obtain rfl : e = .returned (.string KA) := he
                  exact Kept.out hb
                go_big_quiet_on
                iterate 2 (go_big_quiet_step (fail))
                refine wpQuiet_nil ?_
                rintro wc ⟨⟨wx, ox0⟩, e⟩
                have HC := Lib.hid (show Below W3.heap.size W3 wc from by rw [e]; exact below_tr HC.out ox0)
                clear e ox0 Ka0 Ka1 Ka2 Ka3 Kb0 Kb1 Kb2 Kb3
                clear k1 k2 k3
                cases o2 with
                | lt =>
                  obtain rfl : bc = -1 := Hbc.out
                  cases o3 with
                  | lt =>
                    obtain rfl : ac = -1 := Hac.out
                    go_upto_region 10 with fail
                    have FE := FT.out (by first | rfl | trivial) (by first | rfl | trivial) rfl
                    obtain rfl : ta = tb := by rw [FTa.out (by first | rfl | trivial), FTb.out (by first | rfl | trivial), FE.1]
                    obtain rfl : za = zb := FE.2
                    obtain ⟨TA, hTA⟩ : ∃ k, k = txt ta := ⟨_, rfl⟩
                    have CTa2 := Lib.hid (fun X hb => hTA ▸ CTa.out (by first | rfl | trivial) X hb)
                    have CTb2 := Lib.hid (fun X hb => hTA ▸ CTb.out (by first | rfl | trivial) X hb)
                    clear hTA FE
                    have Xa := HXa.out.on HC.out
                    have a0 := Xa.c0
                    have a1 := Xa.c1
                    have a2 := Xa.c2
                    have a3 := Xa.c3
                    have Xb := HXb.out.on HC.out
                    have b0 := Xb.c0
                    have b1 := Xb.c1
                    have b2 := Xb.c2
                    have b3 := Xb.c3
                    have Ka0 := fun s : Kept wc => s.cell a0
                    have Ka1 := fun s : Kept wc => s.cell a1
                    have Ka2 := fun s : Kept wc => s.cell a2
                    have Ka3 := fun s : Kept wc => s.cell a3
                    have Kb0 := fun s : Kept wc => s.cell b0
                    have Kb1 := fun s : Kept wc => s.cell b1
                    have Kb2 := fun s : Kept wc => s.cell b2
                    have Kb3 := fun s : Kept wc => s.cell b3
                    clear Xa Xb a0 a1 a2 a3 b0 b1 b2 b3
                    obtain ⟨wd, hwd⟩ : ∃ wd, wd = wc := ⟨_, rfl⟩
                    subst hwd
                    refine reg_lit (C := fun wx => ∃ s : Kept wd, wx = s.wx) (by kernel_rfl) (by kernel_rfl) ⟨⟨_, (Below.refl _ _).drew⟩, rfl⟩ ?_
                    iterate 4 (go_big_quiet_step (fail))
                    go_big_quiet_want
                    go_big_quiet_op
                    refine ⟨.string TA, fun s => (CTa2.out s.wx (below_tr (below_tr HB3.out HC.out) s.held)).mono ?_, ?_⟩
                    · rintro e w3 ⟨he, hb⟩
                      obtain rfl : e = .returned (.string TA) := he
                      exact Kept.out hb
                    go_big_quiet_on
                    iterate 1 (go_big_quiet_step (fail))
                    go_big_quiet_want
                    go_big_quiet_op
                    refine ⟨.string TA, fun s => (CTb2.out s.wx (below_tr (below_tr HB3.out HC.out) s.held)).mono ?_, ?_⟩
                    · rintro e w3 ⟨he, hb⟩
                      obtain rfl : e = .returned (.string TA) := he
                      exact Kept.out hb
                    go_big_quiet_on
                    iterate 3 (go_big_quiet_step (fail))
                    go_big_quiet_want
                    go_big_quiet_op
                    refine ⟨.int .i64 (za : Int), fun s => (CZa.out (by first | rfl | trivial) s.wx (below_tr (below_tr HB3.out HC.out) s.held)).mono ?_, ?_⟩
                    · rintro e w3 ⟨he, hb⟩
                      obtain rfl : e = .returned (.int .i64 (za : Int)) := he
                      exact Kept.out hb
                    go_big_quiet_on
                    iterate 1 (go_big_quiet_step (fail))
                    go_big_quiet_want
                    go_big_quiet_op
                    refine ⟨.int .i64 (za : Int), fun s => (CZb.out (by first | rfl | trivial) s.wx (below_tr (below_tr HB3.out HC.out) s.held)).mono ?_, ?_⟩
                    · rintro e w3 ⟨he, hb⟩
                      obtain rfl : e = .returned (.int .i64 (za : Int)) := he
                      exact Kept.out hb
                    go_big_quiet_on
                    iterate 8 (go_big_quiet_step (fail))
                    refine wpQuiet_nil ?_
                    rintro wc ⟨⟨wx, ox0⟩, e⟩
                    have HC := Lib.hid (show Below W3.heap.size W3 wc from by rw [e]; exact below_tr HC.out ox0)
                    clear e ox0 Ka0 Ka1 Ka2 Ka3 Kb0 Kb1 Kb2 Kb3
                    go_wp2_with fail
                    refine (CL.out _ (below_tr HB3.out HC.out)).mono ?_
                    rintro e wl ⟨rfl, hbl⟩
                    have HF := Lib.hid (below_tr (below_tr HB3.out HC.out) hbl)
                    clear hbl
                    go_wp2_with fail
                    go_ret
                    exact ⟨rfl, HF.out⟩
                  | eq =>
                    exfalso
                    have F := FR.out
                    simp [Tri] at F
                  | gt =>
                    exfalso
                    have F := FR.out
                    simp [Tri] at F
                | eq =>
                  obtain rfl : bc = 0 := Hbc.out
                  cases o3 with
                  | lt =>
                    exfalso
                    have F := FR.out
                    simp [Tri] at F
                  | eq =>
                    obtain rfl : ac = 0 := Hac.out
                    go_upto_region 10 with fail
                    have FE := FT.out (by first | rfl | trivial) (by first | rfl | trivial) rfl
                    obtain rfl : ta = tb := by rw [FTa.out (by first | rfl | trivial), FTb.out (by first | rfl | trivial), FE.1]
                    obtain rfl : za = zb := FE.2
                    obtain ⟨TA, hTA⟩ : ∃ k, k = txt ta := ⟨_, rfl⟩
                    have CTa2 := Lib.hid (fun X hb => hTA ▸ CTa.out (by first | rfl | trivial) X hb)
                    have CTb2 := Lib.hid (fun X hb => hTA ▸ CTb.out (by first | rfl | trivial) X hb)
                    clear hTA FE
                    have Xa := HXa.out.on HC.out
                    have a0 := Xa.c0
                    have a1 := Xa.c1
                    have a2 := Xa.c2
                    have a3 := Xa.c3
                    have Xb := HXb.out.on HC.out
                    have b0 := Xb.c0
                    have b1 := Xb.c1
                    have b2 := Xb.c2
                    have b3 := Xb.c3
                    have Ka0 := fun s : Kept wc => s.cell a0
                    have Ka1 := fun s : Kept wc => s.cell a1
                    have Ka2 := fun s : Kept wc => s.cell a2
                    have Ka3 := fun s : Kept wc => s.cell a3
                    have Kb0 := fun s : Kept wc => s.cell b0
                    have Kb1 := fun s : Kept wc => s.cell b1
                    have Kb2 := fun s : Kept wc => s.cell b2
                    have Kb3 := fun s : Kept wc => s.cell b3
                    clear Xa Xb a0 a1 a2 a3 b0 b1 b2 b3
                    obtain ⟨wd, hwd⟩ : ∃ wd, wd = wc := ⟨_, rfl⟩
                    subst hwd
                    refine reg_lit (C := fun wx => ∃ s : Kept wd, wx = s.wx) (by kernel_rfl) (by kernel_rfl) ⟨⟨_, (Below.refl _ _).drew⟩, rfl⟩ ?_
                    iterate 4 (go_big_quiet_step (fail))
                    go_big_quiet_want
                    go_big_quiet_op
                    refine ⟨.string TA, fun s => (CTa2.out s.wx (below_tr (below_tr HB3.out HC.out) s.held)).mono ?_, ?_⟩
                    · rintro e w3 ⟨he, hb⟩
                      obtain rfl : e = .returned (.string TA) := he
                      exact Kept.out hb
                    go_big_quiet_on
                    iterate 1 (go_big_quiet_step (fail))
                    go_big_quiet_want
                    go_big_quiet_op
                    refine ⟨.string TA, fun s => (CTb2.out s.wx (below_tr (below_tr HB3.out HC.out) s.held)).mono ?_, ?_⟩
                    · rintro e w3 ⟨he, hb⟩
                      obtain rfl : e = .returned (.string TA) := he
                      exact Kept.out hb
                    go_big_quiet_on
                    iterate 3 (go_big_quiet_step (fail))
                    go_big_quiet_want
                    go_big_quiet_op
                    refine ⟨.int .i64 (za : Int), fun s => (CZa.out (by first | rfl | trivial) s.wx (below_tr (below_tr HB3.out HC.out) s.held)).mono ?_, ?_⟩
                    · rintro e w3 ⟨he, hb⟩
                      obtain rfl : e = .returned (.int .i64 (za : Int)) := he
                      exact Kept.out hb
                    go_big_quiet_on
                    iterate 1 (go_big_quiet_step (fail))
                    go_big_quiet_want
                    go_big_quiet_op
                    refine ⟨.int .i64 (za : Int), fun s => (CZb.out (by first | rfl | trivial) s.wx (below_tr (below_tr HB3.out HC.out) s.held)).mono ?_, ?_⟩
                    · rintro e w3 ⟨he, hb⟩
                      obtain rfl : e = .returned (.int .i64 (za : Int)) := he
                      exact Kept.out hb
                    go_big_quiet_on
                    iterate 8 (go_big_quiet_step (fail))
                    refine wpQuiet_nil ?_
                    rintro wc ⟨⟨wx, ox0⟩, e⟩
                    have HC := Lib.hid (show Below W3.heap.size W3 wc from by rw [e]; exact below_tr HC.out ox0)
                    clear e ox0 Ka0 Ka1 Ka2 Ka3 Kb0 Kb1 Kb2 Kb3
                    go_wp2_with fail
                    refine (CL.out _ (below_tr HB3.out HC.out)).mono ?_
                    rintro e wl ⟨rfl, hbl⟩
                    have HF := Lib.hid (below_tr (below_tr HB3.out HC.out) hbl)
                    clear hbl
                    go_wp2_with fail
                    go_ret
                    exact ⟨rfl, HF.out⟩
                  | gt =>
                    exfalso
                    have F := FR.out
                    simp [Tri] at F
                | gt =>
                  obtain rfl : bc = 1 := Hbc.out
                  cases o3 with
                  | lt =>
                    exfalso
                    have F := FR.out
                    simp [Tri] at F
                  | eq =>
                    exfalso
                    have F := FR.out
                    simp [Tri] at F
                  | gt =>
                    obtain rfl : ac = 1 := Hac.out
                    go_upto_region 10 with fail
                    have FE := FT.out (by first | rfl | trivial) (by first | rfl | trivial) rfl
                    obtain rfl : ta = tb := by rw [FTa.out (by first | rfl | trivial), FTb.out (by first | rfl | trivial), FE.1]
                    obtain rfl : za = zb := FE.2
                    obtain ⟨TA, hTA⟩ : ∃ k, k = txt ta := ⟨_, rfl⟩
                    have CTa2 := Lib.hid (fun X hb => hTA ▸ CTa.out (by first | rfl | trivial) X hb)
                    have CTb2 := Lib.hid (fun X hb => hTA ▸ CTb.out (by first | rfl | trivial) X hb)
                    clear hTA FE
                    have Xa := HXa.out.on HC.out
                    have a0 := Xa.c0
                    have a1 := Xa.c1
                    have a2 := Xa.c2
                    have a3 := Xa.c3
                    have Xb := HXb.out.on HC.out
                    have b0 := Xb.c0
                    have b1 := Xb.c1
                    have b2 := Xb.c2
                    have b3 := Xb.c3
                    have Ka0 := fun s : Kept wc => s.cell a0
                    have Ka1 := fun s : Kept wc => s.cell a1
                    have Ka2 := fun s : Kept wc => s.cell a2
                    have Ka3 := fun s : Kept wc => s.cell a3
                    have Kb0 := fun s : Kept wc => s.cell b0
                    have Kb1 := fun s : Kept wc => s.cell b1
                    have Kb2 := fun s : Kept wc => s.cell b2
                    have Kb3 := fun s : Kept wc => s.cell b3
                    clear Xa Xb a0 a1 a2 a3 b0 b1 b2 b3
                    obtain ⟨wd, hwd⟩ : ∃ wd, wd = wc := ⟨_, rfl⟩
                    subst hwd
                    refine reg_lit (C := fun wx => ∃ s : Kept wd, wx = s.wx) (by kernel_rfl) (by kernel_rfl) ⟨⟨_, (Below.refl _ _).drew⟩, rfl⟩ ?_
                    iterate 4 (go_big_quiet_step (fail))
                    go_big_quiet_want
                    go_big_quiet_op
                    refine ⟨.string TA, fun s => (CTa2.out s.wx (below_tr (below_tr HB3.out HC.out) s.held)).mono ?_, ?_⟩
                    · rintro e w3 ⟨he, hb⟩
                      obtain rfl : e = .returned (.string TA) := he
                      exact Kept.out hb
                    go_big_quiet_on
                    iterate 1 (go_big_quiet_step (fail))
                    go_big_quiet_want
                    go_big_quiet_op
                    refine ⟨.string TA, fun s => (CTb2.out s.wx (below_tr (below_tr HB3.out HC.out) s.held)).mono ?_, ?_⟩
                    · rintro e w3 ⟨he, hb⟩
                      obtain rfl : e = .returned (.string TA) := he
                      exact Kept.out hb
                    go_big_quiet_on
                    iterate 3 (go_big_quiet_step (fail))
                    go_big_quiet_want
                    go_big_quiet_op
                    refine ⟨.int .i64 (za : Int), fun s => (CZa.out (by first | rfl | trivial) s.wx (below_tr (below_tr HB3.out HC.out) s.held)).mono ?_, ?_⟩
                    · rintro e w3 ⟨he, hb⟩
                      obtain rfl : e = .returned (.int .i64 (za : Int)) := he
                      exact Kept.out hb
                    go_big_quiet_on
                    iterate 1 (go_big_quiet_step (fail))
                    go_big_quiet_want
                    go_big_quiet_op
                    refine ⟨.int .i64 (za : Int), fun s => (CZb.out (by first | rfl | trivial) s.wx (below_tr (below_tr HB3.out HC.out) s.held)).mono ?_, ?_⟩
                    · rintro e w3 ⟨he, hb⟩
                      obtain rfl : e = .returned (.int .i64 (za : Int)) := he
                      exact Kept.out hb
                    go_big_quiet_on
                    iterate 8 (go_big_quiet_step (fail))
                    refine wpQuiet_nil ?_
                    rintro wc ⟨⟨wx, ox0⟩, e⟩
                    have HC := Lib.hid (show Below W3.heap.size W3 wc from by rw [e]; exact below_tr HC.out ox0)
                    clear e ox0 Ka0 Ka1 Ka2 Ka3 Kb0 Kb1 Kb2 Kb3
                    go_wp2_with fail
                    refine (CL.out _ (below_tr HB3.out HC.out)).mono ?_
                    rintro e wl ⟨rfl, hbl⟩
                    have HF := Lib.hid (below_tr (below_tr HB3.out HC.out) hbl)
                    clear hbl
                    go_wp2_with fail
                    go_ret
                    exact ⟨rfl, HF.out⟩
              | gt =>
                obtain rfl : ab = 1 := Hab.out
                obtain rfl : Sab = false := FS.out
                obtain ⟨KB, hKB⟩ : ∃ k, k = txt yb := ⟨_, rfl⟩
                have n1 : ¬ KA.toList = KB.toList := fun e => by have := (FK.out.2 (by first | rfl | trivial) (by first | rfl | trivial)).1 ((tl_eq hKA hKB).1 e); cases this
                have n2 : (KA.toList == KB.toList) = false := beq_eq_false_iff_ne.2 n1
                have CKa2 := Lib.hid (fun X hb => hKA ▸ CKa.out (by first | rfl | trivial) X hb)
                have CKb2 := Lib.hid (fun X hb => hKB ▸ CKb.out (by first | rfl | trivial) X hb)
                clear hKB
                clear hKA
                have Ka0 := fun s : Kept w12 => s.cell a0
                have Ka1 := fun s : Kept w12 => s.cell a1
                have Ka2 := fun s : Kept w12 => s.cell a2
                have Ka3 := fun s : Kept w12 => s.cell a3
                have Kb0 := fun s : Kept w12 => s.cell b0
                have Kb1 := fun s : Kept w12 => s.cell b1
                have Kb2 := fun s : Kept w12 => s.cell b2
                have Kb3 := fun s : Kept w12 => s.cell b3
                clear a0 a1 a2 a3 b0 b1 b2 b3 c0 c1 c2 c3
                refine reg_lit (C := fun wx => ∃ s : Kept w12, wx = s.wx) (by kernel_rfl) (by kernel_rfl) ⟨⟨_, (Below.refl _ _).drew⟩, rfl⟩ ?_
                iterate 2 (go_big_quiet_step (fail))
                go_big_quiet_want
                go_big_quiet_op
                refine ⟨.bool true, fun s => (CSaa.out (by first | rfl | trivial) (by first | rfl | trivial) s.wx (below_tr (below_tr HB3.out HC.out) s.held)).mono ?_, ?_⟩
                · rintro e w3 ⟨he, hb⟩
                  obtain rfl : e = .returned (.bool true) := he
                  exact Kept.out hb
                go_big_quiet_on
                iterate 4 (go_big_quiet_step (fail))
                go_big_quiet_want
                go_big_quiet_op
                refine ⟨.int .i64 0, fun s => (CCaa.out (by first | rfl | trivial) (by first | rfl | trivial) s.wx (below_tr (below_tr HB3.out HC.out) s.held)).mono ?_, ?_⟩
                · rintro e w3 ⟨he, hb⟩
                  obtain rfl : e = .returned (.int .i64 0) := he
                  exact Kept.out hb
                go_big_quiet_on
                iterate 5 (go_big_quiet_step (fail))
                go_big_quiet_want
                go_big_quiet_op
                refine ⟨.int .i64 (-1), fun s => (CCba.out (by first | rfl | trivial) (by first | rfl | trivial) s.wx (below_tr (below_tr HB3.out HC.out) s.held)).mono ?_, ?_⟩
                · rintro e w3 ⟨he, hb⟩
                  obtain rfl : e = .returned (.int .i64 (-1)) := he
                  exact Kept.out hb
                go_big_quiet_on
                iterate 9 (go_big_quiet_step (fail))
                go_big_quiet_want
                go_big_quiet_op
                refine ⟨.bool false, fun s => (CSab.out (by first | rfl | trivial) (by first | rfl | trivial) s.wx (below_tr (below_tr HB3.out HC.out) s.held)).mono ?_, ?_⟩
                · rintro e w3 ⟨he, hb⟩
                  obtain rfl : e = .returned (.bool false) := he
                  exact Kept.out hb
                go_big_quiet_on
                iterate 4 (go_big_quiet_step (fail))
                go_big_quiet_want
                go_big_quiet_op
                refine ⟨.string KA, fun s => (CKa2.out s.wx (below_tr (below_tr HB3.out HC.out) s.held)).mono ?_, ?_⟩
                · rintro e w3 ⟨he, hb⟩
                  obtain rfl : e = .returned (.string KA) := he
                  exact Kept.out hb
                go_big_quiet_on
                iterate 1 (go_big_quiet_step (fail))
                go_big_quiet_want
                go_big_quiet_op
                refine ⟨.string KB, fun s => (CKb2.out s.wx (below_tr (below_tr HB3.out HC.out) s.held)).mono ?_, ?_⟩
                · rintro e w3 ⟨he, hb⟩
                  obtain rfl : e = .returned (.string KB) := he
                  exact Kept.out hb
                go_big_quiet_on
                iterate 3 (go_big_quiet_step (fail))
                go_big_quiet_want
                go_big_quiet_op
                refine ⟨.bool false, fun s => (CSab.out (by first | rfl | trivial) (by first | rfl | trivial) s.wx (below_tr (below_tr HB3.out HC.out) s.held)).mono ?_, ?_⟩
                · rintro e w3 ⟨he, hb⟩
                  obtain rfl : e = .returned (.bool false) := he
                  exact Kept.out hb
                go_big_quiet_on
                iterate 4 (go_big_quiet_step (fail))
                go_big_quiet_want
                go_big_quiet_op
                refine ⟨.string KA, fun s => (CKa2.out s.wx (below_tr (below_tr HB3.out HC.out) s.held)).mono ?_, ?_⟩
                · rintro e w3 ⟨he, hb⟩
                  obtain rfl : e = .returned (.string KA) := he
                  exact Kept.out hb
                go_big_quiet_on
                iterate 2 (go_big_quiet_step (fail))
                refine wpQuiet_nil ?_
                rintro wc ⟨⟨wx, ox0⟩, e⟩
                have HC := Lib.hid (show Below W3.heap.size W3 wc from by rw [e]; exact below_tr HC.out ox0)
                clear e ox0 Ka0 Ka1 Ka2 Ka3 Kb0 Kb1 Kb2 Kb3
                clear k1 k2 k3 n1 n2
                cases o2 with
                | lt =>
                  obtain rfl : bc = -1 := Hbc.out
                  cases o3 with
                  | lt =>
                    obtain rfl : ac = -1 := Hac.out
                    go_upto_region 10 with fail
                    obtain ⟨wd, hwd⟩ : ∃ wd, wd = wc := ⟨_, rfl⟩
                    subst hwd
                    refine reg_lit (C := fun wx => ∃ s : Kept wd, wx = s.wx) (by kernel_rfl) (by kernel_rfl) ⟨⟨_, (Below.refl _ _).drew⟩, rfl⟩ ?_
                    iterate 21 (go_big_quiet_step (fail))
                    refine wpQuiet_nil ?_
                    rintro wc ⟨⟨wx, ox0⟩, e⟩
                    have HC := Lib.hid (show Below W3.heap.size W3 wc from by rw [e]; exact below_tr HC.out ox0)
                    clear e ox0 
                    go_wp2_with fail
                    refine (CL.out _ (below_tr HB3.out HC.out)).mono ?_
                    rintro e wl ⟨rfl, hbl⟩
                    have HF := Lib.hid (below_tr (below_tr HB3.out HC.out) hbl)
                    clear hbl
                    go_wp2_with fail
                    go_ret
                    exact ⟨rfl, HF.out⟩
                  | eq =>
                    obtain rfl : ac = 0 := Hac.out
                    go_upto_region 10 with fail
                    obtain ⟨wd, hwd⟩ : ∃ wd, wd = wc := ⟨_, rfl⟩
                    subst hwd
                    refine reg_lit (C := fun wx => ∃ s : Kept wd, wx = s.wx) (by kernel_rfl) (by kernel_rfl) ⟨⟨_, (Below.refl _ _).drew⟩, rfl⟩ ?_
                    iterate 21 (go_big_quiet_step (fail))
                    refine wpQuiet_nil ?_
                    rintro wc ⟨⟨wx, ox0⟩, e⟩
                    have HC := Lib.hid (show Below W3.heap.size W3 wc from by rw [e]; exact below_tr HC.out ox0)
                    clear e ox0 
                    go_wp2_with fail
                    refine (CL.out _ (below_tr HB3.out HC.out)).mono ?_
                    rintro e wl ⟨rfl, hbl⟩
                    have HF := Lib.hid (below_tr (below_tr HB3.out HC.out) hbl)
                    clear hbl
                    go_wp2_with fail
                    go_ret
                    exact ⟨rfl, HF.out⟩
                  | gt =>
                    obtain rfl : ac = 1 := Hac.out
                    go_upto_region 10 with fail
                    obtain ⟨wd, hwd⟩ : ∃ wd, wd = wc := ⟨_, rfl⟩
                    subst hwd
                    refine reg_lit (C := fun wx => ∃ s : Kept wd, wx = s.wx) (by kernel_rfl) (by kernel_rfl) ⟨⟨_, (Below.refl _ _).drew⟩, rfl⟩ ?_
                    iterate 21 (go_big_quiet_step (fail))
                    refine wpQuiet_nil ?_
                    rintro wc ⟨⟨wx, ox0⟩, e⟩
                    have HC := Lib.hid (show Below W3.heap.size W3 wc from by rw [e]; exact below_tr HC.out ox0)
                    clear e ox0 
                    go_wp2_with fail
                    refine (CL.out _ (below_tr HB3.out HC.out)).mono ?_
                    rintro e wl ⟨rfl, hbl⟩
                    have HF := Lib.hid (below_tr (below_tr HB3.out HC.out) hbl)
                    clear hbl
                    go_wp2_with fail
                    go_ret
                    exact ⟨rfl, HF.out⟩
                | eq =>
                  obtain rfl : bc = 0 := Hbc.out
                  cases o3 with
                  | lt =>
                    exfalso
                    have F := FR.out
                    simp [Tri] at F
                  | eq =>
                    exfalso
                    have F := FR.out
                    simp [Tri] at F
                  | gt =>
                    obtain rfl : ac = 1 := Hac.out
                    go_upto_region 10 with fail
                    obtain ⟨wd, hwd⟩ : ∃ wd, wd = wc := ⟨_, rfl⟩
                    subst hwd
                    refine reg_lit (C := fun wx => ∃ s : Kept wd, wx = s.wx) (by kernel_rfl) (by kernel_rfl) ⟨⟨_, (Below.refl _ _).drew⟩, rfl⟩ ?_
                    iterate 21 (go_big_quiet_step (fail))
                    refine wpQuiet_nil ?_
                    rintro wc ⟨⟨wx, ox0⟩, e⟩
                    have HC := Lib.hid (show Below W3.heap.size W3 wc from by rw [e]; exact below_tr HC.out ox0)
                    clear e ox0 
                    go_wp2_with fail
                    refine (CL.out _ (below_tr HB3.out HC.out)).mono ?_
                    rintro e wl ⟨rfl, hbl⟩
                    have HF := Lib.hid (below_tr (below_tr HB3.out HC.out) hbl)
                    clear hbl
                    go_wp2_with fail
                    go_ret
                    exact ⟨rfl, HF.out⟩
                | gt =>
                  obtain rfl : bc = 1 := Hbc.out
                  cases o3 with
                  | lt =>
                    exfalso
                    have F := FR.out
                    simp [Tri] at F
                  | eq =>
                    exfalso
                    have F := FR.out
                    simp [Tri] at F
                  | gt =>
                    obtain rfl : ac = 1 := Hac.out
                    go_upto_region 10 with fail
                    obtain ⟨wd, hwd⟩ : ∃ wd, wd = wc := ⟨_, rfl⟩
                    subst hwd
                    refine reg_lit (C := fun wx => ∃ s : Kept wd, wx = s.wx) (by kernel_rfl) (by kernel_rfl) ⟨⟨_, (Below.refl _ _).drew⟩, rfl⟩ ?_
                    iterate 21 (go_big_quiet_step (fail))
                    refine wpQuiet_nil ?_
                    rintro wc ⟨⟨wx, ox0⟩, e⟩
                    have HC := Lib.hid (show Below W3.heap.size W3 wc from by rw [e]; exact below_tr HC.out ox0)
                    clear e ox0 
                    go_wp2_with fail
                    refine (CL.out _ (below_tr HB3.out HC.out)).mono ?_
                    rintro e wl ⟨rfl, hbl⟩
                    have HF := Lib.hid (below_tr (below_tr HB3.out HC.out) hbl)
                    clear hbl
                    go_wp2_with fail
                    go_ret
                    exact ⟨rfl, HF.out⟩
end Va
end Go.Proofs.YtnnlgodgaolkkaaGreatDoor
