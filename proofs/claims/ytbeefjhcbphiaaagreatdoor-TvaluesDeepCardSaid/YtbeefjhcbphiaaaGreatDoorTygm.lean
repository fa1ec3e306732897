/- What landed of TOML's keys: Read walked. -/
import Derived.Test.YtbeefjhcbphiaaaGreatDoorHm
namespace Go.Proofs.YtbeefjhcbphiaaaGreatDoor
open Go.RowKit
namespace Ty

section
variable {w wr w9 : World} {vW vS : Value} {nw ns : Nat} {cw cs : List Value} {o : Obj}
theorem KS.keyW (h : KS w wr vW vS nw cw ns cs) (hg : (wr.alloc o).grownBy w9 vW.ownBlock) : w9.heap[w.heap.size]? = some (.cells #[vW, vS] 174) := by
  have hF := lt_of h.ft
  rw [hg.block _ (by rw [al_size]; omega) (fun e => by have := (h.ow.lt _ e.symm).1; omega), Below.heap_alloc wr o _ (by omega)]; exact h.key
theorem KS.keyS (h : KS w wr vW vS nw cw ns cs) (hg : (wr.alloc o).grownBy w9 vS.ownBlock) : w9.heap[w.heap.size]? = some (.cells #[vW, vS] 174) := by
  have hF := lt_of h.ft
  rw [hg.block _ (by rw [al_size]; omega) (fun e => by have := (h.os.lt _ e.symm).1; omega), Below.heap_alloc wr o _ (by omega)]; exact h.key
theorem below_dq {B : Nat} {a w : World} (h : Below B a w) (k : Nat) : Below B a (w.drewN k) := ⟨h.os, h.tape, h.output, h.size, h.block⟩
theorem kcell {b : Nat} {a c : Value} (h : w.heap[b]? = some (.cells #[a, c] 174)) : (w.cell? ⟨b, 0, none⟩ = some a ∧ w.cell? ⟨b, 1, none⟩ = some c) ∧ w.frozen? ⟨b, 0, none⟩ = false ∧ w.frozen? ⟨b, 1, none⟩ = false := by
  simp [World.cell?, World.frozen?, h]
end
set_option maxHeartbeats 32000000 in
set_option maxRecDepth 100000 in
theorem kread_any {l : Bs} {s : ByteArray} {wd : Nat → WR1} {V : Nat → Prop} {at_ : Nat} {R : KR} (hs : s = txt l) (hl : l.length ≤ 1000000) {w : World}
    (hW : ∀ p, V p → ∀ wx, Below w.heap.size w wx → Calls Tryz.prog 138 #[.string s, .int .i64 p] wx fun e w' => e = .returned (wrv (wd p)) ∧ Below wx.heap.size wx w')
    (hV : ∀ p t e, V p → wd p = .ok t e → p < e ∧ e ≤ l.length ∧ ∀ q, nxt l e = some q → V q) (hVl : ∀ p, V p → p ≤ l.length) (hcode : ∀ p c a, V p → wd p = .bad c a → c ≠ 0) (h0 : V at_) (hR : krun wd l (l.length + 1) at_ [] = R) :
    Calls Tryz.prog 130 #[.string s, .int .i64 at_] w (KPost w R) := by
  obtain ⟨iT, hT0, hT1, hT2, hT3⟩ := info_parts (show (Tryz.prog.info? 9).map (fun i => (i.zero, i.size, i.bytes)) = some (some (.string ⟨#[]⟩), 1, 16) by kernel_rfl)
  obtain ⟨iS, hS0, hS1, hS2, hS3⟩ := info_parts (show (Tryz.prog.info? 40).map (fun i => (i.zero, i.size, i.bytes)) = some (some (.agg #[.int .i64 0, .int .i64 0]), 2, 16) by kernel_rfl)
  obtain ⟨W, hW0⟩ : ∃ W, W = (w.alloc (.cells #[.slice none 0 0, .slice none 0 0] 174)).alloc ftO := ⟨_, rfl⟩
  have HK0 := Lib.hid (show KS w W (.slice none 0 0) (.slice none 0 0) 0 [] 0 [] by rw [hW0]; exact KS.start w)
  have HWD := Lib.hid hW
  have HV := Lib.hid hV
  have HVL := Lib.hid hVl
  have HCO := Lib.hid hcode
  have HR := Lib.hid hR
  have HV0 := Lib.hid h0
  have HSS := Lib.hid hs
  have HSZ := Lib.hid (show s.size = l.length by rw [hs, txt_size])
  have hsz : s.size ≤ 1000000 := by rw [hs, txt_size]; exact hl
  have HBL := Lib.hid (fun (wx : World) (p : Nat) (hp : p ≤ l.length) => blanks_any (s := s) (l := l) (p := p) wx hs hl hp (R := (endP blK l p : Nat)) rfl)
  have HI := Lib.hid (And.intro (And.intro hT0 (And.intro hT1 (And.intro hT2 hT3))) (And.intro hS0 (And.intro hS1 (And.intro hS2 hS3))))
  have hat := hVl _ h0
  clear hs hl hW hV hVl hcode h0 hR hT0 hT1 hT2 hT3 hS0 hS1 hS2 hS3
  go_enter Tryz.func130, Tryz.ntmps130
  go_upto_region 1 with fail
  rw [← hW0]
  clear hW0
  go_step3
  go_wp2_with fail
  go_step3
  go_wp2_with fail
  go_loopw [1] (fun a wr => ∃ (p : Nat) (k : Ky) (vW vS : Value) (f : Nat), a = .int .i64 (p : Nat) ∧ p ≤ 1000000 ∧ Hid (V p) ∧ Hid (krun wd l f p k = R) ∧ Hid (KS w wr vW vS k.length (kwC k) k.length (ksC k)) ∧ Hid (k.length ≤ p ∧ l.length + 1 ≤ f + p)) (fun a _ => 1000001 - (intOf a).toNat)
  case atStart => exact ⟨at_, [], _, _, _, rfl, by have := HSZ.out; omega, HV0, HR, HK0, Lib.hid ⟨Nat.zero_le _, by omega⟩⟩
  case round =>
    obtain ⟨p, k, vW, vS, f, rfl, hp6, HVp, HKR, HKS, HKP⟩ := hrel
    have hpl := HVL.out p HVp.out
    obtain ⟨f', rfl⟩ : ∃ f', f = f' + 1 := ⟨f - 1, by have := HKP.out; omega⟩
    have HPL := Lib.hid hpl
    clear hpl
    go_wp2_with fail
    refine (HWD.out p HVp.out _ HKS.out.below).mono ?_
    rintro e w1 ⟨he, hb1⟩
    have HKS1 := Lib.hid (HKS.out.on hb1)
    clear hb1 HKS
    cases hwd : wd p with
    | bad c a =>
      rw [hwd] at he
      simp only [wrv] at he
      subst he
      have HRB := Lib.hid (show R = .bad c a by rw [← HKR.out, krun, hwd])
      have hc0 : ¬ (c : Int) = 0 := by have := HCO.out p c a HVp.out hwd; omega
      clear hwd
      go_upto_region 3 with fail
      obtain ⟨W2, hW2⟩ : ∃ W2, W2 = w1.alloc (.cells #[.int .i64 (c : Nat), .int .i64 (a : Nat)] 28) := ⟨_, rfl⟩
      have hb2 : Below w1.heap.size w1 W2 := by rw [hW2]; exact (Below.refl _ _).alloc (Nat.le_refl _) _
      have t0 : W2.cell? ⟨w1.heap.size, 0, none⟩ = some (.int .i64 (c : Nat)) := by rw [hW2, World.cell?_alloc_at _ _ _ _ rfl]; rfl
      have t1 : W2.cell? ⟨w1.heap.size, 1, none⟩ = some (.int .i64 (a : Nat)) := by rw [hW2, World.cell?_alloc_at _ _ _ _ rfl]; rfl
      rw [← hW2]
      have HK2 := Lib.hid (HKS1.out.on hb2)
      obtain ⟨c0, c1, c2, c3⟩ := HK2.out.cells
      obtain ⟨f0, f1, f2, f3⟩ := HK2.out.free
      have hwz : w.heap.size + 1 < w1.heap.size := lt_of HKS1.out.ft
      clear hW2 hb2
      go_region
      go_wp2_with fail
      rw [Exit.noGoto_ret]
      refine bodyPost_ret (v := .tuple #[.agg #[.slice none 0 0, .slice none 0 0], .int .i64 0, .agg #[.int .i64 (c : Nat), .int .i64 (a : Nat)]]) (by simp [results, Tryz.results130, go_sem, *]) rfl ?_
      rw [HRB.out]
      refine ⟨?_, rfl⟩
      exact ((((HK2.out.below.setCell (Nat.le_refl _) _).setCell (Nat.le_refl _) _).setCell (by show w.heap.size ≤ w.heap.size + 1; omega) _).setCell (by show w.heap.size ≤ w.heap.size + 1; omega) _).drew
    | ok t e2 =>
      rw [hwd] at he
      simp only [wrv] at he
      subst he
      obtain ⟨hpe, hel, hnx⟩ := HV.out p t e2 HVp.out hwd
      have HRO := Lib.hid (show (match nxt l e2 with | none => KR.ok (k ++ [(t, (p, e2))]) e2 | some q => krun wd l f' q (k ++ [(t, (p, e2))])) = R by rw [← HKR.out, krun, hwd]; rfl)
      have HNX := Lib.hid hnx
      have HEL := Lib.hid hel
      clear hwd hnx hel
      obtain ⟨nA, nc, rfl, _⟩ := own_shape HKS1.out.ow
      obtain ⟨sA, sc, rfl, _⟩ := own_shape HKS1.out.os
      obtain ⟨kl, hkl⟩ : ∃ n, n = k.length := ⟨_, rfl⟩
      rw [← hkl] at HKS1
      have hkl6 : kl ≤ 1000000 := by have := HKP.out; omega
      have HKL := Lib.hid hkl
      clear hkl
      obtain ⟨x, hx⟩ : ∃ x, x = txt t := ⟨_, rfl⟩
      rw [← hx]
      have HX := Lib.hid hx
      clear hx
      go_upto_region 4 with fail
      obtain ⟨W2, hW2⟩ : ∃ W2, W2 = w1.alloc ftO := ⟨_, rfl⟩
      rw [← hW2]
      have HK2 := Lib.hid (show KS w W2 _ _ _ _ _ _ from HKS1.out.on (by rw [hW2]; exact (Below.refl _ _).alloc (Nat.le_refl _) _))
      clear hW2
      obtain ⟨⟨c0, c1⟩, f0, f1⟩ := kcell HK2.out.key
      obtain ⟨⟨hT0, hT1, hT2, hT3⟩, hS0, hS1, hS2, hS3⟩ := HI.out
      have hws : w.heap.size + 2 ≤ W2.heap.size := by have := lt_of HK2.out.ft; omega
      go_upto_region 5 with (at_builtin; refine wpList_append_own_at _ rfl (.tmp 24) (.tmp 26) 36 rfl (w.heap.size + 2) 9 iT (.string ⟨#[]⟩) 1 16 Tryz.underlying36 hT0 hT1 hT2 hT3 rfl (by decide) _ kl (kwC k) rfl (HK2.out.ow.alloc _) ⟨W2.heap.size, 0, none⟩ 1 1 [.string x] rfl rfl (cell_one_new _ _ _) (by intro u hu; simp at hu; subst hu; rfl) (by unfold maxLen; omega) (by omega) (by simp; omega) ?_; intro v' w9 hown9 hg9 _ hl9; obtain ⟨vA, vc, rfl, _⟩ := own_shape hown9; obtain ⟨⟨g0, g1⟩, q0, q1⟩ := kcell (HK2.out.keyW hg9))
      obtain ⟨W3, hW3⟩ : ∃ W3, W3 = w9.setCell ⟨w.heap.size, 0, none⟩ (.slice vA (kl + 1) vc) := ⟨_, rfl⟩
      rw [← hW3]
      have HK3 := Lib.hid (show KS w W3 (.slice vA (kl + 1) vc) (.slice sA kl sc) (kl + 1) (kwC k ++ [.string x]) kl (ksC k) by rw [hW3]; exact HK2.out.word hg9 hl9 hown9)
      clear hW3 hown9 hg9 hl9 g0 g1 q0 q1 c0 c1 f0 f1 hws
      obtain ⟨⟨c0, c1⟩, f0, f1⟩ := kcell HK3.out.key
      have hws : w.heap.size + 2 ≤ W3.heap.size := by have := lt_of HK3.out.ft; omega
      go_upto_region 6 with (at_builtin; refine wpList_append_own_at _ rfl (.tmp 30) (.tmp 34) 37 rfl (w.heap.size + 2) 40 iS _ 2 16 Tryz.underlying37 hS0 hS1 hS2 hS3 zcS (by decide) _ kl (ksC k) rfl (HK3.out.os.alloc _) ⟨W3.heap.size, 0, none⟩ 1 1 [.int .i64 (p : Nat), .int .i64 (e2 : Nat)] rfl rfl (cells_new _ _ rfl) (oneSpan _ _) (by unfold maxLen; omega) (by omega) (by simp; omega) ?_; intro v' w9 hown9 hg9 _ hl9; obtain ⟨vB, vd, rfl, _⟩ := own_shape hown9; obtain ⟨⟨g0, g1⟩, q0, q1⟩ := kcell (HK3.out.keyS hg9))
      obtain ⟨W4, hW4⟩ : ∃ W4, W4 = w9.setCell ⟨w.heap.size, 1, none⟩ (.slice vB (kl + 1) vd) := ⟨_, rfl⟩
      rw [← hW4]
      have HK4 := Lib.hid (show KS w W4 (.slice vA (kl + 1) vc) (.slice vB (kl + 1) vd) (kl + 1) (kwC k ++ [.string x]) (kl + 1) (ksC k ++ [.int .i64 (p : Nat), .int .i64 (e2 : Nat)]) by rw [hW4]; exact HK3.out.span hg9 hl9 hown9)
      clear hW4 hown9 hg9 hl9 g0 g1 q0 q1 c0 c1 f0 f1 hws
      obtain ⟨d, hd⟩ : ∃ d, d = endP blK l e2 := ⟨_, rfl⟩
      have hdl : d ≤ l.length := by rw [hd]; exact endP_le blK l e2 HEL.out
      have hed : e2 ≤ d := by rw [hd]; exact endP_ge blK l e2
      have HB1 := Lib.hid (HBL.out W4 e2 HEL.out)
      rw [← hd] at HB1
      have HD := Lib.hid hd
      clear hd
      go_wp2_with fail
      refine HB1.out.mono ?_
      rintro e w5 ⟨rfl, rfl⟩
      have hdsz : d ≤ s.size := by rw [HSZ.out]; exact hdl
      by_cases hdot : d < l.length ∧ bt l d = 46
      case pos =>
        obtain ⟨q, hq⟩ : ∃ q, q = endP blK l (d + 1) := ⟨_, rfl⟩
        have hnx : nxt l e2 = some q := by unfold nxt; rw [← HD.out, if_pos hdot, hq]
        have hR2 := HRO.out
        rw [hnx] at hR2
        have hVq := HNX.out q hnx
        have HB2 := HBL.out W4 (d + 1) (by omega)
        rw [← hq, show ((d + 1 : Nat) : Int) = (d : Int) + 1 by omega] at HB2
        have HBB := Lib.hid HB2
        have hq6 : d + 1 ≤ q ∧ q ≤ l.length := by rw [hq]; exact ⟨endP_ge _ _ _, endP_le _ _ _ (by omega)⟩
        have HFI := Lib.hid (show V q ∧ krun wd l f' q (k ++ [(t, (p, e2))]) = R ∧ KS w W4 (.slice vA (kl + 1) vc) (.slice vB (kl + 1) vd) (k ++ [(t, (p, e2))]).length (kwC (k ++ [(t, (p, e2))])) (k ++ [(t, (p, e2))]).length (ksC (k ++ [(t, (p, e2))])) from ⟨hVq, hR2, by
          have e1 : (k ++ [(t, (p, e2))]).length = kl + 1 := by rw [List.length_append, HKL.out]; rfl
          have e3 : kwC (k ++ [(t, (p, e2))]) = kwC k ++ [.string x] := by rw [HX.out]; simp [kwC]
          have e4 : ksC (k ++ [(t, (p, e2))]) = ksC k ++ [.int .i64 (p : Nat), .int .i64 (e2 : Nat)] := by simp [ksC]
          rw [e1, e3, e4]; exact HK4.out⟩)
        have HLN := Lib.hid (show (k ++ [(t, (p, e2))]).length ≤ q ∧ l.length + 1 ≤ f' + q by
          have := HKP.out
          rw [List.length_append]
          show k.length + 1 ≤ q ∧ _
          omega)
        have hqs : q ≤ 1000000 ∧ p < q := by have := HSZ.out; omega
        have hds : d < s.size := by rw [HSZ.out]; exact hdot.1
        have hx := txt_at HSS.out (k := d)
        rw [hdot.2] at hx
        clear hdot hnx hR2 hVq hq HB2 hq6 hdl HKR HKS1
        go_wp2_with fail
        refine HBB.out.mono ?_
        rintro e w5 ⟨rfl, rfl⟩
        go_wp2_with fail
        refine ⟨⟨q, _, _, _, f', rfl, hqs.1, Lib.hid HFI.out.1, Lib.hid HFI.out.2.1, Lib.hid HFI.out.2.2, HLN⟩, ?_⟩
        simp [intOf] <;> omega
      case neg =>
        have hnx : nxt l e2 = none := by unfold nxt; rw [← HD.out, if_neg hdot]
        have hR2 := HRO.out
        rw [hnx] at hR2
        have HR2 := Lib.hid (show R = KR.ok (k ++ [(t, (p, e2))]) e2 from hR2.symm)
        have HDOT := Lib.hid hdot
        clear hnx hR2 hdot hdl
        go_upto_region 8 with fail
        go_cut [41] from 11 to 55 (fun v wx => v = .bool false ∧ W4 = wx)
        case first =>
          by_cases hds : d < s.size
          · have hx := txt_at HSS.out (k := d)
            obtain ⟨y, hy⟩ : ∃ y, y = bt l d := ⟨_, rfl⟩
            rw [← hy] at hx
            have hy2 : (y == 46) = false := by
              rw [beq_eq_false_iff_ne]; intro e; exact HDOT.out ⟨by rw [← HSZ.out]; exact hds, by rw [← hy]; exact e⟩
            clear hy
            go_wp2_with fail
            go_meet
            exact ⟨rfl, rfl⟩
          · obtain rfl : d = s.size := by omega
            go_wp2_with fail
            go_meet
            exact ⟨rfl, rfl⟩
        case rest =>
          obtain ⟨rfl, rfl⟩ := hcut
          obtain ⟨⟨c0, c1⟩, f0, f1⟩ := kcell HK4.out.key
          obtain ⟨_, _, c2, c3⟩ := HK4.out.cells
          obtain ⟨_, _, f2, f3⟩ := HK4.out.free
          have hm1 : kl + 1 ≤ vc ∧ vc ≤ maxLen := by
            obtain ⟨_, _, q, h1, h2⟩ := own_shape HK4.out.ow
            rw [(Value.slice.inj q).2.2]
            exact ⟨h1, h2⟩
          have hm2 : kl + 1 ≤ vd ∧ vd ≤ maxLen := by
            obtain ⟨_, _, q, h1, h2⟩ := own_shape HK4.out.os
            rw [(Value.slice.inj q).2.2]
            exact ⟨h1, h2⟩
          have CL0 := Lib.hid (fun w => clipT_any vA (kl + 1) vc w hm1.1 hm1.2)
          have CL1 := Lib.hid (fun w => clipS_any vB (kl + 1) vd w hm2.1 hm2.2)
          clear hm1 hm2
          go_upto_region 10 with fail
          go_cut [62] from 56 to 63 (fun _ wx => ∃ nq, wx = ((W4.setCell ⟨w.heap.size, 0, none⟩ (.slice vA (kl + 1) (kl + 1))).setCell ⟨w.heap.size, 1, none⟩ (.slice vB (kl + 1) (kl + 1))).drewN nq)
          case first =>
            clear HNX HV HVL HCO HBL HI HRO HWD HK0 HV0 HKR HKS1 HB1
            go_region_with (first
              | (go_at_call 49; refine (CL0.out _).mono ?_; rintro e w' ⟨rfl, rfl⟩)
              | (go_at_call 50; refine (CL1.out _).mono ?_; rintro e w' ⟨rfl, rfl⟩))
            all_goals
              go_wp2_with fail
              go_meet
              exact ⟨1, rfl⟩
          case rest =>
            obtain ⟨nq, hwx⟩ := hcut
            have hk4 : (W4.setCell ⟨w.heap.size, 0, none⟩ (.slice vA (kl + 1) (kl + 1))).heap[w.heap.size]? = some (.cells #[.slice vA (kl + 1) (kl + 1), .slice vB (kl + 1) vd] 174) := heap_setCell_same _ _ _ _ _ _ HK4.out.key
            have hk5 : wc.heap[w.heap.size]? = some (.cells #[.slice vA (kl + 1) (kl + 1), .slice vB (kl + 1) (kl + 1)] 174) := by
              rw [hwx]; exact heap_setCell_same _ _ _ _ _ _ hk4
            have hoth : ∀ b, b ≠ w.heap.size → wc.heap[b]? = W4.heap[b]? := fun b hb => by
              rw [hwx]; show ((W4.setCell _ _).setCell _ _).heap[b]? = _
              rw [heap_setCell_other _ _ _ _ (by exact hb), heap_setCell_other _ _ _ _ (by exact hb)]
            have hf5 : wc.heap[w.heap.size + 1]? = some ftO := by rw [hoth _ (by omega)]; exact HK4.out.ft
            have hb5 : Below w.heap.size w wc := by
              rw [hwx]; exact below_dq ((HK4.out.below.setCell (Nat.le_refl _) _).setCell (Nat.le_refl _) _) nq
            have HOW := Lib.hid (own_keep (w' := wc) HK4.out.ow fun b hb => hoth b (by have := (HK4.out.ow.lt b hb).1; omega))
            have HOS := Lib.hid (own_keep (w' := wc) HK4.out.os fun b hb => hoth b (by have := (HK4.out.os.lt b hb).1; omega))
            have HB5 := Lib.hid hb5
            obtain ⟨⟨c0, c1⟩, f0, f1⟩ := kcell hk5
            have c2 : wc.cell? ⟨w.heap.size + 1, 0, none⟩ = some (.int .i64 0) := by rw [cell_of_row _ _ _ _ _ _ hf5]; rfl
            have c3 : wc.cell? ⟨w.heap.size + 1, 1, none⟩ = some (.int .i64 0) := by rw [cell_of_row _ _ _ _ _ _ hf5]; rfl
            have f2 : wc.frozen? ⟨w.heap.size + 1, 0, none⟩ = false := by simp [World.frozen?, hf5]
            have f3 : wc.frozen? ⟨w.heap.size + 1, 1, none⟩ = false := by simp [World.frozen?, hf5]
            clear hk4 hk5 hoth hf5 hb5 hwx
            go_wp2_with fail
            rw [Exit.noGoto_ret]
            refine bodyPost_ret (v := .tuple #[.agg #[.slice vA (kl + 1) (kl + 1), .slice vB (kl + 1) (kl + 1)], .int .i64 e2, .agg #[.int .i64 0, .int .i64 0]]) (by simp [results, Tryz.results130, go_sem, *]) rfl ?_
            rw [HR2.out]
            have e1 : (k ++ [(t, (p, e2))]).length = kl + 1 := by rw [List.length_append, HKL.out]; rfl
            have e3 : kwC (k ++ [(t, (p, e2))]) = kwC k ++ [.string x] := by rw [HX.out]; simp [kwC]
            have e4 : ksC (k ++ [(t, (p, e2))]) = ksC k ++ [.int .i64 (p : Nat), .int .i64 (e2 : Nat)] := by simp [ksC]
            refine ⟨(((HB5.out.setCell (Nat.le_refl _) _).setCell (Nat.le_refl _) _).setCell (by show w.heap.size ≤ w.heap.size + 1; omega) _).setCell (by show w.heap.size ≤ w.heap.size + 1; omega) _, vA, vB, vc, vd, by rw [e1], ?_, ?_⟩
            · rw [e1, e3]
              exact own_keep HOW.out fun b hb => by
                have := (HOW.out.lt b hb).1
                rw [heap_setCell_other _ _ _ _ (by show b ≠ w.heap.size + 1; omega), heap_setCell_other _ _ _ _ (by show b ≠ w.heap.size + 1; omega), heap_setCell_other _ _ _ _ (by show b ≠ w.heap.size; omega), heap_setCell_other _ _ _ _ (by show b ≠ w.heap.size; omega)]
            · rw [e1, e4]
              exact own_keep HOS.out fun b hb => by
                have := (HOS.out.lt b hb).1
                rw [heap_setCell_other _ _ _ _ (by show b ≠ w.heap.size + 1; omega), heap_setCell_other _ _ _ _ (by show b ≠ w.heap.size + 1; omega), heap_setCell_other _ _ _ _ (by show b ≠ w.heap.size; omega), heap_setCell_other _ _ _ _ (by show b ≠ w.heap.size; omega)]
end Ty
end Go.Proofs.YtbeefjhcbphiaaaGreatDoor
