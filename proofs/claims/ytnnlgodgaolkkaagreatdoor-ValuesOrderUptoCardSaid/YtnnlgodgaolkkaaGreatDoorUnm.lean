/- The law ValuesAny, walked, over what landed. -/
import Derived.Test.YtnnlgodgaolkkaaGreatDoorUhm
import Derived.Test.YtnnlgodgaolkkaaGreatDoorUem
import Derived.Test.YtnnlgodgaolkkaaGreatDoorHq
namespace Go.Proofs.YtnnlgodgaolkkaaGreatDoor
open Go.RowKit
namespace Va
set_option maxRecDepth 100000

theorem iM_eq (x : V) (n : Nat) : iM (may x) n = ((if may x = true then n else 0 : Nat) : Int) := by unfold iM; cases may x <;> rfl
theorem gt_wt (x : V) (s : Bs) : wt ((gt x s).getD (.mk 0 [] [] [])) ≤ wt x := by
  obtain ⟨k, t, l, ks⟩ := x
  have h1 : wt (.mk 0 [] [] []) ≤ wt (.mk k t l ks) := by have := wt_pos (.mk k t l ks); simp [wt, kw, wtL] at this ⊢; omega
  rw [gt]
  split
  · cases hf : fnd ks s with
    | none => exact h1
    | some i =>
      show wt ((l[i]?).getD _) ≤ _
      cases hl : l[i]? with
      | none => exact h1
      | some y => exact Nat.le_of_lt (wt_sub hl)
  · exact h1
theorem ch_below {a b c : World} {ok : Nat → Prop} (h1 : Below a.heap.size a b) (h2 : Ch ok b c) (ho : ∀ g, ok g → a.heap.size ≤ g) : Below a.heap.size a c :=
  ⟨h2.os.trans h1.os, h2.tape.trans h1.tape, h2.output.trans h1.output, Nat.le_trans h1.size h2.size, fun k hk => (h2.block k (Nat.lt_of_lt_of_le hk h1.size) (fun e => by have := ho k e; omega)).trans (h1.block k hk)⟩
set_option maxHeartbeats 64000000 in
set_option maxRecDepth 100000 in
theorem anyL_any {Lo : Nat} {Tb : World → Prop} {κ : V → Bs} (L : Ld Lo Tb κ) (w : World) (hT : Tb w) {x y : V} {v u : Value} {s : Bs} {Y : ByteArray} (hv : Vm w v x) (hu : Vm w u y) (hx : wt x ≤ 1048576) (hy : wt y ≤ 1048576) (hs : Y = txt s) (hY : Y.size ≤ 1048576) :
    Calls Tryz.prog 3 #[v, u, .string Y] w fun e w' => e = .returned (.bool true) ∧ Below w.heap.size w w' := by
  have HL := Lib.hid L
  have HT := Lib.hid hT
  clear L hT
  have CL := Lib.hid (fun (X : World) (hb : Below w.heap.size w X) => lives_any HL.out X (HL.out.up HT.out hb))
  have HVa := Lib.hid hv
  have HVb := Lib.hid hu
  have HS := Lib.hid hs
  have CGa := Lib.hid (fun (X : World) (hb : Below w.heap.size w X) => great_any X (by omega) (hv.on hb))
  have CWa := Lib.hid (fun (hg : decide (1500 < wt x) = false) (X : World) (hb : Below w.heap.size w X) => twin_any 1000000 x (by have := of_decide_eq_false hg; omega) (Nat.le_refl _) X _ (hv.on hb))
  obtain ⟨Ga, hGa⟩ : ∃ g, g = decide (1500 < wt x) := ⟨_, rfl⟩
  have HGa := Lib.hid hGa
  rw [← hGa] at CGa CWa
  obtain ⟨ka, Aa, Ba, na, ca, ma, da, Ta, rfl⟩ : ∃ (k : Nat) (A B : Option Addr) (n c m d : Nat) (T : ByteArray), v = .agg #[.int .u8 k, .string T, .slice A n c, .slice B m d] := by
    obtain ⟨k, t, A, B, n, c, m, d, e⟩ := vshape hv
    exact ⟨k, A, B, n, c, m, d, t, e⟩
  have CGb := Lib.hid (fun (X : World) (hb : Below w.heap.size w X) => great_any X (by omega) (hu.on hb))
  have CWb := Lib.hid (fun (hg : decide (1500 < wt y) = false) (X : World) (hb : Below w.heap.size w X) => twin_any 1000000 y (by have := of_decide_eq_false hg; omega) (Nat.le_refl _) X _ (hu.on hb))
  obtain ⟨Gb, hGb⟩ : ∃ g, g = decide (1500 < wt y) := ⟨_, rfl⟩
  have HGb := Lib.hid hGb
  rw [← hGb] at CGb CWb
  obtain ⟨kb, Ab, Bb, nb, cb, mb, db, Tb, rfl⟩ : ∃ (k : Nat) (A B : Option Addr) (n c m d : Nat) (T : ByteArray), u = .agg #[.int .u8 k, .string T, .slice A n c, .slice B m d] := by
    obtain ⟨k, t, A, B, n, c, m, d, e⟩ := vshape hu
    exact ⟨k, A, B, n, c, m, d, t, e⟩
  clear hv hu hs hGa hGb hx hy
  obtain ⟨W1, hW1⟩ : ∃ W, W = w.alloc (vO (.int .u8 ka) (.string Ta) (.slice Aa na ca) (.slice Ba ma da)) := ⟨_, rfl⟩
  obtain ⟨W2, hW2⟩ : ∃ W, W = W1.alloc (vO (.int .u8 kb) (.string Tb) (.slice Ab nb cb) (.slice Bb mb db)) := ⟨_, rfl⟩
  have hb1 : Below w.heap.size w W1 := by rw [hW1]; exact below_new ..
  have hb2 : Below W1.heap.size W1 W2 := by rw [hW2]; exact below_new ..
  have HXa := Lib.hid (show Bx W2 w.heap.size (.int .u8 ka) (.string Ta) (.slice Aa na ca) (.slice Ba ma da) from (show Bx W1 w.heap.size (.int .u8 ka) (.string Ta) (.slice Aa na ca) (.slice Ba ma da) from by rw [hW1]; exact Bx.new ..).on hb2)
  have HXb := Lib.hid (show Bx W2 W1.heap.size (.int .u8 kb) (.string Tb) (.slice Ab nb cb) (.slice Bb mb db) from by rw [hW2]; exact Bx.new ..)
  have HB2 := Lib.hid (below_tr hb1 hb2)
  have HS1 := Lib.hid (show w.heap.size + 1 = W1.heap.size by rw [hW1]; show _ = (w.heap.push _).size; rw [Array.size_push])
  have HW1 := Lib.hid hW1
  have HW2 := Lib.hid hW2
  clear hW1 hW2 hb1 hb2
  go_enter Tryz.func3, Tryz.ntmps3
  go_upto_region 1 with fail
  rw [← HW1.out, ← HW2.out]
  obtain ⟨gb, hgb⟩ : ∃ h, h = w.heap.size + 1 := ⟨_, rfl⟩
  obtain ⟨ga, hga⟩ : ∃ h, h = w.heap.size := ⟨_, rfl⟩
  rw [← HS1.out, ← hgb] at HXb
  rw [← hga] at HXa
  rw [← hgb, ← hga]
  clear HW1 HW2 HS1 hgb hga
  have HC := Lib.hid (Below.refl W2.heap.size W2)
  have Xa := HXa.out.on HC.out
  have a0 := Xa.c0
  have a1 := Xa.c1
  have a2 := Xa.c2
  have a3 := Xa.c3
  clear Xa
  have Xb := HXb.out.on HC.out
  have b0 := Xb.c0
  have b1 := Xb.c1
  have b2 := Xb.c2
  have b3 := Xb.c3
  clear Xb
  go_wp2_with fail
  refine (CGa.out _ (below_tr HB2.out HC.out)).mono ?_
  rintro e w3 ⟨he, hb⟩
  have he : e = .returned (.bool Ga) := he
  subst he
  have HC := Lib.hid (below_tr HC.out hb)
  clear hb a0 a1 a2 a3 b0 b1 b2 b3
  have Xa := HXa.out.on HC.out
  have a0 := Xa.c0
  have a1 := Xa.c1
  have a2 := Xa.c2
  have a3 := Xa.c3
  clear Xa
  have Xb := HXb.out.on HC.out
  have b0 := Xb.c0
  have b1 := Xb.c1
  have b2 := Xb.c2
  have b3 := Xb.c3
  clear Xb
  cases Ga with
  | true =>
    go_wp2_with fail
    refine (CL.out _ (below_tr HB2.out HC.out)).mono ?_
    rintro e wl ⟨rfl, hbl⟩
    have HF := Lib.hid (below_tr (below_tr HB2.out HC.out) hbl)
    clear hbl
    go_wp2_with fail
    go_ret
    exact ⟨rfl, HF.out⟩
  | false =>
    go_wp2_with fail
    refine (CGb.out _ (below_tr HB2.out HC.out)).mono ?_
    rintro e w4 ⟨he, hb⟩
    have he : e = .returned (.bool Gb) := he
    subst he
    have HC := Lib.hid (below_tr HC.out hb)
    clear hb a0 a1 a2 a3 b0 b1 b2 b3
    have Xa := HXa.out.on HC.out
    have a0 := Xa.c0
    have a1 := Xa.c1
    have a2 := Xa.c2
    have a3 := Xa.c3
    clear Xa
    have Xb := HXb.out.on HC.out
    have b0 := Xb.c0
    have b1 := Xb.c1
    have b2 := Xb.c2
    have b3 := Xb.c3
    clear Xb
    cases Gb with
    | true =>
      go_wp2_with fail
      refine (CL.out _ (below_tr HB2.out HC.out)).mono ?_
      rintro e wl ⟨rfl, hbl⟩
      have HF := Lib.hid (below_tr (below_tr HB2.out HC.out) hbl)
      clear hbl
      go_wp2_with fail
      go_ret
      exact ⟨rfl, HF.out⟩
    | false =>
      by_cases hlen : (1000 : Int) < (Y.size : Int)
      · skip
        go_wp2_with fail
        refine (CL.out _ (below_tr HB2.out HC.out)).mono ?_
        rintro e wl ⟨rfl, hbl⟩
        have HF := Lib.hid (below_tr (below_tr HB2.out HC.out) hbl)
        clear hbl
        go_wp2_with fail
        go_ret
        exact ⟨rfl, HF.out⟩
      have HWa := Lib.hid (show wt x ≤ 1500 from by have := of_decide_eq_false HGa.out.symm; omega)
      have HWb := Lib.hid (show wt y ≤ 1500 from by have := of_decide_eq_false HGb.out.symm; omega)
      go_wp2_with fail
      refine (CWa.out (by first | rfl | trivial) _ (below_tr HB2.out HC.out)).mono ?_
      rintro e w6 ⟨⟨tv, rfl, ht⟩, hb⟩
      obtain ⟨kat, Tat, Aat, Bat, nat, cat, mat, dat, rfl⟩ := ht.shape
      have HBn := Lib.hid hb
      have HVta := Lib.hid (ht.to (ok' := fun _ => True) fun _ _ _ => trivial)
      clear hb ht a0 a1 a2 a3 b0 b1 b2 b3
      go_upto_region 4 with fail
      obtain ⟨Wta, hWt⟩ : ∃ W, W = w6.alloc (vO (.int .u8 kat) (.string Tat) (.slice Aat nat cat) (.slice Bat mat dat)) := ⟨_, rfl⟩
      rw [← hWt]
      have hnw : Below w6.heap.size w6 Wta := by rw [hWt]; exact below_new ..
      have HXta := Lib.hid (show Bx Wta w6.heap.size (.int .u8 kat) (.string Tat) (.slice Aat nat cat) (.slice Bat mat dat) from by rw [hWt]; exact Bx.new ..)
      have HVta := Lib.hid (HVta.out.on hnw)
      have HBn := Lib.hid (below_tr HBn.out hnw)
      have HC := Lib.hid (below_tr HC.out HBn.out)
      obtain ⟨gat, hgat⟩ : ∃ h, h = w6.heap.size := ⟨_, rfl⟩
      rw [← hgat] at HXta ⊢
      clear hWt hnw hgat
      clear HBn
      have Xa := HXa.out.on HC.out
      have a0 := Xa.c0
      have a1 := Xa.c1
      have a2 := Xa.c2
      have a3 := Xa.c3
      clear Xa
      have Xb := HXb.out.on HC.out
      have b0 := Xb.c0
      have b1 := Xb.c1
      have b2 := Xb.c2
      have b3 := Xb.c3
      clear Xb
      go_wp2_with fail
      refine (CWb.out (by first | rfl | trivial) _ (below_tr HB2.out HC.out)).mono ?_
      rintro e w7 ⟨⟨tv, rfl, ht⟩, hb⟩
      obtain ⟨kbt, Tbt, Abt, Bbt, nbt, cbt, mbt, dbt, rfl⟩ := ht.shape
      have HBn := Lib.hid hb
      have HVtb := Lib.hid (ht.to (ok' := fun _ => True) fun _ _ _ => trivial)
      clear hb ht a0 a1 a2 a3 b0 b1 b2 b3
      go_upto_region 5 with fail
      obtain ⟨Wtb, hWt⟩ : ∃ W, W = w7.alloc (vO (.int .u8 kbt) (.string Tbt) (.slice Abt nbt cbt) (.slice Bbt mbt dbt)) := ⟨_, rfl⟩
      rw [← hWt]
      have hnw : Below w7.heap.size w7 Wtb := by rw [hWt]; exact below_new ..
      have HXtb := Lib.hid (show Bx Wtb w7.heap.size (.int .u8 kbt) (.string Tbt) (.slice Abt nbt cbt) (.slice Bbt mbt dbt) from by rw [hWt]; exact Bx.new ..)
      have HVtb := Lib.hid (HVtb.out.on hnw)
      have HBn := Lib.hid (below_tr HBn.out hnw)
      have HC := Lib.hid (below_tr HC.out HBn.out)
      obtain ⟨gbt, hgbt⟩ : ∃ h, h = w7.heap.size := ⟨_, rfl⟩
      rw [← hgbt] at HXtb ⊢
      clear hWt hnw hgbt
      have HXta := Lib.hid (HXta.out.on HBn.out)
      have HVta := Lib.hid (HVta.out.on HBn.out)
      clear HBn
      have HB7 := Lib.hid (below_tr HB2.out HC.out)
      have HXa := Lib.hid (HXa.out.on HC.out)
      have HXb := Lib.hid (HXb.out.on HC.out)
      have HVa := Lib.hid (HVa.out.on HB7.out)
      have HVb := Lib.hid (HVb.out.on HB7.out)
      clear HC
      have UP := Lib.hid (fun (X : World) (h : Below Wtb.heap.size Wtb X) => HL.out.up HT.out (below_tr HB7.out h))
      obtain ⟨Ma, hMa⟩ : ∃ g, g = may x := ⟨_, rfl⟩
      obtain ⟨Mb, hMb⟩ : ∃ g, g = may y := ⟨_, rfl⟩
      obtain ⟨S, hS⟩ : ∃ g, g = (may x && may y && sm x y) := ⟨_, rfl⟩
      obtain ⟨C, hC⟩ : ∃ g, g = cI (may x) (may y) (oI (cmpV (can x) (can y))) := ⟨_, rfl⟩
      obtain ⟨Z, hZ⟩ : ∃ g, g = iM (may x) (sz x) := ⟨_, rfl⟩
      obtain ⟨De, hDe⟩ : ∃ g, g = iM (may x) (dp x) := ⟨_, rfl⟩
      obtain ⟨TX, hTX⟩ : ∃ g, g = txt (teM x) := ⟨_, rfl⟩
      obtain ⟨KA, hKA⟩ : ∃ g, g = txt (κ x) := ⟨_, rfl⟩
      obtain ⟨KB, hKB⟩ : ∃ g, g = txt (κ y) := ⟨_, rfl⟩
      have lMay := Lib.hid (fun (X : World) (h : Below Wtb.heap.size Wtb X) => by have := HL.out.may X (UP.out X h) (HVta.out.vm.on h) (by have := HWa.out; omega); rw [← hMa] at this; exact this)
      have lMayB := Lib.hid (fun (X : World) (h : Below Wtb.heap.size Wtb X) => by have := HL.out.may X (UP.out X h) (HVtb.out.vm.on h) (by have := HWb.out; omega); rw [← hMb] at this; exact this)
      have rMay := Lib.hid (fun (X : World) (h : Below Wtb.heap.size Wtb X) => by have := rmay_any X (by have := HWa.out; omega) (HVa.out.on h); rw [← hMa] at this; exact this)
      have lSame := Lib.hid (fun (X : World) (h : Below Wtb.heap.size Wtb X) => by have := HL.out.same X (UP.out X h) (HVta.out.vm.on h) (HVtb.out.vm.on h) (by have := HWa.out; omega) (by have := HWb.out; omega); rw [← hS] at this; exact this)
      have rSame := Lib.hid (fun (X : World) (h : Below Wtb.heap.size Wtb X) => by have := rSame_any X (by have := HWa.out; omega) (by have := HWb.out; omega) (HVa.out.on h) (HVb.out.on h); rw [← hS] at this; exact this)
      have lCmp := Lib.hid (fun (X : World) (h : Below Wtb.heap.size Wtb X) => by have := HL.out.cmp X (UP.out X h) (HVta.out.vm.on h) (HVtb.out.vm.on h) (by have := HWa.out; omega) (by have := HWb.out; omega); rw [← hC] at this; exact this)
      have rCmp := Lib.hid (fun (X : World) (h : Below Wtb.heap.size Wtb X) => by have := rCmp_any X (by have := HWa.out; omega) (by have := HWb.out; omega) (HVa.out.on h) (HVb.out.on h); rw [← hC] at this; exact this)
      have lSize := Lib.hid (fun (X : World) (h : Below Wtb.heap.size Wtb X) => by have := HL.out.size X (UP.out X h) (HVta.out.vm.on h) (by have := HWa.out; omega); rw [← hZ] at this; exact this)
      have rSize := Lib.hid (fun (X : World) (h : Below Wtb.heap.size Wtb X) => by have := rSize_any 1000000 x (by have := HWa.out; omega) (by omega) X _ (HVa.out.on h); rw [← iM_eq, ← hZ] at this; exact this)
      have lDeep := Lib.hid (fun (X : World) (h : Below Wtb.heap.size Wtb X) => by have := HL.out.deep X (UP.out X h) (HVta.out.vm.on h) (by have := HWa.out; omega); rw [← hDe] at this; exact this)
      have rDeep := Lib.hid (fun (X : World) (h : Below Wtb.heap.size Wtb X) => by have := rDeep_any X (by have := HWa.out; omega) (HVa.out.on h); rw [← iM_eq, ← hDe] at this; exact this)
      have lText := Lib.hid (fun (X : World) (h : Below Wtb.heap.size Wtb X) => by have := HL.out.text X (UP.out X h) (HVta.out.vm.on h) (by have := HWa.out; omega); rw [← hTX] at this; exact this)
      have rText := Lib.hid (fun (X : World) (h : Below Wtb.heap.size Wtb X) => by have := rText_any X (by have := HWa.out; omega) (HVa.out.on h); rw [← hTX] at this; exact this)
      have lKey := Lib.hid (fun (X : World) (h : Below Wtb.heap.size Wtb X) => by have := HL.out.key X (UP.out X h) (HVta.out.vm.on h) (by have := HWa.out; omega); rw [← hKA] at this; exact this)
      have lKeyB := Lib.hid (fun (X : World) (h : Below Wtb.heap.size Wtb X) => by have := HL.out.key X (UP.out X h) (HVtb.out.vm.on h) (by have := HWb.out; omega); rw [← hKB] at this; exact this)
      have FKa := Lib.hid (show Ma = false → KA = ⟨#[]⟩ from fun h => by rw [hKA, HL.out.kno (hMa ▸ h)]; rfl)
      have FKb := Lib.hid (show Ma = true → KA.toList ≠ [] from fun h e => HL.out.kyes (hMa ▸ h) (by have e2 := congrArg List.length e; rw [hKA, Lib.toList_data] at e2; simpa [txt] using e2))
      have FKe := Lib.hid (show KA.toList = KB.toList → KA = KB from fun e => by have e2 := (tl_eq hKA hKB).1 e; rw [hKA, hKB, e2])
      have FKc := Lib.hid (show Ma = true → Mb = true → (KA.toList = KB.toList ↔ S = true) from fun h1 h2 => by
        have h1' : may x = true := hMa ▸ h1
        have h2' : may y = true := hMb ▸ h2
        rw [tl_eq hKA hKB, HL.out.kone h1' h2', hS, h1', h2']; simp)
      clear hMa hMb hS hC hZ hDe hTX hKA hKB
      go_cut [72] from 29 to 72 (fun a wx => a = .bool false ∧ Hid (Below Wtb.heap.size Wtb wx))
      case first =>
        have Xa := HXa.out
        have Ka0 := fun s : Kept Wtb => s.cell Xa.c0
        have Ka1 := fun s : Kept Wtb => s.cell Xa.c1
        have Ka2 := fun s : Kept Wtb => s.cell Xa.c2
        have Ka3 := fun s : Kept Wtb => s.cell Xa.c3
        clear Xa
        have Xb := HXb.out
        have Kb0 := fun s : Kept Wtb => s.cell Xb.c0
        have Kb1 := fun s : Kept Wtb => s.cell Xb.c1
        have Kb2 := fun s : Kept Wtb => s.cell Xb.c2
        have Kb3 := fun s : Kept Wtb => s.cell Xb.c3
        clear Xb
        have Xta := HXta.out
        have Kta0 := fun s : Kept Wtb => s.cell Xta.c0
        have Kta1 := fun s : Kept Wtb => s.cell Xta.c1
        have Kta2 := fun s : Kept Wtb => s.cell Xta.c2
        have Kta3 := fun s : Kept Wtb => s.cell Xta.c3
        clear Xta
        have Xtb := HXtb.out
        have Ktb0 := fun s : Kept Wtb => s.cell Xtb.c0
        have Ktb1 := fun s : Kept Wtb => s.cell Xtb.c1
        have Ktb2 := fun s : Kept Wtb => s.cell Xtb.c2
        have Ktb3 := fun s : Kept Wtb => s.cell Xtb.c3
        clear Xtb
        refine reg_lit (C := fun wx => ∃ s : Kept Wtb, wx = s.wx) (by kernel_rfl) (by kernel_rfl) ⟨⟨_, (Below.refl _ _).drew⟩, rfl⟩ ?_
        iterate 1 (go_big_quiet_step (fail))
        go_big_quiet_want
        go_big_quiet_op
        refine ⟨.bool Ma, fun s => (lMay.out s.wx s.held).mono ?_, ?_⟩
        · rintro e w3 ⟨he, hb⟩
          obtain rfl : e = .returned (.bool Ma) := he
          exact Kept.out hb
        go_big_quiet_on
        iterate 1 (go_big_quiet_step (fail))
        go_big_quiet_want
        go_big_quiet_op
        refine ⟨.bool Ma, fun s => (rMay.out s.wx s.held).mono ?_, ?_⟩
        · rintro e w3 ⟨he, hb⟩
          obtain rfl : e = .returned (.bool Ma) := he
          exact Kept.out hb
        go_big_quiet_on
        iterate 4 (go_big_quiet_step (fail))
        go_big_quiet_want
        go_big_quiet_op
        refine ⟨.bool S, fun s => (lSame.out s.wx s.held).mono ?_, ?_⟩
        · rintro e w3 ⟨he, hb⟩
          obtain rfl : e = .returned (.bool S) := he
          exact Kept.out hb
        go_big_quiet_on
        iterate 2 (go_big_quiet_step (fail))
        go_big_quiet_want
        go_big_quiet_op
        refine ⟨.bool S, fun s => (rSame.out s.wx s.held).mono ?_, ?_⟩
        · rintro e w3 ⟨he, hb⟩
          obtain rfl : e = .returned (.bool S) := he
          exact Kept.out hb
        go_big_quiet_on
        iterate 5 (go_big_quiet_step (fail))
        go_big_quiet_want
        go_big_quiet_op
        refine ⟨.int .i64 C, fun s => (lCmp.out s.wx s.held).mono ?_, ?_⟩
        · rintro e w3 ⟨he, hb⟩
          obtain rfl : e = .returned (.int .i64 C) := he
          exact Kept.out hb
        go_big_quiet_on
        iterate 2 (go_big_quiet_step (fail))
        go_big_quiet_want
        go_big_quiet_op
        refine ⟨.int .i64 C, fun s => (rCmp.out s.wx s.held).mono ?_, ?_⟩
        · rintro e w3 ⟨he, hb⟩
          obtain rfl : e = .returned (.int .i64 C) := he
          exact Kept.out hb
        go_big_quiet_on
        iterate 4 (go_big_quiet_step (fail))
        go_big_quiet_want
        go_big_quiet_op
        refine ⟨.int .i64 Z, fun s => (lSize.out s.wx s.held).mono ?_, ?_⟩
        · rintro e w3 ⟨he, hb⟩
          obtain rfl : e = .returned (.int .i64 Z) := he
          exact Kept.out hb
        go_big_quiet_on
        iterate 1 (go_big_quiet_step (fail))
        go_big_quiet_want
        go_big_quiet_op
        refine ⟨.int .i64 Z, fun s => (rSize.out s.wx s.held).mono ?_, ?_⟩
        · rintro e w3 ⟨he, hb⟩
          obtain rfl : e = .returned (.int .i64 Z) := he
          exact Kept.out hb
        go_big_quiet_on
        iterate 4 (go_big_quiet_step (fail))
        go_big_quiet_want
        go_big_quiet_op
        refine ⟨.int .i64 De, fun s => (lDeep.out s.wx s.held).mono ?_, ?_⟩
        · rintro e w3 ⟨he, hb⟩
          obtain rfl : e = .returned (.int .i64 De) := he
          exact Kept.out hb
        go_big_quiet_on
        iterate 1 (go_big_quiet_step (fail))
        go_big_quiet_want
        go_big_quiet_op
        refine ⟨.int .i64 De, fun s => (rDeep.out s.wx s.held).mono ?_, ?_⟩
        · rintro e w3 ⟨he, hb⟩
          obtain rfl : e = .returned (.int .i64 De) := he
          exact Kept.out hb
        go_big_quiet_on
        iterate 4 (go_big_quiet_step (fail))
        go_big_quiet_want
        go_big_quiet_op
        refine ⟨.string TX, fun s => (lText.out s.wx s.held).mono ?_, ?_⟩
        · rintro e w3 ⟨he, hb⟩
          obtain rfl : e = .returned (.string TX) := he
          exact Kept.out hb
        go_big_quiet_on
        iterate 1 (go_big_quiet_step (fail))
        go_big_quiet_want
        go_big_quiet_op
        refine ⟨.string TX, fun s => (rText.out s.wx s.held).mono ?_, ?_⟩
        · rintro e w3 ⟨he, hb⟩
          obtain rfl : e = .returned (.string TX) := he
          exact Kept.out hb
        go_big_quiet_on
        iterate 2 (go_big_quiet_step (fail))
        refine wpQuiet_nil ?_
        rintro w8 ⟨⟨wx, ox0⟩, e⟩
        have HC8 := Lib.hid (show Below Wtb.heap.size Wtb w8 from by rw [e]; exact ox0)
        clear e ox0 Ka0 Ka1 Ka2 Ka3 Kb0 Kb1 Kb2 Kb3 Kta0 Kta1 Kta2 Kta3 Ktb0 Ktb1 Ktb2 Ktb3
        try go_wp2_with fail
        go_meet
        exact ⟨rfl, HC8⟩
      case rest =>
        obtain ⟨rfl, HC8⟩ := hcut
        obtain ⟨w8, hw8⟩ : ∃ w8, w8 = wc := ⟨_, rfl⟩
        subst hw8
        go_upto_region 7 with fail
        go_cut [97] from 73 to 97 (fun a wx => a = .bool false ∧ Hid (Below w8.heap.size w8 wx))
        case first =>
          have Xa := HXa.out.on HC8.out
          have Ka0 := fun s : Kept w8 => s.cell Xa.c0
          have Ka1 := fun s : Kept w8 => s.cell Xa.c1
          have Ka2 := fun s : Kept w8 => s.cell Xa.c2
          have Ka3 := fun s : Kept w8 => s.cell Xa.c3
          clear Xa
          have Xb := HXb.out.on HC8.out
          have Kb0 := fun s : Kept w8 => s.cell Xb.c0
          have Kb1 := fun s : Kept w8 => s.cell Xb.c1
          have Kb2 := fun s : Kept w8 => s.cell Xb.c2
          have Kb3 := fun s : Kept w8 => s.cell Xb.c3
          clear Xb
          have Xta := HXta.out.on HC8.out
          have Kta0 := fun s : Kept w8 => s.cell Xta.c0
          have Kta1 := fun s : Kept w8 => s.cell Xta.c1
          have Kta2 := fun s : Kept w8 => s.cell Xta.c2
          have Kta3 := fun s : Kept w8 => s.cell Xta.c3
          clear Xta
          have Xtb := HXtb.out.on HC8.out
          have Ktb0 := fun s : Kept w8 => s.cell Xtb.c0
          have Ktb1 := fun s : Kept w8 => s.cell Xtb.c1
          have Ktb2 := fun s : Kept w8 => s.cell Xtb.c2
          have Ktb3 := fun s : Kept w8 => s.cell Xtb.c3
          clear Xtb
          cases Ma with
          | false =>
            obtain rfl : KA = ⟨#[]⟩ := FKa.out rfl
            refine reg_lit (C := fun wx => ∃ s : Kept w8, wx = s.wx) (by kernel_rfl) (by kernel_rfl) ⟨⟨_, (Below.refl _ _).drew⟩, rfl⟩ ?_
            iterate 1 (go_big_quiet_step (fail))
            go_big_quiet_want
            go_big_quiet_op
            refine ⟨.string ⟨#[]⟩, fun s => (lKey.out s.wx (below_tr HC8.out s.held)).mono ?_, ?_⟩
            · rintro e w3 ⟨he, hb⟩
              obtain rfl : e = .returned (.string ⟨#[]⟩) := he
              exact Kept.out hb
            go_big_quiet_on
            iterate 2 (go_big_quiet_step (fail))
            go_big_quiet_want
            go_big_quiet_op
            refine ⟨.bool false, fun s => (rMay.out s.wx (below_tr HC8.out s.held)).mono ?_, ?_⟩
            · rintro e w3 ⟨he, hb⟩
              obtain rfl : e = .returned (.bool false) := he
              exact Kept.out hb
            go_big_quiet_on
            iterate 3 (go_big_quiet_step (fail))
            go_big_quiet_want
            go_big_quiet_op
            refine ⟨.bool false, fun s => (lMay.out s.wx (below_tr HC8.out s.held)).mono ?_, ?_⟩
            · rintro e w3 ⟨he, hb⟩
              obtain rfl : e = .returned (.bool false) := he
              exact Kept.out hb
            go_big_quiet_on
            iterate 16 (go_big_quiet_step (fail))
            refine wpQuiet_nil ?_
            rintro w9 ⟨⟨wx, ox0⟩, e⟩
            have HC9 := Lib.hid (show Below w8.heap.size w8 w9 from by rw [e]; exact ox0)
            clear e ox0 Ka0 Ka1 Ka2 Ka3 Kb0 Kb1 Kb2 Kb3 Kta0 Kta1 Kta2 Kta3 Ktb0 Ktb1 Ktb2 Ktb3
            try go_wp2_with fail
            go_meet
            exact ⟨rfl, HC9⟩
          | true =>
            have k1 : ¬ KA.toList = [] := FKb.out rfl
            have k2 : (KA.toList == ([] : List UInt8)) = false := beq_eq_false_iff_ne.2 k1
            have k3 : (KA.toList != ([] : List UInt8)) = true := bne_iff_ne.2 k1
            have k4 : KA.toList.isEmpty = false := by cases h : KA.toList with | nil => exact absurd h k1 | cons => rfl
            cases Mb with
            | false =>
              refine reg_lit (C := fun wx => ∃ s : Kept w8, wx = s.wx) (by kernel_rfl) (by kernel_rfl) ⟨⟨_, (Below.refl _ _).drew⟩, rfl⟩ ?_
              iterate 1 (go_big_quiet_step (fail))
              go_big_quiet_want
              go_big_quiet_op
              refine ⟨.string KA, fun s => (lKey.out s.wx (below_tr HC8.out s.held)).mono ?_, ?_⟩
              · rintro e w3 ⟨he, hb⟩
                obtain rfl : e = .returned (.string KA) := he
                exact Kept.out hb
              go_big_quiet_on
              iterate 2 (go_big_quiet_step (fail))
              go_big_quiet_want
              go_big_quiet_op
              refine ⟨.bool true, fun s => (rMay.out s.wx (below_tr HC8.out s.held)).mono ?_, ?_⟩
              · rintro e w3 ⟨he, hb⟩
                obtain rfl : e = .returned (.bool true) := he
                exact Kept.out hb
              go_big_quiet_on
              iterate 3 (go_big_quiet_step (fail))
              go_big_quiet_want
              go_big_quiet_op
              refine ⟨.bool true, fun s => (lMay.out s.wx (below_tr HC8.out s.held)).mono ?_, ?_⟩
              · rintro e w3 ⟨he, hb⟩
                obtain rfl : e = .returned (.bool true) := he
                exact Kept.out hb
              go_big_quiet_on
              iterate 2 (go_big_quiet_step (fail))
              go_big_quiet_want
              go_big_quiet_op
              refine ⟨.bool false, fun s => (lMayB.out s.wx (below_tr HC8.out s.held)).mono ?_, ?_⟩
              · rintro e w3 ⟨he, hb⟩
                obtain rfl : e = .returned (.bool false) := he
                exact Kept.out hb
              go_big_quiet_on
              iterate 13 (go_big_quiet_step (fail))
              refine wpQuiet_nil ?_
              rintro w9 ⟨⟨wx, ox0⟩, e⟩
              have HC9 := Lib.hid (show Below w8.heap.size w8 w9 from by rw [e]; exact ox0)
              clear e ox0 Ka0 Ka1 Ka2 Ka3 Kb0 Kb1 Kb2 Kb3 Kta0 Kta1 Kta2 Kta3 Ktb0 Ktb1 Ktb2 Ktb3
              try go_wp2_with fail
              go_meet
              exact ⟨rfl, HC9⟩
            | true =>
              cases S with
              | true =>
                obtain rfl : KA = KB := FKe.out ((FKc.out rfl rfl).2 rfl)
                refine reg_lit (C := fun wx => ∃ s : Kept w8, wx = s.wx) (by kernel_rfl) (by kernel_rfl) ⟨⟨_, (Below.refl _ _).drew⟩, rfl⟩ ?_
                iterate 1 (go_big_quiet_step (fail))
                go_big_quiet_want
                go_big_quiet_op
                refine ⟨.string KA, fun s => (lKey.out s.wx (below_tr HC8.out s.held)).mono ?_, ?_⟩
                · rintro e w3 ⟨he, hb⟩
                  obtain rfl : e = .returned (.string KA) := he
                  exact Kept.out hb
                go_big_quiet_on
                iterate 2 (go_big_quiet_step (fail))
                go_big_quiet_want
                go_big_quiet_op
                refine ⟨.bool true, fun s => (rMay.out s.wx (below_tr HC8.out s.held)).mono ?_, ?_⟩
                · rintro e w3 ⟨he, hb⟩
                  obtain rfl : e = .returned (.bool true) := he
                  exact Kept.out hb
                go_big_quiet_on
                iterate 3 (go_big_quiet_step (fail))
                go_big_quiet_want
                go_big_quiet_op
                refine ⟨.bool true, fun s => (lMay.out s.wx (below_tr HC8.out s.held)).mono ?_, ?_⟩
                · rintro e w3 ⟨he, hb⟩
                  obtain rfl : e = .returned (.bool true) := he
                  exact Kept.out hb
                go_big_quiet_on
                iterate 2 (go_big_quiet_step (fail))
                go_big_quiet_want
                go_big_quiet_op
                refine ⟨.bool true, fun s => (lMayB.out s.wx (below_tr HC8.out s.held)).mono ?_, ?_⟩
                · rintro e w3 ⟨he, hb⟩
                  obtain rfl : e = .returned (.bool true) := he
                  exact Kept.out hb
                go_big_quiet_on
                iterate 3 (go_big_quiet_step (fail))
                go_big_quiet_want
                go_big_quiet_op
                refine ⟨.string KA, fun s => (lKey.out s.wx (below_tr HC8.out s.held)).mono ?_, ?_⟩
                · rintro e w3 ⟨he, hb⟩
                  obtain rfl : e = .returned (.string KA) := he
                  exact Kept.out hb
                go_big_quiet_on
                iterate 1 (go_big_quiet_step (fail))
                go_big_quiet_want
                go_big_quiet_op
                refine ⟨.string KA, fun s => (lKeyB.out s.wx (below_tr HC8.out s.held)).mono ?_, ?_⟩
                · rintro e w3 ⟨he, hb⟩
                  obtain rfl : e = .returned (.string KA) := he
                  exact Kept.out hb
                go_big_quiet_on
                iterate 3 (go_big_quiet_step (fail))
                go_big_quiet_want
                go_big_quiet_op
                refine ⟨.bool true, fun s => (rSame.out s.wx (below_tr HC8.out s.held)).mono ?_, ?_⟩
                · rintro e w3 ⟨he, hb⟩
                  obtain rfl : e = .returned (.bool true) := he
                  exact Kept.out hb
                go_big_quiet_on
                iterate 3 (go_big_quiet_step (fail))
                refine wpQuiet_nil ?_
                rintro w9 ⟨⟨wx, ox0⟩, e⟩
                have HC9 := Lib.hid (show Below w8.heap.size w8 w9 from by rw [e]; exact ox0)
                clear e ox0 Ka0 Ka1 Ka2 Ka3 Kb0 Kb1 Kb2 Kb3 Kta0 Kta1 Kta2 Kta3 Ktb0 Ktb1 Ktb2 Ktb3
                try go_wp2_with fail
                go_meet
                exact ⟨rfl, HC9⟩
              | false =>
                have n1 : ¬ KA.toList = KB.toList := fun e => by have := (FKc.out rfl rfl).1 e; cases this
                have n2 : (KA.toList == KB.toList) = false := beq_eq_false_iff_ne.2 n1
                refine reg_lit (C := fun wx => ∃ s : Kept w8, wx = s.wx) (by kernel_rfl) (by kernel_rfl) ⟨⟨_, (Below.refl _ _).drew⟩, rfl⟩ ?_
                iterate 1 (go_big_quiet_step (fail))
                go_big_quiet_want
                go_big_quiet_op
                refine ⟨.string KA, fun s => (lKey.out s.wx (below_tr HC8.out s.held)).mono ?_, ?_⟩
                · rintro e w3 ⟨he, hb⟩
                  obtain rfl : e = .returned (.string KA) := he
                  exact Kept.out hb
                go_big_quiet_on
                iterate 2 (go_big_quiet_step (fail))
                go_big_quiet_want
                go_big_quiet_op
                refine ⟨.bool true, fun s => (rMay.out s.wx (below_tr HC8.out s.held)).mono ?_, ?_⟩
                · rintro e w3 ⟨he, hb⟩
                  obtain rfl : e = .returned (.bool true) := he
                  exact Kept.out hb
                go_big_quiet_on
                iterate 3 (go_big_quiet_step (fail))
                go_big_quiet_want
                go_big_quiet_op
                refine ⟨.bool true, fun s => (lMay.out s.wx (below_tr HC8.out s.held)).mono ?_, ?_⟩
                · rintro e w3 ⟨he, hb⟩
                  obtain rfl : e = .returned (.bool true) := he
                  exact Kept.out hb
                go_big_quiet_on
                iterate 2 (go_big_quiet_step (fail))
                go_big_quiet_want
                go_big_quiet_op
                refine ⟨.bool true, fun s => (lMayB.out s.wx (below_tr HC8.out s.held)).mono ?_, ?_⟩
                · rintro e w3 ⟨he, hb⟩
                  obtain rfl : e = .returned (.bool true) := he
                  exact Kept.out hb
                go_big_quiet_on
                iterate 3 (go_big_quiet_step (fail))
                go_big_quiet_want
                go_big_quiet_op
                refine ⟨.string KA, fun s => (lKey.out s.wx (below_tr HC8.out s.held)).mono ?_, ?_⟩
                · rintro e w3 ⟨he, hb⟩
                  obtain rfl : e = .returned (.string KA) := he
                  exact Kept.out hb
                go_big_quiet_on
                iterate 1 (go_big_quiet_step (fail))
                go_big_quiet_want
                go_big_quiet_op
                refine ⟨.string KB, fun s => (lKeyB.out s.wx (below_tr HC8.out s.held)).mono ?_, ?_⟩
                · rintro e w3 ⟨he, hb⟩
                  obtain rfl : e = .returned (.string KB) := he
                  exact Kept.out hb
                go_big_quiet_on
                iterate 3 (go_big_quiet_step (fail))
                go_big_quiet_want
                go_big_quiet_op
                refine ⟨.bool false, fun s => (rSame.out s.wx (below_tr HC8.out s.held)).mono ?_, ?_⟩
                · rintro e w3 ⟨he, hb⟩
                  obtain rfl : e = .returned (.bool false) := he
                  exact Kept.out hb
                go_big_quiet_on
                iterate 3 (go_big_quiet_step (fail))
                refine wpQuiet_nil ?_
                rintro w9 ⟨⟨wx, ox0⟩, e⟩
                have HC9 := Lib.hid (show Below w8.heap.size w8 w9 from by rw [e]; exact ox0)
                clear e ox0 Ka0 Ka1 Ka2 Ka3 Kb0 Kb1 Kb2 Kb3 Kta0 Kta1 Kta2 Kta3 Ktb0 Ktb1 Ktb2 Ktb3
                try go_wp2_with fail
                go_meet
                exact ⟨rfl, HC9⟩
        case rest =>
          obtain ⟨rfl, HC9⟩ := hcut
          obtain ⟨w9, hw9⟩ : ∃ w9, w9 = wc := ⟨_, rfl⟩
          subst hw9
          clear lMay lMayB rMay lSame rSame lCmp rCmp lSize rSize lDeep rDeep lText rText lKey lKeyB FKa FKb FKc FKe
          have H9 := Lib.hid (below_tr HC8.out HC9.out)
          have HXa := Lib.hid (HXa.out.on H9.out)
          have HXb := Lib.hid (HXb.out.on H9.out)
          have HXta := Lib.hid (HXta.out.on H9.out)
          have HXtb := Lib.hid (HXtb.out.on H9.out)
          have HVa := Lib.hid (HVa.out.on H9.out)
          have HVb := Lib.hid (HVb.out.on H9.out)
          have HVta := Lib.hid (HVta.out.on H9.out)
          have HVtb := Lib.hid (HVtb.out.on H9.out)
          have HB9 := Lib.hid (below_tr HB7.out H9.out)
          obtain ⟨Is, hIs⟩ : ∃ b, b = (gt x s).isSome := ⟨_, rfl⟩
          have CGet := Lib.hid (HL.out.get (s := s) (S := Y) w9 (UP.out _ H9.out) HVta.out.vm (by have := HWa.out; omega) HS.out)
          have CRet := Lib.hid (fun (X : World) (h : Below w9.heap.size w9 X) => rget_any (x := x) (key := s) (s := Y) X (by have := HWa.out; omega) (HVa.out.on h) HS.out)
          rw [← hIs] at CGet CRet
          have HGW := Lib.hid (show wt ((gt x s).getD (.mk 0 [] [] [])) ≤ 1000000000000 from by have := gt_wt x s; have := HWa.out; omega)
          have HXa9 := HXa
          have HXta9 := HXta
          have HVa9 := HVa
          have HVta9 := HVta
          clear hIs HC8 HC9
          have Xta := HXta.out
          have ta0 := Xta.c0
          have ta1 := Xta.c1
          have ta2 := Xta.c2
          have ta3 := Xta.c3
          clear Xta
          go_wp2_with fail
          refine CGet.out.mono ?_
          rintro e w10 ⟨⟨ug, rfl, hug, N, okg, hvp, hok⟩, hb⟩
          obtain ⟨kg, Tg, Ag, Bg, ng, cg, mg, dg, rfl⟩ : ∃ (k : Nat) (T : ByteArray) (A B : Option Addr) (n c m d : Nat), ug = .agg #[.int .u8 k, .string T, .slice A n c, .slice B m d] := by
            obtain ⟨k, t, A, B, n, c, m, d, e⟩ := vshape hug
            exact ⟨k, t, A, B, n, c, m, d, e⟩
          go_upto_region 10 with fail
          obtain ⟨W10, hW10⟩ : ∃ W, W = w10.alloc (vO (.int .u8 kg) (.string Tg) (.slice Ag ng cg) (.slice Bg mg dg)) := ⟨_, rfl⟩
          rw [← hW10]
          have hn10 : Below w10.heap.size w10 W10 := by rw [hW10]; exact below_new ..
          have HXg := Lib.hid (show Bx W10 w10.heap.size (.int .u8 kg) (.string Tg) (.slice Ag ng cg) (.slice Bg mg dg) from by rw [hW10]; exact Bx.new ..)
          have H10 := Lib.hid (below_tr hb hn10)
          have HUG := Lib.hid (hug.on hn10)
          have HVP := Lib.hid (hvp.keep (fun q _ hlt => hn10.block q hlt) hn10.size)
          have HOK := Lib.hid hok
          obtain ⟨gg, hgg⟩ : ∃ h, h = w10.heap.size := ⟨_, rfl⟩
          rw [← hgg] at HXg ⊢
          clear hW10 hn10 hgg hb hug hvp hok CGet ta0 ta1 ta2 ta3
          have Xa := HXa.out.on H10.out
          have a0 := Xa.c0
          have a1 := Xa.c1
          have a2 := Xa.c2
          have a3 := Xa.c3
          clear Xa
          go_wp2_with fail
          refine (CRet.out _ H10.out).mono ?_
          rintro e w11 ⟨⟨ur, rfl, hur⟩, hb⟩
          obtain ⟨kr, Tr, Ar, Br, nr, cr, mr, dr, rfl⟩ : ∃ (k : Nat) (T : ByteArray) (A B : Option Addr) (n c m d : Nat), ur = .agg #[.int .u8 k, .string T, .slice A n c, .slice B m d] := by
            obtain ⟨k, t, A, B, n, c, m, d, e⟩ := vshape hur
            exact ⟨k, t, A, B, n, c, m, d, e⟩
          go_upto_region 11 with fail
          obtain ⟨W11, hW11⟩ : ∃ W, W = w11.alloc (vO (.int .u8 kr) (.string Tr) (.slice Ar nr cr) (.slice Br mr dr)) := ⟨_, rfl⟩
          rw [← hW11]
          have hn11 : Below w11.heap.size w11 W11 := by rw [hW11]; exact below_new ..
          have HXr := Lib.hid (show Bx W11 w11.heap.size (.int .u8 kr) (.string Tr) (.slice Ar nr cr) (.slice Br mr dr) from by rw [hW11]; exact Bx.new ..)
          have hbb := below_tr hb hn11
          have H11 := Lib.hid (below_tr H10.out hbb)
          have HUR := Lib.hid (hur.on hn11)
          have HUG := Lib.hid (HUG.out.on hbb)
          have HXg := Lib.hid (HXg.out.on hbb)
          have HVP := Lib.hid (HVP.out.keep (fun q _ hlt => hbb.block q hlt) hbb.size)
          obtain ⟨gr, hgr⟩ : ∃ h, h = w11.heap.size := ⟨_, rfl⟩
          rw [← hgr] at HXr ⊢
          clear hW11 hn11 hgr hb hbb hur CRet a0 a1 a2 a3
          have HXa := Lib.hid (HXa.out.on H11.out)
          have HXb := Lib.hid (HXb.out.on H11.out)
          have HXta := Lib.hid (HXta.out.on H11.out)
          have HXtb := Lib.hid (HXtb.out.on H11.out)
          have HVa := Lib.hid (HVa.out.on H11.out)
          have HVb := Lib.hid (HVb.out.on H11.out)
          have HVta := Lib.hid (HVta.out.on H11.out)
          have HVtb := Lib.hid (HVtb.out.on H11.out)
          have HD := Lib.hid (Below.refl W11.heap.size W11)
          have CLike := Lib.hid (like_any 1000000000000 _ HGW.out (Nat.le_refl _) W11 _ _ HUG.out HUR.out)
          have CLa := Lib.hid (fun (X : World) (h : Below W11.heap.size W11 X) => left_any 1000000000000 x (by have := HWa.out; omega) (Nat.le_refl _) X (fun _ => True) _ _ (HVta.out.on h) (HVa.out.on h))
          have CLb := Lib.hid (fun (X : World) (h : Below W11.heap.size W11 X) => left_any 1000000000000 y (by have := HWb.out; omega) (Nat.le_refl _) X (fun _ => True) _ _ (HVtb.out.on h) (HVb.out.on h))
          have Xg := HXg.out.on HD.out
          have g0 := Xg.c0
          have g1 := Xg.c1
          have g2 := Xg.c2
          have g3 := Xg.c3
          clear Xg
          have Xr := HXr.out.on HD.out
          have r0 := Xr.c0
          have r1 := Xr.c1
          have r2 := Xr.c2
          have r3 := Xr.c3
          clear Xr
          go_wp2_with fail
          refine (CLike.out).mono ?_
          rintro e w12 ⟨rfl, hb⟩
          have HD := Lib.hid (below_tr HD.out hb)
          clear hb g0 g1 g2 g3 r0 r1 r2 r3
          have Xta := HXta.out.on HD.out
          have ta0 := Xta.c0
          have ta1 := Xta.c1
          have ta2 := Xta.c2
          have ta3 := Xta.c3
          clear Xta
          have Xa := HXa.out.on HD.out
          have a0 := Xa.c0
          have a1 := Xa.c1
          have a2 := Xa.c2
          have a3 := Xa.c3
          clear Xa
          go_wp2_with fail
          refine (CLa.out _ HD.out).mono ?_
          rintro e w13 ⟨rfl, hb⟩
          have HD := Lib.hid (below_tr HD.out hb)
          clear hb ta0 ta1 ta2 ta3 a0 a1 a2 a3
          have Xtb := HXtb.out.on HD.out
          have tb0 := Xtb.c0
          have tb1 := Xtb.c1
          have tb2 := Xtb.c2
          have tb3 := Xtb.c3
          clear Xtb
          have Xb := HXb.out.on HD.out
          have b0 := Xb.c0
          have b1 := Xb.c1
          have b2 := Xb.c2
          have b3 := Xb.c3
          clear Xb
          go_wp2_with fail
          refine (CLb.out _ HD.out).mono ?_
          rintro e w14 ⟨rfl, hb⟩
          have HD := Lib.hid (below_tr HD.out hb)
          clear hb tb0 tb1 tb2 tb3 b0 b1 b2 b3
          have Xg := HXg.out.on HD.out
          have g0 := Xg.c0
          have g1 := Xg.c1
          have g2 := Xg.c2
          have g3 := Xg.c3
          clear Xg
          have HVP := Lib.hid (HVP.out.keep (fun q _ hlt => HD.out.block q hlt) HD.out.size)
          go_wp2_with fail
          refine (spoil_any N w14 okg _ HVP.out).mono ?_
          rintro e w15 ⟨rfl, hch⟩
          have H15 := Lib.hid (ch_below (below_tr H11.out HD.out) hch HOK.out)
          have HXa := Lib.hid (HXa9.out.on H15.out)
          have HXta := Lib.hid (HXta9.out.on H15.out)
          have CLz := Lib.hid (left_any 1000000000000 x (by have := HWa.out; omega) (Nat.le_refl _) w15 (fun _ => True) _ _ (HVta9.out.on H15.out) (HVa9.out.on H15.out))
          clear hch g0 g1 g2 g3
          have Xa := HXa.out
          have a0 := Xa.c0
          have a1 := Xa.c1
          have a2 := Xa.c2
          have a3 := Xa.c3
          clear Xa
          have Xta := HXta.out
          have ta0 := Xta.c0
          have ta1 := Xta.c1
          have ta2 := Xta.c2
          have ta3 := Xta.c3
          clear Xta
          go_wp2_with fail
          refine CLz.out.mono ?_
          rintro e w16 ⟨rfl, hb⟩
          have H16 := Lib.hid (below_tr (below_tr HB9.out H15.out) hb)
          clear hb a0 a1 a2 a3 ta0 ta1 ta2 ta3
          go_wp2_with fail
          refine (CL.out _ H16.out).mono ?_
          rintro e wl ⟨rfl, hbl⟩
          have HF := Lib.hid (below_tr H16.out hbl)
          clear hbl
          go_wp2_with fail
          go_ret
          exact ⟨rfl, HF.out⟩
end Va
end Go.Proofs.YtnnlgodgaolkkaaGreatDoor
