/- What landed of values: a value's text (inarch/values.plain), put behind others. -/
import Derived.Test.YtnnlgodgaolkkaaGreatDoorHk
import Derived.Test.YtnnlgodgaolkkaaGreatDoorLnm
import Derived.Deep.RegionHeldLaw
namespace Go.Proofs.YtnnlgodgaolkkaaGreatDoor
open Go.RowKit
namespace Va
set_option maxRecDepth 100000

set_option maxHeartbeats 16000000 in
theorem put_any : ∀ (N : Nat) (x : V), wt x ≤ N → N ≤ 1000000 → pl x = true → ∀ (base : Nat) (w : World) (b v : Value) (t0 : Bs), Vb base w v x → BW base w b t0 → TB base w → t0.length + (teW plF x).length + 1 ≤ 900000000 →
    Calls Tryz.prog 63 #[.func (.func 39) #[] #[], b, v] w fun e w' => ∃ b', e = .returned b' ∧ BW base w' b' (t0 ++ teW plF x) ∧ BG w w' b b'
  | 0, x, hx, _, _, _, _, _, _, _, _, _, _, _ => by have := wt_pos x; omega
  | N + 1, .mk k t l ks, hx, hN, hpl, base, w, b, v, t0, hv, hb, hT, hlen => by
    obtain ⟨i0, hi, hz0, hz1, hz2⟩ := info_parts (show (Tryz.prog.info? 5).map (fun i => (i.zero, i.size, i.bytes)) = some (some (.int .u8 0), 1, 1) by kernel_rfl)
    have IH := Lib.hid (fun (i : Nat) (x : V) (hi : l[i]? = some x) (base : Nat) (w : World) (b v : Value) (t0 : Bs) (h1 : Vb base w v x) (h2 : BW base w b t0) (h3 : TB base w) (h4 : t0.length + (teW plF x).length + 1 ≤ 900000000) =>
      put_any N x (by have := wt_sub (k := k) (t := t) (ks := ks) hi; omega) (by omega) (by rw [pl, Bool.and_eq_true] at hpl; exact plL_get hpl.2 hi) base w b v t0 h1 h2 h3 h4)
    have HPL := Lib.hid (show (k = 8 → ks.length = l.length) ∧ ks.Nodup from by
      rw [pl, Bool.and_eq_true] at hpl
      have := of_decide_eq_true hpl.1
      exact ⟨this.2.2.2.2.1, this.2.2.2.2.2⟩)
    have HLN := Lib.hid (show l.length ≤ 1000000 ∧ ks.length ≤ 1000000 ∧ ∀ s ∈ ks, s.length ≤ 1000000 from by
      have h1 := wtL_len l
      rw [wt] at hx
      refine ⟨by omega, by omega, fun s hs => ?_⟩
      obtain ⟨i, hi, e⟩ := List.getElem_of_mem hs
      have h2 := kw_drop (ks := ks) (i := i) (t := s) (by rw [List.getElem?_eq_getElem hi, e])
      have h3 := kw_app (ks.take i) (ks.drop i)
      rw [List.take_append_drop] at h3
      omega)
    have HTW := Lib.hid (show teW plF (.mk k t l ks) = if k = 7 then 91 :: ((cms (l.map (teW plF))).drop 1 ++ [93]) else if k = 8 then 123 :: ((cms ((ord ks ks.length).map fun j => ent (ks.getD j []) ((teWL plF l).getD j []))).drop 1 ++ [125]) else plF k t from by rw [teW, teWL_map])
    obtain ⟨Y, hY⟩ : ∃ Y, Y = teW plF (.mk k t l ks) := ⟨_, rfl⟩
    rw [← hY] at HTW hlen ⊢
    have HV := Lib.hid hv
    have CL := Lib.hid (fun (w' : World) (h : Below base w w') => show Calls Tryz.prog 39 #[v] w' fun e w'' => e = .returned (.string (txt (plF k t))) ∧ Below w'.heap.size w' w'' from plainL_any w' (Vb.on hv h).vm (hT.on h) (by omega))
    have CE := Lib.hid (fun (h8 : k = 8) (w' : World) (h : Below base w w') => show Calls Tryz.prog 55 #[v] w' fun e w2 => (∃ A c, e = .returned (.slice A ks.length c) ∧ Er w2 (fun g => g < base) A (entL l ks)) ∧ Below w'.heap.size w' w2 from by subst h8; exact entries_any w' (Vb.on hv h) (HPL.out.1 rfl) HPL.out.2 HLN.out.2.1)
    obtain ⟨A, B, c, d, rfl, hk, hV, _⟩ := hv.invo
    have HVR := Lib.hid hV
    obtain ⟨T, hTT⟩ : ∃ T, T = txt t := ⟨_, rfl⟩
    obtain ⟨n, HN⟩ : ∃ n, Hid (n = l.length) := ⟨_, Lib.hid rfl⟩
    obtain ⟨m, HM⟩ : ∃ m, Hid (m = ks.length) := ⟨_, Lib.hid rfl⟩
    rw [← HN.out, ← HM.out, ← hTT] at CL CE
    rw [← HN.out, ← HM.out, ← hTT]
    have HB := Lib.hid hb
    have HT := Lib.hid hT
    have HL := Lib.hid hlen
    clear hV hv hTT hb hT hlen hY hx hN hpl HV
    obtain ⟨W1, hW1⟩ : ∃ W, W = w.alloc (vO (.int .u8 k) (.string T) (.slice A n c) (.slice B m d)) := ⟨_, rfl⟩
    have hb1 : Below w.heap.size w W1 := by rw [hW1]; exact below_new ..
    have HO := Lib.hid (show W1.heap[w.heap.size]? = some (vO (.int .u8 k) (.string T) (.slice A n c) (.slice B m d)) from by rw [hW1]; exact heap_alloc_new ..)
    have HB1 := Lib.hid hb1
    have HW1 := Lib.hid hW1
    have HBB := Lib.hid (HB.out.on hb1)
    have HBL := Lib.hid (show Below base w W1 from below_b hb1 HB.out.2)
    clear hb1 hW1
    go_enter Tryz.func63, Tryz.ntmps63
    go_upto_region 1 with fail
    rw [← HW1.out]
    obtain ⟨h, hh⟩ : ∃ h, h = w.heap.size := ⟨_, rfl⟩
    rw [← hh] at HO ⊢
    have X := vcells5 HO.out
    have x0 := X.1
    have x2 := X.2.2.1
    clear HW1 hh
    by_cases h7 : k = 7
    · subst h7
      have HY7 := Lib.hid (show Y = 91 :: ((cms (l.map (teW plF))).drop 1 ++ [93]) from by rw [HTW.out, if_pos rfl])
      have X3 := Lib.hid X.2.2.1
      clear X CE CL HTW
      go_upto_region 3 with fail
      have BX := Lib.hid (fun (X : World) (hb : Below W1.heap.size W1 X) => HBB.out.on hb)
      have OX := Lib.hid (fun (X Y : World) (b' : Value) (h1 : X.heap[h]? = some (vO (.int .u8 (7 : Nat)) (.string T) (.slice A n c) (.slice B m d))) (h2 : BW base X b t0) (h3 : BG X Y b b') => h2.keepB h3 h1)
      have x3 := X3.out
      have OA := Lib.hid (fun (X : World) (hb : Below W1.heap.size W1 X) => show X.heap[h]? = some (vO (.int .u8 (7 : Nat)) (.string T) (.slice A n c) (.slice B m d)) from (hb.block h (Array.getElem?_eq_some_iff.1 HO.out).1).trans HO.out)
      have XA := Lib.hid (fun (X : World) (hb : Below W1.heap.size W1 X) => (vcells5 (OA.out X hb)).2.2.1)
      have CO := Lib.hid (fun (X : World) (b' : Value) (h1 : BW base X b' (t0 ++ [91])) (h2 : BG W1 X b b') => overP_any (R := t0 ++ 91 :: cmt (l.map (teW plF))) (c := c) (W := .func (.func 39) #[] #[]) plF X (Vro.vrb HVR.out (HBL.out.trans (HBB.out.below h2))) HLN.out.1 h1 (by simp) (by
          have h9 := HL.out
          rw [HY7.out] at h9
          have := cmt_shut (L := l.map (teW plF)) 91 93
          by_cases h0 : l.map (teW plF) = []
          · rw [h0] at h9 ⊢; simp [cmt] at *; omega
          · have h8 := congrArg List.length (this h0)
            rw [← this h0] at h9
            simp at h9 ⊢; omega)
        (fun i x hi w' v b2 t hb2 hv hbw hl => putElement_any w' hv.vm hbw.2 (by rw [List.length_append]; omega) (fun w3 hb3 =>
          IH.out i x hi base w3 b2 v t (Vb.on hv (below_b hb3 hbw.2)) (hbw.on hb3) (((HT.out.on (HBL.out.trans (HBB.out.below h2))).on hb2).on (below_b hb3 hbw.2)) hl)))
      rw [← HN.out] at CO
      go_cut [1] from 11 to 18 (fun a wx => Hid (BW base wx a (t0 ++ 91 :: cmt (l.map (teW plF))) ∧ BG W1 wx b a))
      case first =>
        go_region_held_law (fun X => X.cell? ⟨h, 2, none⟩ = some (.slice A n c)) (first | exact x2 | exact XA.out _ (by first | exact (below_new ..).drew | exact below_new .. | exact (Below.refl _ _).drew) | assumption)
          (first
            | (refine step_appB _ rfl (.tmp 13) (.tmp 14) 66 rfl base i0 Tryz.underlying66 hi hz0 hz1 hz2 b t0 (by first | rfl | simp [Act.eval]) (BX.out _ (by first | exact (below_new ..).drew | exact below_new ..)) 91 W1.heap.size (by first | rfl | simp [Act.eval]) (cell_fst1 ..) (by have := HL.out; omega) ?_; intro v2 w2 h1 h2; have H2 := Lib.hid h1; have G2 := Lib.hid (BG.trans (BG.call b (by first | exact (below_new ..).drew | exact below_new ..)) h2); have y2 : w2.cell? ⟨h, 2, none⟩ = some (.slice A n c) := (vcells5 (HBB.out.keepB G2.out HO.out)).2.2.1; clear h1 h2)
            | (go_simp; go_at_call 77; refine (CO.out _ _ H2.out G2.out).mono ?_; rintro e w3 ⟨b3, rfl, h1, h2⟩; have H3 := Lib.hid h1; have G3 := Lib.hid (G2.out.trans h2); have y3 : w3.cell? ⟨h, 2, none⟩ = some (.slice A n c) := (vcells5 (HBB.out.keepB G3.out HO.out)).2.2.1; clear h1 h2))
        all_goals go_wp2_with fail
        all_goals go_meet
        all_goals exact Lib.hid ⟨H3.out, G3.out⟩
      case rest =>
        have HBC := Lib.hid (HBB.out.below hcut.out.2)
        have y2 := (vcells5 (HBB.out.keepB hcut.out.2 HO.out)).2.2.1
        clear BX OX OA XA CO x0 x2
        by_cases h0 : n = 0
        · subst h0
          have hl0 : l = [] := List.eq_nil_of_length_eq_zero HN.out.symm
          have HY0 := Lib.hid (show t0 ++ 91 :: cmt (l.map (teW plF)) ++ [93] = t0 ++ Y from by rw [HY7.out, hl0]; simp [cmt, cms])
          have CN := Lib.hid (show Calls Tryz.prog 79 #[u1, .int .i64 0, .int .u8 93] wc fun e w' => ∃ b', e = .returned b' ∧ BW base w' b' (t0 ++ Y) ∧ BG wc w' u1 b' from by
            rw [← HY0.out]
            exact end_none (c := 93) wc hcut.out.1 (by have h9 := HL.out; rw [HY7.out, hl0] at h9; rw [hl0]; simp [cmt, cms] at h9 ⊢; omega))
          clear hl0
          go_wp2_with fail
          refine CN.out.mono ?_
          rintro e w4 ⟨b4, rfl, h1, h2⟩
          have H4 := Lib.hid h1
          have G4 := Lib.hid (((BG.call b HB1.out).trans hcut.out.2).trans h2)
          clear h1 h2
          go_wp2_with fail
          go_ret
          exact ⟨_, rfl, H4.out, G4.out⟩
        · have hne : l.map (teW plF) ≠ [] := fun e => h0 (by rw [HN.out]; simpa using e)
          have HY0 := Lib.hid (show t0 ++ 91 :: (cms (l.map (teW plF))).drop 1 ++ [93] = t0 ++ Y from by rw [HY7.out]; simp)
          have HY1 := Lib.hid (show t0 ++ 91 :: cmt (l.map (teW plF)) = t0 ++ 91 :: (cms (l.map (teW plF))).drop 1 ++ [44] from by rw [cmt_end hne]; simp)
          have hcut2 := hcut.out
          rw [HY1.out] at hcut2
          have CN := Lib.hid (show Calls Tryz.prog 79 #[u1, .int .i64 n, .int .u8 93] wc fun e w' => ∃ b', e = .returned b' ∧ BW base w' b' (t0 ++ Y) ∧ BG wc w' u1 b' from by
            rw [← HY0.out]
            exact end_some (c := 93) wc (by omega) hcut2.1 (by have h9 := HL.out; rw [HY7.out] at h9; simp at h9 ⊢; omega))
          clear hne hcut2 h0
          go_wp2_with fail
          refine CN.out.mono ?_
          rintro e w4 ⟨b4, rfl, h1, h2⟩
          have H4 := Lib.hid h1
          have G4 := Lib.hid (((BG.call b HB1.out).trans hcut.out.2).trans h2)
          clear h1 h2
          go_wp2_with fail
          go_ret
          exact ⟨_, rfl, H4.out, G4.out⟩
    have f7 : ((k : Int) == 7) = false := beq_eq_false_iff_ne.2 (by omega)
    by_cases h8 : k = 8
    · subst h8
      have HY8 := Lib.hid (show Y = 123 :: ((cms ((entL l ks).map (enW plF))).drop 1 ++ [125]) from by rw [HTW.out, if_neg (by decide), if_pos rfl, enW_list _ (HPL.out.1 rfl)])
      have CE8 := Lib.hid (show ∀ w' : World, Below base w w' → Calls Tryz.prog 55 #[.agg #[.int .u8 8, .string T, .slice A n c, .slice B m d]] w' fun e w2 => (∃ A c, e = .returned (.slice A m c) ∧ Er w2 (fun g => g < base) A (entL l ks)) ∧ Below w'.heap.size w' w2 from CE.out rfl)
      obtain ⟨x1, x3⟩ : W1.cell? ⟨h, 1, none⟩ = some (.string T) ∧ W1.cell? ⟨h, 3, none⟩ = some (.slice B m d) := ⟨X.2.1, X.2.2.2⟩
      have HKL := Lib.hid (HPL.out.1 rfl)
      clear X CE CL HTW f7 h7
      go_wp2_with fail
      refine (CE8.out _ HBL.out).mono ?_
      rintro e w2 ⟨⟨A1, c1, rfl, hE⟩, hb2⟩
      have HE := Lib.hid hE
      have HW2 := Lib.hid hb2
      have HB2 := Lib.hid (HBB.out.on hb2)
      have HO2 := Lib.hid (show w2.heap[h]? = some (vO (.int .u8 (8 : Nat)) (.string T) (.slice A n c) (.slice B m d)) from (hb2.block h (Array.getElem?_eq_some_iff.1 HO.out).1).trans HO.out)
      clear hE hb2 x0 x1 x2 x3
      go_wp2_with (at_builtin; refine wpAppB _ rfl (.tmp 28) (.tmp 29) 66 rfl base i0 Tryz.underlying66 hi hz0 hz1 hz2 b t0 rfl (HB2.out.on (below_new ..)) 123 w2.heap.size rfl (cell_fst1 ..) (by have := HL.out; omega) ?_; intro v3 w3 h1 h2; have H3 := Lib.hid h1; have G3 := Lib.hid ((BG.call b (below_new ..)).trans h2); clear h1 h2)
      have HE3 := Lib.hid (HE.out.bg HB2.out G3.out)
      have HB3 := Lib.hid ((HBL.out.trans (below_b HW2.out HBB.out.2)).trans (HB2.out.below G3.out))
      have CO := Lib.hid (overQ_any (R := t0 ++ 123 :: cmt ((entL l ks).map (enW plF))) (c := c1) (W := .func (.func 39) #[] #[]) plF w3 HE3.out (by rw [entL_len]; exact HLN.out.2.1) H3.out (by simp) (by
          have h9 := HL.out
          rw [HY8.out] at h9
          have := cmt_shut (L := (entL l ks).map (enW plF)) 123 125
          by_cases h0 : (entL l ks).map (enW plF) = []
          · rw [h0] at h9 ⊢; simp [cmt] at *; omega
          · rw [← this h0] at h9
            simp at h9 ⊢; omega)
        (fun i s x hi w' e b2 t hb2 hek hv hbw hl => by
          rw [entL, List.getElem?_map] at hi
          obtain ⟨j, hj, e9⟩ := Option.map_eq_some_iff.1 hi
          have hj2 := ord_mem.1 (List.mem_of_getElem? hj)
          obtain ⟨x2, hx2⟩ := get_lt (l := l) (i := j) (by rw [← HKL.out]; exact hj2)
          have ex : x2 = x := Eq.trans (show x2 = l.getD j v0 by rw [List.getD_eq_getElem?_getD, hx2]; rfl) (congrArg Prod.snd e9)
          have es : ks.getD j [] = s := congrArg Prod.fst e9
          rw [ex] at hx2
          have hsl : s.length ≤ 1000000 := by rw [← es, List.getD_eq_getElem?_getD, List.getElem?_eq_getElem hj2]; exact HLN.out.2.2 _ (List.getElem_mem hj2)
          subst hek
          have hTB := (HT.out.on HB3.out).on hb2
          have hel : (enW plF (e.key, x)).length = (Qu.wrq e.key).length + 1 + (teW plF x).length := by show (ent e.key (teW plF x)).length = _; rw [ent]; simp; omega
          rw [hel] at hl
          exact putEntry_any (u := teW plF x) w' hv hbw hTB hsl (by omega) (fun w3 b3 hb3 hbw3 => putElement_any w3 (Vb.on hv hb3).vm hbw3.2 (by simp; omega) (fun w4 hb4 =>
            IH.out j x hx2 base w4 b3 e.val _ ((Vb.on hv hb3).on (below_b hb4 hbw3.2)) (hbw3.on hb4) ((hTB.on hb3).on (below_b hb4 hbw3.2)) (by simp; omega)))))
      rw [entL_len, ← HM.out] at CO
      refine CO.out.mono ?_
      rintro e w4 ⟨b4, rfl, h1, h2⟩
      have H4 := Lib.hid h1
      have G4 := Lib.hid (G3.out.trans h2)
      have y2 := (vcells5 (HB2.out.keepB G4.out HO2.out)).2.2.1
      clear h1 h2 CO
      have HMN := Lib.hid (show m = n from by rw [HM.out, HN.out, HKL.out])
      by_cases h0 : n = 0
      · subst h0
        have hl0 : entL l ks = [] := List.eq_nil_of_length_eq_zero (by rw [entL_len, ← HM.out, HMN.out])
        have HY0 := Lib.hid (show t0 ++ 123 :: cmt ((entL l ks).map (enW plF)) ++ [125] = t0 ++ Y from by rw [HY8.out, hl0]; simp [cmt, cms])
        have CN := Lib.hid (show Calls Tryz.prog 79 #[b4, .int .i64 0, .int .u8 125] w4 fun e w' => ∃ b', e = .returned b' ∧ BW base w' b' (t0 ++ Y) ∧ BG w4 w' b4 b' from by
          rw [← HY0.out]
          exact end_none (c := 125) w4 H4.out (by have h9 := HL.out; rw [HY8.out, hl0] at h9; rw [hl0]; simp [cmt, cms] at h9 ⊢; omega))
        clear hl0
        go_wp2_with fail
        refine CN.out.mono ?_
        rintro e w5 ⟨b5, rfl, h1, h2⟩
        have H5 := Lib.hid h1
        have G5 := Lib.hid (((BG.call b (below_tr HB1.out HW2.out)).trans G4.out).trans h2)
        clear h1 h2
        go_wp2_with fail
        go_ret
        exact ⟨_, rfl, H5.out, G5.out⟩
      · have hne : (entL l ks).map (enW plF) ≠ [] := fun e => h0 (by rw [← HMN.out, HM.out, ← entL_len l ks]; simpa using e)
        have HY0 := Lib.hid (show t0 ++ 123 :: (cms ((entL l ks).map (enW plF))).drop 1 ++ [125] = t0 ++ Y from by rw [HY8.out]; simp)
        have HY1 := Lib.hid (show t0 ++ 123 :: cmt ((entL l ks).map (enW plF)) = t0 ++ 123 :: (cms ((entL l ks).map (enW plF))).drop 1 ++ [44] from by rw [cmt_end hne]; simp)
        have h42 := H4.out
        rw [HY1.out] at h42
        have CN := Lib.hid (show Calls Tryz.prog 79 #[b4, .int .i64 n, .int .u8 125] w4 fun e w' => ∃ b', e = .returned b' ∧ BW base w' b' (t0 ++ Y) ∧ BG w4 w' b4 b' from by
          rw [← HY0.out]
          exact end_some (c := 125) w4 (by omega) h42 (by have h9 := HL.out; rw [HY8.out] at h9; simp at h9 ⊢; omega))
        clear hne h42 h0
        go_wp2_with fail
        refine CN.out.mono ?_
        rintro e w5 ⟨b5, rfl, h1, h2⟩
        have H5 := Lib.hid h1
        have G5 := Lib.hid (((BG.call b (below_tr HB1.out HW2.out)).trans G4.out).trans h2)
        clear h1 h2
        go_wp2_with fail
        go_ret
        exact ⟨_, rfl, H5.out, G5.out⟩
    · have f8 : ((k : Int) == 8) = false := beq_eq_false_iff_ne.2 (by omega)
      have HY9 := Lib.hid (show Y = plF k t from by rw [HTW.out, if_neg h7, if_neg h8])
      obtain ⟨x1, x3⟩ : W1.cell? ⟨h, 1, none⟩ = some (.string T) ∧ W1.cell? ⟨h, 3, none⟩ = some (.slice B m d) := ⟨X.2.1, X.2.2.2⟩
      clear X CE HTW h7 h8
      go_wp2_with fail
      refine (CL.out _ HBL.out).mono ?_
      rintro e w2 ⟨rfl, hb2⟩
      have HB2 := Lib.hid (HBB.out.on hb2)
      have G2 := Lib.hid (BG.call b (below_tr HB1.out hb2))
      rw [← HY9.out]
      clear hb2 x0 x1 x2 x3
      go_wp2_with (at_builtin; refine wpAppT _ rfl (.tmp 39) (.tmp 42) 66 9 rfl base i0 Tryz.underlying66 Tryz.underlying9 hi hz0 hz1 hz2 b t0 rfl HB2.out _ Y rfl rfl (by have := HL.out; omega) ?_; intro v3 w3 h1 h2; have H3 := Lib.hid h1; have G3 := Lib.hid (G2.out.trans h2); clear h1 h2)
      go_ret
      exact ⟨_, rfl, H3.out, G3.out⟩
end Va
end Go.Proofs.YtnnlgodgaolkkaaGreatDoor
