/- The document's form of a beginning. -/
import Derived.Test.YtgmlbcdakblpiaaDoorEb
import Derived.Test.YtgmlbcdakblpiaaDoorDl
import Derived.OneCell
namespace Go.Proofs.YtgmlbcdakblpiaaDoor
open Go.RowKit
namespace Da

abbrev fv (a b c d : Int) : Value := .agg #[.int .i64 a, .int .i64 b, .int .i64 c, .int .i64 d]
abbrev fob (a b c d : Int) : Obj := .cells #[.int .i64 a, .int .i64 b, .int .i64 c, .int .i64 d] 49
/-- Where a time begins, where a zone begins; -1: none does. -/
def tmI (l : List UInt8) : Int := if hT l = true then (tp l : Nat) else -1
def znI (l : List UInt8) : Int := if 0 < nZ l then ((tp l + 8 + nF l : Nat) : Int) else -1
def fmv (l : List UInt8) : Value := fv (kd l : Nat) (tmI l) (znI l) (en l : Nat)
/-- The answer's block and the form's. -/
structure FS (w wx : World) (a b c d e f g h : Int) : Prop where
  below : Below w.heap.size w wx
  r : wx.heap[w.heap.size]? = some (fob a b c d)
  v : wx.heap[w.heap.size + 1]? = some (fob e f g h)
section
variable {w wx wy : World} {a b c d e f g h a' b' c' d' : Int}
theorem FS.start : FS w ((w.alloc (fob a b c d)).alloc (fob e f g h)) a b c d e f g h := by
  refine ⟨((Below.refl _ _).alloc (Nat.le_refl _) _).alloc (by simp) _, ?_, ?_⟩
  · show ((w.heap.push _).push _)[w.heap.size]? = _
    rw [Array.getElem?_push, if_neg (by simp), Array.getElem?_push, if_pos rfl]
  · show ((w.heap.push _).push _)[w.heap.size + 1]? = _
    rw [Array.getElem?_push, if_pos (by simp)]
theorem FS.on (H : FS w wx a b c d e f g h) (hb : Below wx.heap.size wx wy) : FS w wy a b c d e f g h :=
  ⟨below_tr H.below hb, by rw [hb.block _ (lt_of_block H.r)]; exact H.r, by rw [hb.block _ (lt_of_block H.v)]; exact H.v⟩
theorem four_cells {wx : World} {k : Nat} (H : wx.heap[k]? = some (fob a b c d)) : (wx.cell? ⟨k, 0, none⟩ = some (.int .i64 a) ∧ wx.cell? ⟨k, 1, none⟩ = some (.int .i64 b) ∧ wx.cell? ⟨k, 2, none⟩ = some (.int .i64 c) ∧ wx.cell? ⟨k, 3, none⟩ = some (.int .i64 d)) ∧
    wx.frozen? ⟨k, 0, none⟩ = false ∧ wx.frozen? ⟨k, 1, none⟩ = false ∧ wx.frozen? ⟨k, 2, none⟩ = false ∧ wx.frozen? ⟨k, 3, none⟩ = false := by
  simp [World.cell?, World.frozen?, H]
theorem four_set {wx : World} {k : Nat} (H : wx.heap[k]? = some (fob a b c d)) (j : Nat) (o : Obj) (hj : j ≠ k) (ho : wx.heap[j]? = some o) :
    ((((wx.setCell ⟨k, 0, none⟩ (.int .i64 a')).setCell ⟨k, 1, none⟩ (.int .i64 b')).setCell ⟨k, 2, none⟩ (.int .i64 c')).setCell ⟨k, 3, none⟩ (.int .i64 d')).heap[k]? = some (fob a' b' c' d') ∧
    ((((wx.setCell ⟨k, 0, none⟩ (.int .i64 a')).setCell ⟨k, 1, none⟩ (.int .i64 b')).setCell ⟨k, 2, none⟩ (.int .i64 c')).setCell ⟨k, 3, none⟩ (.int .i64 d')).heap[j]? = some o := by
  have h1 := heap_setCell_same wx k 0 _ _ (.int .i64 a') H
  have h2 := heap_setCell_same _ k 1 _ _ (.int .i64 b') h1
  have h3 := heap_setCell_same _ k 2 _ _ (.int .i64 c') h2
  have h4 := heap_setCell_same _ k 3 _ _ (.int .i64 d') h3
  refine ⟨h4, ?_⟩
  have oth : ∀ (W : World) (i : Nat) (u : Value), W.heap[j]? = some o → (W.setCell ⟨k, i, none⟩ u).heap[j]? = some o := fun W i u hW => by
    rw [heap_setCell_other W ⟨k, i, none⟩ j u hj]; exact hW
  exact oth _ 3 _ (oth _ 2 _ (oth _ 1 _ (oth _ 0 _ ho)))
theorem FS.setv (H : FS w wx a b c d e f g h) : FS w ((((wx.setCell ⟨w.heap.size + 1, 0, none⟩ (.int .i64 a')).setCell ⟨w.heap.size + 1, 1, none⟩ (.int .i64 b')).setCell ⟨w.heap.size + 1, 2, none⟩ (.int .i64 c')).setCell ⟨w.heap.size + 1, 3, none⟩ (.int .i64 d')) a b c d a' b' c' d' := by
  obtain ⟨h1, h2⟩ := four_set (a' := a') (b' := b') (c' := c') (d' := d') H.v w.heap.size _ (by omega) H.r
  exact ⟨(((H.below.setCell (by simp) _).setCell (by simp) _).setCell (by simp) _).setCell (by simp) _, h2, h1⟩
theorem FS.setr (H : FS w wx a b c d e f g h) : FS w ((((wx.setCell ⟨w.heap.size, 0, none⟩ (.int .i64 a')).setCell ⟨w.heap.size, 1, none⟩ (.int .i64 b')).setCell ⟨w.heap.size, 2, none⟩ (.int .i64 c')).setCell ⟨w.heap.size, 3, none⟩ (.int .i64 d')) a' b' c' d' e f g h := by
  obtain ⟨h1, h2⟩ := four_set (a' := a') (b' := b') (c' := c') (d' := d') H.r (w.heap.size + 1) _ (by omega) H.v
  exact ⟨(((H.below.setCell (by simp) _).setCell (by simp) _).setCell (by simp) _).setCell (by simp) _, h1, h2⟩
end
set_option maxHeartbeats 8000000 in
set_option maxRecDepth 100000 in
theorem form_is {l : List UInt8} {s : ByteArray} {V : Value} (w : World) (hs : s = txt l) (hl : l.length ≤ 1000000) (hV : V = fmv l) :
    Calls Tryd.prog 21 #[.string s] w fun e w' => e = .returned V ∧ Below w.heap.size w w' := by
  have hdi := fun h => dte_in (l := l) h
  obtain ⟨d, hd⟩ : ∃ d : Int, d = if dte l = true then 10 else -1 := ⟨_, rfl⟩
  have CD := Lib.hid (fun w => date_is w hs hl hd)
  unfold fmv at hV
  cases hdt : dte l
  · skip
    have hd1 : d = -1 := by rw [hd, hdt]; rfl
    subst hd1
    obtain ⟨t, ht⟩ : ∃ t : Int, t = if clk l 0 = true then ((0 + 8 + frc l (0 + 8) : Nat) : Int) else -1 := ⟨_, rfl⟩
    have CC := Lib.hid (fun w => clock_is (x := 0) 0 w hs hl (by omega) rfl ht)
    have htp : tp l = 0 := by rw [tp, hdt]; rfl
    have hhT : hT l = clk l 0 := by rw [hT, hdt]; rfl
    have hnz : nZ l = 0 := by rw [nZ, hdt]; simp
    have hzi : znI l = -1 := by rw [znI, hnz]; rfl
    cases hk : clk l 0
    · skip
      have hk0 : kd l = 0 := kd_zero hdt (by rw [hhT, hk])
      have hen : en l = 0 := by rw [en, hhT, hk, hdt]; rfl
      have htm : tmI l = -1 := by rw [tmI, hhT, hk]; rfl
      have ht1 : t = -1 := by rw [ht, hk]; rfl
      subst ht1
      have EX := Lib.hid (show V = fv 0 (-1) (-1) 0 by rw [hV, hk0, htm, hzi, hen]; rfl)
      clear hs hl hV hdi hd hdt ht htp hhT hnz hzi hk hk0 hen htm
      have F0 := Lib.hid (FS.start (w := w) (a := 0) (b := 0) (c := 0) (d := 0) (e := 0) (f := -1) (g := -1) (h := 0))
      go_enter Tryd.func21, Tryd.ntmps21
      go_wp2_with fail
      refine (CD.out _).mono ?_
      rintro e w1 ⟨rfl, hb⟩
      have F1 := Lib.hid (F0.out.on hb)
      clear hb
      obtain ⟨⟨c0, c1, c2, c3⟩, f0, f1, f2, f3⟩ := four_cells F1.out.r
      obtain ⟨⟨d0, d1, d2, d3⟩, g0, g1, g2, g3⟩ := four_cells F1.out.v
      go_wp2_with fail
      refine (CC.out _).mono ?_
      rintro e w2 ⟨rfl, hb⟩
      have F2 := Lib.hid (F1.out.on hb)
      clear hb
      clear c0 c1 c2 c3 d0 d1 d2 d3 f0 f1 f2 f3 g0 g1 g2 g3
      obtain ⟨⟨c0, c1, c2, c3⟩, f0, f1, f2, f3⟩ := four_cells F2.out.r
      obtain ⟨⟨d0, d1, d2, d3⟩, g0, g1, g2, g3⟩ := four_cells F2.out.v
      go_wp2_with fail
      refine bodyPost_ret (v := fv (0) (-1) (-1) (0)) (by simp [results, Tryd.results21, go_sem, *]) rfl ?_
      exact ⟨by rw [EX.out], F2.out.setr.below⟩
    · skip
      have hen : en l = 8 + frc l 8 := by rw [en, hhT, hk, if_pos rfl, htp, hnz, nF, hhT, hk, if_pos rfl, htp]; rfl
      have htm : tmI l = 0 := by rw [tmI, hhT, hk, if_pos rfl, htp]; rfl
      have hk0 : kd l = 2 := by
        have a : pD l = [] := by rw [pD, hdt]; rfl
        have b : pT l ≠ [] := fun e => by have := pT_len (l := l) (by rw [hhT, hk]); rw [e] at this; cases this
        have c : pZ l = [] := List.eq_nil_of_length_eq_zero (by rw [pZ_len, hnz])
        rw [kd, kd4, a, c, if_neg (fun h => h rfl), if_neg (fun h => h.1 rfl), if_pos b]
      have ht1 : t = ((8 + frc l 8 : Nat) : Int) := by rw [ht, hk, if_pos rfl, Nat.zero_add]
      have hfl := frc_in (l := l) (i := 8) (by have := clk_in hk; omega)
      have t0 : 0 ≤ t := by omega
      have t1 : t ≤ 1000000 := by omega
      have EX := Lib.hid (show V = fv 2 0 (-1) t by rw [hV, hk0, htm, hzi, hen, ht1]; rfl)
      clear hs hl hV hdi hd hdt ht htp hhT hnz hzi hk hk0 hen htm ht1 hfl
      have F0 := Lib.hid (FS.start (w := w) (a := 0) (b := 0) (c := 0) (d := 0) (e := 0) (f := -1) (g := -1) (h := 0))
      go_enter Tryd.func21, Tryd.ntmps21
      go_wp2_with fail
      refine (CD.out _).mono ?_
      rintro e w1 ⟨rfl, hb⟩
      have F1 := Lib.hid (F0.out.on hb)
      clear hb
      obtain ⟨⟨c0, c1, c2, c3⟩, f0, f1, f2, f3⟩ := four_cells F1.out.r
      obtain ⟨⟨d0, d1, d2, d3⟩, g0, g1, g2, g3⟩ := four_cells F1.out.v
      go_wp2_with fail
      refine (CC.out _).mono ?_
      rintro e w2 ⟨rfl, hb⟩
      have F2 := Lib.hid (F1.out.on hb)
      clear hb
      clear c0 c1 c2 c3 d0 d1 d2 d3 f0 f1 f2 f3 g0 g1 g2 g3
      obtain ⟨⟨c0, c1, c2, c3⟩, f0, f1, f2, f3⟩ := four_cells F2.out.r
      obtain ⟨⟨d0, d1, d2, d3⟩, g0, g1, g2, g3⟩ := four_cells F2.out.v
      go_wp2_with fail
      refine bodyPost_ret (v := fv (2) (0) (-1) (t)) (by simp [results, Tryd.results21, go_sem, *]) rfl ?_
      exact ⟨by rw [EX.out], F2.out.setr.below⟩
  · skip
    have hd1 : d = 10 := by rw [hd, hdt]; rfl
    subst hd1
    have htp : tp l = 11 := by rw [tp, hdt]; rfl
    obtain ⟨x1, hx1⟩ : ∃ b, b = decide (bt l 10 = 84) := ⟨_, rfl⟩
    obtain ⟨x2, hx2⟩ : ∃ b, b = decide (bt l 10 = 116) := ⟨_, rfl⟩
    obtain ⟨x3, hx3⟩ : ∃ b, b = decide (bt l 10 = 32) := ⟨_, rfl⟩
    have C1 := Lib.hid (fun w => at_is (x := 10) 10 w hs hl (by omega) rfl (by decide) hx1)
    have C2 := Lib.hid (fun w => at_is (x := 10) 10 w hs hl (by omega) rfl (by decide) hx2)
    have C3 := Lib.hid (fun w => at_is (x := 10) 10 w hs hl (by omega) rfl (by decide) hx3)
    have hsp : sp (bt l 10) = (x1 || x2 || x3) := by rw [hx1, hx2, hx3, sp, ← Bool.decide_or, ← Bool.decide_or]; exact decide_eq_decide.2 (by rw [or_assoc])
    obtain ⟨t, ht⟩ : ∃ t : Int, t = if clk l 11 = true then ((11 + 8 + frc l (11 + 8) : Nat) : Int) else -1 := ⟨_, rfl⟩
    have CC := Lib.hid (fun w => clock_is (x := 11) 11 w hs hl (by omega) rfl ht)
    have DATE := Lib.hid (fun (h : hT l = false) => show V = fv 1 (-1) (-1) 10 by
      have hf : nF l = 0 := by rw [nF, h]; rfl
      have hnz : nZ l = 0 := by rw [nZ, h]; simp
      have a : pD l ≠ [] := fun e => by have := pD_len hdt; rw [e] at this; cases this
      have b : pT l = [] := by rw [pT, h]; rfl
      have c : pZ l = [] := List.eq_nil_of_length_eq_zero (by rw [pZ_len, hnz])
      have hk0 : kd l = 1 := by rw [kd, kd4, b, c, if_neg (fun h => h rfl), if_neg (fun h => h.2 rfl), if_neg (fun h => h rfl), if_pos a]
      rw [hV, hk0, tmI, h, znI, hnz, en, h, hdt]; rfl)
    have hhT : hT l = ((x1 || x2 || x3) && clk l 11) := by rw [hT, hdt, if_pos rfl, hsp]
    have HH := Lib.hid hhT
    have HHS := Lib.hid hs
    have HHL := Lib.hid hl
    have HHT := Lib.hid ht
    have HHV := Lib.hid hV
    have HTP := Lib.hid htp
    have HDT := Lib.hid hdt
    obtain ⟨sq, hsq⟩ : ∃ q, q = (x1 || x2 || x3) := ⟨_, rfl⟩
    have HQ := Lib.hid hsq
    rw [← hsq] at HH
    clear hs hl hV hdi hd hdt ht htp hhT hx1 hx2 hx3 hsp hsq
    have F0 := Lib.hid (FS.start (w := w) (a := 0) (b := 0) (c := 0) (d := 0) (e := 0) (f := -1) (g := -1) (h := 0))
    go_enter Tryd.func21, Tryd.ntmps21
    go_wp2_with fail
    refine (CD.out _).mono ?_
    rintro e w1 ⟨rfl, hb⟩
    have F1 := Lib.hid (F0.out.on hb)
    clear hb
    obtain ⟨⟨c0, c1, c2, c3⟩, f0, f1, f2, f3⟩ := four_cells F1.out.r
    obtain ⟨⟨d0, d1, d2, d3⟩, g0, g1, g2, g3⟩ := four_cells F1.out.v
    have F2 := Lib.hid (F1.out.setv (a' := 1) (b' := -1) (c' := -1) (d' := 10))
    obtain ⟨⟨p0, p1, p2, p3⟩, r0, r1, r2, r3⟩ := four_cells F2.out.v
    obtain ⟨⟨q0, q1, q2, q3⟩, s0, s1, s2, s3⟩ := four_cells F2.out.r
    go_upto_region 9 with fail
    go_cut [2, 3, 4, 37] (fun a b c q wx => a = .pointer (some ⟨w.heap.size, 0, none⟩) ∧ b = .pointer (some ⟨w.heap.size + 1, 0, none⟩) ∧ c = .int .i64 10 ∧ q = .bool (!sq) ∧ FS w wx 0 0 0 0 1 (-1) (-1) 10)
    case first =>
      clear CC DATE HH HHT HHV HTP HDT c0 c1 c2 c3 d0 d1 d2 d3 f0 f1 f2 f3 g0 g1 g2 g3 p0 p1 p2 p3 q0 q1 q2 q3 r0 r1 r2 r3 s0 s1 s2 s3
      cases x1
      · skip
        cases x2
        · skip
          cases x3
          · skip
            go_wp2_with fail
            refine (C1.out _).mono ?_
            rintro e v0 ⟨rfl, hb⟩
            have G0 := Lib.hid (F2.out.on hb)
            clear hb
            go_wp2_with fail
            refine (C2.out _).mono ?_
            rintro e v1 ⟨rfl, hb⟩
            have G1 := Lib.hid (G0.out.on hb)
            clear hb
            go_wp2_with fail
            refine (C3.out _).mono ?_
            rintro e v2 ⟨rfl, hb⟩
            have G2 := Lib.hid (G1.out.on hb)
            clear hb
            go_wp2_with fail
            go_meet
            exact ⟨rfl, rfl, rfl, by rw [HQ.out]; rfl, G2.out⟩
          · skip
            go_wp2_with fail
            refine (C1.out _).mono ?_
            rintro e v0 ⟨rfl, hb⟩
            have G0 := Lib.hid (F2.out.on hb)
            clear hb
            go_wp2_with fail
            refine (C2.out _).mono ?_
            rintro e v1 ⟨rfl, hb⟩
            have G1 := Lib.hid (G0.out.on hb)
            clear hb
            go_wp2_with fail
            refine (C3.out _).mono ?_
            rintro e v2 ⟨rfl, hb⟩
            have G2 := Lib.hid (G1.out.on hb)
            clear hb
            go_wp2_with fail
            go_meet
            exact ⟨rfl, rfl, rfl, by rw [HQ.out]; rfl, G2.out⟩
        · skip
          go_wp2_with fail
          refine (C1.out _).mono ?_
          rintro e v0 ⟨rfl, hb⟩
          have G0 := Lib.hid (F2.out.on hb)
          clear hb
          go_wp2_with fail
          refine (C2.out _).mono ?_
          rintro e v1 ⟨rfl, hb⟩
          have G1 := Lib.hid (G0.out.on hb)
          clear hb
          go_wp2_with fail
          go_meet
          exact ⟨rfl, rfl, rfl, by rw [HQ.out]; rfl, G1.out⟩
      · skip
        go_wp2_with fail
        refine (C1.out _).mono ?_
        rintro e v0 ⟨rfl, hb⟩
        have G0 := Lib.hid (F2.out.on hb)
        clear hb
        go_wp2_with fail
        go_meet
        exact ⟨rfl, rfl, rfl, by rw [HQ.out]; rfl, G0.out⟩
    case rest =>
      obtain ⟨rfl, rfl, rfl, rfl, hf⟩ := hcut
      clear c0 c1 c2 c3 d0 d1 d2 d3 f0 f1 f2 f3 g0 g1 g2 g3 p0 p1 p2 p3 q0 q1 q2 q3 r0 r1 r2 r3 s0 s1 s2 s3 C1 C2 C3 HQ
      have F20 := Lib.hid hf
      clear hf
      obtain ⟨⟨c0, c1, c2, c3⟩, f0, f1, f2, f3⟩ := four_cells F20.out.r
      obtain ⟨⟨d0, d1, d2, d3⟩, g0, g1, g2, g3⟩ := four_cells F20.out.v
      cases sq
      · have EX := Lib.hid (DATE.out (by rw [HH.out]; rfl))
        go_wp2_with fail
        refine bodyPost_ret (v := fv (1) (-1) (-1) (10)) (by simp [results, Tryd.results21, go_sem, *]) rfl ?_
        exact ⟨by rw [EX.out], F20.out.setr.below⟩
      · skip
        go_wp2_with fail
        refine (CC.out _).mono ?_
        rintro e w21 ⟨rfl, hb⟩
        have F21 := Lib.hid (F20.out.on hb)
        clear hb c0 c1 c2 c3 d0 d1 d2 d3 f0 f1 f2 f3 g0 g1 g2 g3 CC
        obtain ⟨⟨c0, c1, c2, c3⟩, f0, f1, f2, f3⟩ := four_cells F21.out.r
        obtain ⟨⟨d0, d1, d2, d3⟩, g0, g1, g2, g3⟩ := four_cells F21.out.v
        cases hk : clk l 11
        · have EX := Lib.hid (DATE.out (by rw [HH.out, hk]; simp))
          have ht1 : t = -1 := by rw [HHT.out, hk]; rfl
          subst ht1
          clear hk DATE
          go_wp2_with fail
          refine bodyPost_ret (v := fv (1) (-1) (-1) (10)) (by simp [results, Tryd.results21, go_sem, *]) rfl ?_
          exact ⟨by rw [EX.out], F21.out.setr.below⟩
        · have hdt := HDT.out
          have htp := HTP.out
          have hh : hT l = true := by rw [HH.out, hk]; rfl
          have hfl := frc_in (l := l) (i := 19) (by have := clk_in hk; omega)
          have hnf : nF l = frc l 19 := by rw [nF, hh, if_pos rfl, htp]
          have hnz : nZ l = zn l (19 + frc l 19) := by rw [nZ, if_pos ⟨hdt, hh⟩, htp, hnf]
          have htm : tmI l = 11 := by rw [tmI, hh, if_pos rfl, htp]; rfl
          have ht1 : t = ((19 + frc l 19 : Nat) : Int) := by rw [HHT.out, hk, if_pos rfl]
          obtain ⟨z, hz⟩ : ∃ z : Int, z = if 0 < zn l (19 + frc l 19) then ((19 + frc l 19 + zn l (19 + frc l 19) : Nat) : Int) else -1 := ⟨_, rfl⟩
          have CZ := Lib.hid (fun w => zone_is (x := t) (19 + frc l 19) w HHS.out HHL.out (by have := HHL.out; omega) ht1 hz)
          have hzl := zn_in (l := l) (i := 19 + frc l 19) hfl
          have t0 : 0 ≤ t := by omega
          have t1 : t ≤ 1000000 := by have := HHL.out; omega
          have da : pD l ≠ [] := fun e => by have := pD_len hdt; rw [e] at this; cases this
          have ta : pT l ≠ [] := fun e => by have := pT_len hh; rw [e] at this; cases this
          have hen : en l = 19 + frc l 19 + zn l (19 + frc l 19) := by rw [en, hh, if_pos rfl, htp, hnf, hnz]
          have YES := Lib.hid (fun (g : 0 < zn l (19 + frc l 19)) => show V = fv 4 11 t z ∧ 0 ≤ z ∧ z ≤ 1000000 by
            have zz : pZ l ≠ [] := fun e => by have := pZ_len l; rw [e, hnz] at this; simp at this; omega
            have hk0 : kd l = 4 := by rw [kd, kd4, if_pos zz]
            have hz1 : z = ((19 + frc l 19 + zn l (19 + frc l 19) : Nat) : Int) := by rw [hz, if_pos g]
            refine ⟨by rw [HHV.out, hk0, htm, znI, hnz, if_pos g, htp, hnf, hen, ht1, hz1]; rfl, by omega, by have := HHL.out; omega⟩)
          have NO := Lib.hid (fun (g : ¬ 0 < zn l (19 + frc l 19)) => show V = fv 3 11 (-1) t ∧ z = -1 by
            have zz : pZ l = [] := List.eq_nil_of_length_eq_zero (by rw [pZ_len, hnz]; omega)
            have hk0 : kd l = 3 := by rw [kd, kd4, if_neg (fun h => h zz), if_pos ⟨da, ta⟩]
            have hz1 : z = -1 := by rw [hz, if_neg g]
            have z00 : zn l (19 + frc l 19) = 0 := by omega
            refine ⟨by rw [HHV.out, hk0, htm, znI, hnz, if_neg g, hen, z00, ht1]; rfl, hz1⟩)
          have CASE := Lib.hid (Decidable.em (0 < zn l (19 + frc l 19)))
          clear hk hdt htp hh hfl hnf hnz htm ht1 hz hzl da ta hen DATE HH HHS HHL HHT HHV HTP HDT
          have F22 := Lib.hid (F21.out.setv (a' := 3) (b' := 11) (c' := -1) (d' := t))
          obtain ⟨⟨p0, p1, p2, p3⟩, r0, r1, r2, r3⟩ := four_cells F22.out.v
          obtain ⟨⟨q0, q1, q2, q3⟩, s0, s1, s2, s3⟩ := four_cells F22.out.r
          go_wp2_with fail
          refine (CZ.out _).mono ?_
          rintro e w23 ⟨rfl, hb⟩
          have F23 := Lib.hid (F22.out.on hb)
          clear hb c0 c1 c2 c3 d0 d1 d2 d3 f0 f1 f2 f3 g0 g1 g2 g3 p0 p1 p2 p3 q0 q1 q2 q3 r0 r1 r2 r3 s0 s1 s2 s3 CZ
          obtain ⟨⟨c0, c1, c2, c3⟩, f0, f1, f2, f3⟩ := four_cells F23.out.r
          obtain ⟨⟨d0, d1, d2, d3⟩, g0, g1, g2, g3⟩ := four_cells F23.out.v
          rcases CASE.out with g | g
          · obtain ⟨ex, z0, z1⟩ := YES.out g
            have EX := Lib.hid ex
            clear g ex YES NO CASE
            have F24 := Lib.hid (F23.out.setv (a' := 4) (b' := 11) (c' := t) (d' := z))
            obtain ⟨⟨p0, p1, p2, p3⟩, r0, r1, r2, r3⟩ := four_cells F24.out.v
            obtain ⟨⟨q0, q1, q2, q3⟩, s0, s1, s2, s3⟩ := four_cells F24.out.r
            go_wp2_with fail
            refine bodyPost_ret (v := fv (4) (11) (t) (z)) (by simp [results, Tryd.results21, go_sem, *]) rfl ?_
            exact ⟨by rw [EX.out], F24.out.setr.below⟩
          · obtain ⟨ex, z0⟩ := NO.out g
            have EX := Lib.hid ex
            subst z0
            clear g ex YES NO CASE
            go_wp2_with fail
            refine bodyPost_ret (v := fv (3) (11) (-1) (t)) (by simp [results, Tryd.results21, go_sem, *]) rfl ?_
            exact ⟨by rw [EX.out], F23.out.setr.below⟩
end Da
end Go.Proofs.YtgmlbcdakblpiaaDoor
