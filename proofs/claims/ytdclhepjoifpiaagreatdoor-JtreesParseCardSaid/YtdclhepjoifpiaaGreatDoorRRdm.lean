/- The document's reading of a string. -/
import Derived.Test.YtdclhepjoifpiaaGreatDoorUclm
import Derived.Deep.RegionLaw
namespace Go.Proofs.YtdclhepjoifpiaaGreatDoor
open Go.RowKit

theorem rhigh_is {u : Qu.U} {a k n : Int} {b x : Bool} (ha : a = u.place) (hk : k = u.long) (hb : b = u.byte) (hn : n = u.n) (hx : x = Qu.uh u) (w : World) : Calls Tryz.prog 78 #[.agg #[.int .i64 a, .int .i64 k, .bool b, .int .i64 n]] w fun e w' => e = .returned (.bool x) ∧ Below w.heap.size w w' := by
  subst ha hk hb hn hx
  refine (rhigh_any _ _ _ _ w).mono ?_
  rintro e w' ⟨rfl, rfl⟩
  exact ⟨by rw [hiI_high]; rfl, (Below.refl _ _).alloc (Nat.le_refl _) _⟩
theorem rlow_is {u : Qu.U} {a k n : Int} {b x : Bool} (ha : a = u.place) (hk : k = u.long) (hb : b = u.byte) (hn : n = u.n) (hx : x = Qu.ul u) (w : World) : Calls Tryz.prog 79 #[.agg #[.int .i64 a, .int .i64 k, .bool b, .int .i64 n]] w fun e w' => e = .returned (.bool x) ∧ Below w.heap.size w w' := by
  subst ha hk hb hn hx
  refine (rlow_any _ _ _ _ w).mono ?_
  rintro e w' ⟨rfl, rfl⟩
  exact ⟨by rw [loI_low]; rfl, (Below.refl _ _).alloc (Nat.le_refl _) _⟩
theorem WR.keep {w wr w2 : World} {t : List UInt8} {v : Value} (h : WR w wr t v) (hb : Below wr.heap.size wr w2) : WR w w2 t v :=
  ⟨h.1.kept (row := none) ⟨hb.os, hb.tape, hb.output, hb.size, fun k hk _ => hb.block k hk⟩ (by
    rcases h : v.ownBlock with _ | g
    · exact .inl rfl
    · exact .inr (by simp)), h.2.trans (hb.mono h.2.size)⟩
theorem num_at {wx : World} {g : Nat} (n : Int) (hg : g < wx.heap.size) (h : wx.cell? ⟨g, 0, none⟩ = some (.int .i64 n)) : Num wx wx.heap.size (some ⟨g, 0, none⟩) [n] := fun _ =>
  ⟨g, 0, rfl, hg, fun k hk => by
    obtain rfl : k = 0 := by simpa using hk
    simpa [it] using h⟩
/-- The bytes of one rune, by the document. -/
theorem rput1 {wx : World} {g : Nat} (n : Int) (hg : g < wx.heap.size) (h : wx.cell? ⟨g, 0, none⟩ = some (.int .i64 n)) : Calls Tryz.prog 80 #[.slice (some ⟨g, 0, none⟩) 1 1] wx
    (fun e w' => ∃ A c, e = .returned (.slice A (puts [n]).length c) ∧ Byt w' w'.heap.size A (puts [n]) ∧ (A = none → c = 0) ∧ Below wx.heap.size wx w') := by
  refine (rput_any (l := [n]) 1 1 rfl (num_at n hg h) (by omega)).mono ?_
  rintro e w' ⟨A, N, c, rfl, hN, h1, h2, h3, h4⟩
  subst hN
  refine ⟨A, c, rfl, h3, fun hA => ?_, h4⟩
  subst hA
  have := byt_none h3
  have h5 : 0 < (puts [n]).length := by
    rw [puts, List.length_map]
    have : putI [n] = encI (knw n) := by show putTo [n] 1 = _; simp [putTo, it]
    rw [this]; exact (encI_len4 _).2
  rw [this] at h5; cases h5
theorem wrap64_id {x : Int} (h1 : -9223372036854775808 ≤ x) (h2 : x ≤ 9223372036854775807) : IntKind.i64.wrap x = x := by
  exact IntWalk.i64_in _ (by omega)
theorem WR.of0 {w wr w' : World} {t u : List UInt8} {v v' : Value} (h : WR w wr t v) (h1 : w'.ownsRow w.heap.size 5 1 v' (t.length + u.length) (bytV t ++ bytV u)) (h2 : wr.grownBy w' v.ownBlock) : WR w w' (t ++ u) v' := by
  refine ⟨by rw [List.length_append, show bytV (t ++ u) = bytV t ++ bytV u by simp [bytV]]; exact h1, ?_⟩
  refine h.2.grown h2 h.2.size (fun g e => ?_)
  rcases h.1.2 with ⟨rfl, _⟩ | ⟨g', cap, cur, rfl, hb', _⟩
  · cases e
  · obtain rfl : g' = g := by simpa [Value.ownBlock] using e
    exact hb'
theorem Below.drewOf {B : Nat} {a c : World} (h : Below B a.drew c) : Below B a c := ⟨h.os, h.tape, h.output, h.size, h.block⟩
/-- What holds at each round's head. -/
def RRel (w1 : World) (us : List Qu.U) (k : Nat) (t : List UInt8) (v : Value) (wr : World) : Prop :=
  WR w1 wr t v ∧ t.length ≤ 4 * k ∧ Qu.rdu us = (Qu.rdu (us.drop k)).pre 0 t
theorem RRel.next {w1 w2 : World} {us : List Qu.U} {k m : Nat} {t x : List UInt8} {v v2 : Value} {wr : World} (h : RRel w1 us k t v wr) (hs : Qu.rdu (us.drop k) = (Qu.rdu (us.drop (k + m))).pre 0 x) (hx : x.length ≤ 4 * m) (hw : WR w1 w2 (t ++ x) v2) : RRel w1 us (k + m) (t ++ x) v2 w2 :=
  ⟨hw, by have := h.2.1; rw [List.length_append]; omega, by rw [h.2.2, hs, Qu.pre_pre]⟩
theorem rread_end {us : List Qu.U} {t : List UInt8} {k : Nat} (h : Qu.rdu us = (Qu.rdu (us.drop k)).pre 0 t) (hk : us.length ≤ k) : Qu.rdu us = .ok t := by
  rw [h, List.drop_eq_nil_of_le hk, Qu.rdu_nil]; simp [Qu.Res.pre]
set_option maxHeartbeats 8000000 in
set_option maxRecDepth 100000 in
theorem rread_any {l : List UInt8} {s : ByteArray} (w : World) (hs : s = txt l) (hl : l.length ≤ 1000000) :
    Calls Tryz.prog 54 #[.string s] w fun e w' => e = .returned (rval (Qu.rdq l)) ∧ Below w.heap.size w w' := by
  obtain ⟨i0, hi, hz0, hz1, hz2⟩ := info_parts (show (Tryz.prog.info? 5).map (fun i => (i.zero, i.size, i.bytes)) = some (some (.int .u8 0), 1, 1) by kernel_rfl)
  have HS := Lib.hid hs
  have HL := Lib.hid hl
  clear hs hl
  go_enter Tryz.func54, Tryz.ntmps54
  go_wp2_with fail
  refine (units_any _ HS.out HL.out).mono ?_
  rintro e w1 ⟨us, en, v, hq, rfl, hul, hown, hb⟩
  have HF := Lib.hid (show w.heap.size < w1.heap.size by have := hb.size; simp at this; omega)
  have hWs : w.heap.size < (w.alloc (.cells #[.int .i64 0, .int .i64 0] 30)).heap.size := by simp
  have HF0 := Lib.hid (cell_old hb hWs (i := 0) (v := .int .i64 0) (by rw [World.cell?_alloc_at _ _ _ _ rfl]; rfl))
  have HF1 := Lib.hid (cell_old hb hWs (i := 1) (v := .int .i64 0) (by rw [World.cell?_alloc_at _ _ _ _ rfl]; rfl))
  have HG0 := Lib.hid (free_old hb hWs (i := 0) (World.frozen?_alloc_new _ _ _ _))
  have HG1 := Lib.hid (free_old hb hWs (i := 1) (World.frozen?_alloc_new _ _ _ _))
  have HB := Lib.hid (show ∀ w', Below w1.heap.size w1 w' → Below w.heap.size w w' from fun w' h => (below_of hb).trans (h.mono (Nat.le_of_lt HF.out)))
  have HQ := Lib.hid (show Qu.rdq l = Qu.fin (Qu.rdu us) en by rw [← Qu.fin_rdq l, hq])
  have HN6 := Lib.hid (Qu.unq_n hq)
  have hu6 : us.length ≤ 1000000 := by have := HL.out; omega
  obtain ⟨A, cp, rfl, hnc, hg⟩ := uc_of hown rfl
  have HG := Lib.hid hg
  have HNC := Lib.hid hnc
  clear hq hul hown hb hWs hg hnc
  obtain ⟨N, HN⟩ : ∃ N, Hid (N = us.length) := ⟨_, rfl⟩
  rw [← HN.out] at HG HNC hu6
  rw [← HN.out]
  obtain ⟨E, HE⟩ : ∃ E, Hid (E = enI en) := ⟨_, rfl⟩
  rw [← HE.out]
  have R0 : RRel w1 us 0 [] (.slice none 0 0) w1 := ⟨⟨World.ownsRow_nil _ _ _ _, Below.refl _ _⟩, by simp, by
    rw [List.drop_zero]; cases Qu.rdu us <;> simp [Qu.Res.pre]⟩
  go_wp2_with fail
  go_loopw [6, 7] (fun v i wr => ∃ (k : Nat) (t : List UInt8), k ≤ N ∧ i = .int .i64 k ∧ RRel w1 us k t v wr) (fun _ i _ => N - (intOf i).toNat)
  case atStart => exact ⟨0, [], Nat.zero_le _, rfl, R0⟩
  case round =>
    obtain ⟨k, t, hk, rfl, R⟩ := hrel
    clear R0
    have HR := Lib.hid R
    have HW := Lib.hid R.1
    have hbs := R.1.2.size
    have htl : t.length ≤ 4000000 := by have := R.2.1; omega
    clear R
    by_cases hlt : k < N
    · obtain ⟨g, rfl, huc⟩ := HG.out (by omega)
      have HUC := Lib.hid huc
      obtain ⟨u, hu⟩ : ∃ u, us.drop k = u :: us.drop (k + 1) := ⟨us[k]'(by rw [← HN.out]; exact hlt), List.drop_eq_getElem_cons _⟩
      have HU := Lib.hid hu
      have hin : u ∈ us := List.mem_of_mem_drop (by rw [hu]; simp)
      have hn6 : u.byte = false → u.n < 65536 := HN6.out u hin
      obtain ⟨c0, c1, c2, c3⟩ := huc.at_ HW.out.2 hu
      obtain ⟨a, HA⟩ : ∃ a : Int, Hid (a = u.place) := ⟨_, rfl⟩
      obtain ⟨lg, HLG⟩ : ∃ a : Int, Hid (a = u.long) := ⟨_, rfl⟩
      obtain ⟨b, HBY⟩ : ∃ b, Hid (b = u.byte) := ⟨_, rfl⟩
      obtain ⟨n, HNN⟩ : ∃ a : Int, Hid (a = u.n) := ⟨_, rfl⟩
      have CELLS := Lib.hid (show ∀ wx, Below w1.heap.size w1 wx → wx.cell? ⟨g, k * 4, none⟩ = some (.int .i64 a) ∧ wx.cell? ⟨g, k * 4 + 1, none⟩ = some (.int .i64 lg) ∧ wx.cell? ⟨g, k * 4 + 2, none⟩ = some (.bool b) ∧ wx.cell? ⟨g, k * 4 + 3, none⟩ = some (.int .i64 n) from fun wx hb => by
        rw [HA.out, HLG.out, HBY.out, HNN.out]; exact HUC.out.at_ hb HU.out)
      rw [← HA.out] at c0
      rw [← HLG.out] at c1
      rw [← HBY.out] at c2
      rw [← HNN.out] at c3
      clear hu hin huc
      cases b
      · have hb0 : u.byte = false := HBY.out.symm
        have hn7 := hn6 hb0
        have hnn0 : 0 ≤ n := by have := HNN.out; omega
        have hnn1 : n < 65536 := by have := HNN.out; omega
        have HB0 := Lib.hid hb0
        have HN7 := Lib.hid hn7
        clear hn6 hb0 hn7
        obtain ⟨x, HX⟩ : ∃ x, Hid (x = Qu.uh u) := ⟨_, rfl⟩
        obtain ⟨y, HY⟩ : ∃ y, Hid (y = Qu.ul u) := ⟨_, rfl⟩
        go_wp2_with fail
        refine (rhigh_is (u := u) HA.out HLG.out HBY.out HNN.out HX.out _).mono ?_
        rintro e w2 ⟨rfl, hb2⟩
        have HW2 := Lib.hid (HW.out.keep hb2)
        obtain ⟨c0', c1', c2', c3'⟩ := CELLS.out w2 HW2.out.2
        have hbs2 := HW2.out.2.size
        clear hb2 c0 c1 c2 c3
        cases x
        · have hx : Qu.uh u = false := HX.out.symm
          have HXF := Lib.hid hx
          clear hx
          go_wp2_with fail
          refine (rhigh_is (u := u) HA.out HLG.out HBY.out HNN.out HX.out _).mono ?_
          rintro e w3 ⟨rfl, hb3⟩
          have HW3 := Lib.hid (HW2.out.keep hb3)
          obtain ⟨d0, d1, d2, d3⟩ := CELLS.out w3 HW3.out.2
          have hbs3 := HW3.out.2.size
          clear hb3
          clear c0' c1' c2' c3'
          go_wp2_with fail
          refine (rlow_is (u := u) HA.out HLG.out HBY.out HNN.out HY.out _).mono ?_
          rintro e w4 ⟨rfl, hb4⟩
          have HW4 := Lib.hid (HW3.out.keep hb4)
          obtain ⟨e0, e1, e2, e3⟩ := CELLS.out w4 HW4.out.2
          have hbs4 := HW4.out.2.size
          clear hb4 d0 d1 d2 d3
          cases y
          · have HST := Lib.hid (Qu.step_one HU.out HB0.out HXF.out HY.out.symm)
            have hhi : Qu.high u.n = false := by have := HXF.out; simpa [Qu.uh, HB0.out] using this
            have hlo : Qu.low u.n = false := by have := HY.out.symm; simpa [Qu.ul, HB0.out] using this
            have HP := Lib.hid (show puts [n] = Qu.pt u.n by rw [HNN.out]; exact puts_one (by have := HN7.out; omega) hhi hlo)
            have hpl : (puts [n]).length ≤ 4 := by rw [HP.out]; exact pt_len _
            clear hhi hlo
            go_wp2_with (first
              | (at_builtin; refine wpApp _ rfl (.tmp 93) (.tmp 100) 22 rfl w1.heap.size 5 i0 (.int .u8 0) 1 Tryz.underlying22 hi hz0 hz1 hz2 rfl _ t.length (bytV t) rfl HW5.out.1 A5 (puts [n]).length cc _ (puts [n]) rfl rfl hA5 hn5 (by unfold maxLen; omega) (by omega) HW5.out.2.size ?_; intro v2 w2 hown2 hg2 _)
              | (go_at_call 80; refine (rput1 (wx := w4.alloc (.cells #[.int .i64 n] 3)) n (by simp) (by rw [World.cell?_alloc_at _ _ _ _ rfl]; rfl)).mono ?_; rintro e w5 ⟨A5, cc, rfl, hA5, hn5, hb5⟩; have HW5 := Lib.hid (HW4.out.keep (((Below.refl _ _).alloc (Nat.le_refl _) _).trans (hb5.mono (by simp))))))
            have N := Lib.hid (HR.out.next (m := 1) (x := puts [n]) (by rw [HP.out]; exact HST.out) (by omega) (WR.of0 HW5.out hown2 hg2))
            clear hown2 hg2
            go_roundw
            case rel => exact ⟨k + 1, _, by omega, by go_num, N.out⟩
            case measure => simp [intOf]; omega
          · have f0 := cell_old HW4.out.2 HF.out HF0.out
            have f1 := cell_old HW4.out.2 HF.out HF1.out
            have g0 := free_old HW4.out.2 HF.out HG0.out
            have g1 := free_old HW4.out.2 HF.out HG1.out
            have HBB := Lib.hid (HB.out _ HW4.out.2)
            go_wp2_with fail
            go_region
            all_goals go_wp2_with fail
            all_goals refine bodyPost_ret (v := .tuple #[.string ⟨#[]⟩, .agg #[.int .i64 6, .int .i64 a]]) (by simp [results, Tryz.results54, go_sem, *]) rfl ?_
            all_goals refine ⟨by rw [HQ.out, HR.out.2.2, Qu.step_low HU.out HB0.out HXF.out HY.out.symm, HA.out]; simp [Qu.Res.pre, Qu.fin, rval], ?_⟩
            all_goals exact ((HBB.out.setCell (Nat.le_refl _) _).setCell (Nat.le_refl _) _).drew
        · have hx : Qu.uh u = true := HX.out.symm
          have HXT := Lib.hid hx
          have hhi : Qu.high u.n = true := by simpa [Qu.uh, HB0.out] using hx
          have hhb := Qu.high_is hhi
          have HHI := Lib.hid hhi
          have hh1 : 55296 ≤ n := by have := HNN.out; omega
          have hh2 : n ≤ 56319 := by have := HNN.out; omega
          clear hx hhi hhb
          by_cases hm : k + 1 < N
          · obtain ⟨z, hz⟩ : ∃ z, us.drop (k + 1) = z :: us.drop (k + 2) := ⟨us[k + 1]'(by rw [← HN.out]; exact hm), List.drop_eq_getElem_cons _⟩
            have HZ := Lib.hid hz
            obtain ⟨za, HZA⟩ : ∃ a : Int, Hid (a = z.place) := ⟨_, rfl⟩
            obtain ⟨zl, HZL⟩ : ∃ a : Int, Hid (a = z.long) := ⟨_, rfl⟩
            obtain ⟨zb, HZB⟩ : ∃ b, Hid (b = z.byte) := ⟨_, rfl⟩
            obtain ⟨zn, HZN⟩ : ∃ a : Int, Hid (a = z.n) := ⟨_, rfl⟩
            obtain ⟨zy, HZY⟩ : ∃ y, Hid (y = Qu.ul z) := ⟨_, rfl⟩
            have ZC := Lib.hid (show ∀ wx, Below w1.heap.size w1 wx → wx.cell? ⟨g, (k + 1) * 4, none⟩ = some (.int .i64 za) ∧ wx.cell? ⟨g, (k + 1) * 4 + 1, none⟩ = some (.int .i64 zl) ∧ wx.cell? ⟨g, (k + 1) * 4 + 2, none⟩ = some (.bool zb) ∧ wx.cell? ⟨g, (k + 1) * 4 + 3, none⟩ = some (.int .i64 zn) from fun wx hb => by
              rw [HZA.out, HZL.out, HZB.out, HZN.out]; exact HUC.out.at_ hb HZ.out)
            obtain ⟨z0, z1, z2, z3⟩ := ZC.out w2 HW2.out.2
            have hk1 : ((k : Int) + 1).toNat = k + 1 := by omega
            clear hz
            go_wp2_with fail
            refine (rlow_is (u := z) HZA.out HZL.out HZB.out HZN.out HZY.out _).mono ?_
            rintro e w5 ⟨rfl, hb5⟩
            have HW5 := Lib.hid (HW2.out.keep hb5)
            obtain ⟨m0, m1, m2, m3⟩ := CELLS.out w5 HW5.out.2
            obtain ⟨y0, y1, y2, y3⟩ := ZC.out w5 HW5.out.2
            have hbs5 := HW5.out.2.size
            clear hb5 c0' c1' c2' c3' z0 z1 z2 z3
            cases zy
            · go_wp2_with fail
              refine (rhigh_is (u := u) HA.out HLG.out HBY.out HNN.out HX.out _).mono ?_
              rintro e w3 ⟨rfl, hb3⟩
              have HW3 := Lib.hid (HW5.out.keep hb3)
              obtain ⟨d0, d1, d2, d3⟩ := CELLS.out w3 HW3.out.2
              have hbs3 := HW3.out.2.size
              clear hb3
              clear m0 m1 m2 m3 y0 y1 y2 y3
              have f0 := cell_old HW3.out.2 HF.out HF0.out
              have f1 := cell_old HW3.out.2 HF.out HF1.out
              have g0 := free_old HW3.out.2 HF.out HG0.out
              have g1 := free_old HW3.out.2 HF.out HG1.out
              have HBB := Lib.hid (HB.out _ HW3.out.2)
              go_wp2_with fail
              go_region
              all_goals go_wp2_with fail
              all_goals refine bodyPost_ret (v := .tuple #[.string ⟨#[]⟩, .agg #[.int .i64 6, .int .i64 a]]) (by simp [results, Tryz.results54, go_sem, *]) rfl ?_
              all_goals refine ⟨by rw [HQ.out, HR.out.2.2, Qu.step_half HU.out HB0.out HXT.out (by rw [HZ.out]; exact HZY.out.symm), HA.out]; simp [Qu.Res.pre, Qu.fin, rval], ?_⟩
              all_goals exact ((HBB.out.setCell (Nat.le_refl _) _).setCell (Nat.le_refl _) _).drew
            · have HST := Lib.hid (Qu.step_pair HU.out HZ.out HB0.out HXT.out HZY.out.symm)
              have hzb : z.byte = false ∧ Qu.low z.n = true := by have := HZY.out.symm; simpa [Qu.ul] using this
              have hpb := Qu.pair_bd HHI.out hzb.2
              have hlb := Qu.low_is hzb.2
              have hl1 : 56320 ≤ zn := by have := HZN.out; omega
              have hl2 : zn ≤ 57343 := by have := HZN.out; omega
              have hpn : (Qu.pair u.n z.n : Int) = 65536 + 1024 * (n - 55296) + zn - 56320 := by have := HNN.out; have := HZN.out; unfold Qu.pair; omega
              obtain ⟨P, HPP⟩ : ∃ P : Int, Hid (P = 65536 + 1024 * (n - 55296) + zn - 56320) := ⟨_, rfl⟩
              have HP := Lib.hid (show puts [P] = Qu.pt (Qu.pair u.n z.n) by rw [HPP.out, ← hpn]; exact puts_one hpb.2 (by simp [Qu.high]; omega) (by simp [Qu.low]; omega))
              have hpl : (puts [P]).length ≤ 4 := by rw [HP.out]; exact pt_len _
              have HA6 := Lib.hid (show (w5.alloc (.cells #[.int .i64 (65536 + 1024 * (n - 55296) + zn - 56320)] 3)).drew.cell? ⟨w5.heap.size, 0, none⟩ = some (.int .i64 P) by
                rw [HPP.out]; show (w5.alloc _).cell? _ = _; rw [World.cell?_alloc_at _ _ _ _ rfl]; rfl)
              clear hzb hpb hlb hpn
              have hk0 : 0 ≤ (k : Int) + 1 := by omega
              have hw0 : IntKind.i64.wrap ((k : Int) + 1) = (k : Int) + 1 := wrap64_id (by omega) (by omega)
              have hw1 : IntKind.i64.wrap (n - 55296) = n - 55296 := wrap64_id (by omega) (by omega)
              have hw2 : IntKind.i64.wrap (1024 * (n - 55296)) = 1024 * (n - 55296) := wrap64_id (by omega) (by omega)
              have hw3 : IntKind.i64.wrap (65536 + 1024 * (n - 55296)) = 65536 + 1024 * (n - 55296) := wrap64_id (by omega) (by omega)
              have hw4 : IntKind.i64.wrap (65536 + 1024 * (n - 55296) + zn) = 65536 + 1024 * (n - 55296) + zn := wrap64_id (by omega) (by omega)
              have hw5 : IntKind.i64.wrap (65536 + 1024 * (n - 55296) + zn - 56320) = 65536 + 1024 * (n - 55296) + zn - 56320 := wrap64_id (by omega) (by omega)
              go_wp2_with fail
              go_region_law (first
                | (refine step_app rfl (.tmp 53) (.tmp 71) 22 rfl w1.heap.size 5 i0 (.int .u8 0) 1 Tryz.underlying22 hi hz0 hz1 hz2 rfl _ t.length (bytV t) rfl HW6.out.1 A5 (puts [P]).length cc _ (puts [P]) rfl rfl hA5 hn5 (by unfold maxLen; omega) (by omega) HW6.out.2.size ?_; intro v2 w7 hown2 hg2; have HFIN := Lib.hid (HR.out.next (m := 2) (x := puts [P]) (by rw [HP.out]; exact HST.out) (by omega) (WR.of0 HW6.out hown2 hg2)); clear hown2 hg2)
                | (go_simp; go_at_call 80; refine (rput1 (wx := (w5.alloc (.cells #[.int .i64 (65536 + 1024 * (n - 55296) + zn - 56320)] 3)).drew) P (by show _ < (w5.alloc _).heap.size; simp) HA6.out).mono ?_; rintro e w6 ⟨A5, cc, rfl, hA5, hn5, hb6⟩; have HW6 := Lib.hid (HW5.out.keep (((Below.refl _ _).alloc (Nat.le_refl _) _).trans (Below.drewOf (hb6.mono (by show w5.heap.size ≤ (w5.alloc _).heap.size; simp)))))))
              all_goals go_wp2_with fail
              all_goals go_roundw
              all_goals first | exact ⟨k + 2, _, by omega, by go_num, HFIN.out⟩ | (simp [intOf]; omega)
          · have hm' : ¬ ((k : Int) + 1 < N) := by omega
            have HNO := Lib.hid (show us.drop (k + 1) = [] by rw [List.drop_eq_nil_of_le]; rw [← HN.out]; omega)
            go_wp2_with fail
            refine (rhigh_is (u := u) HA.out HLG.out HBY.out HNN.out HX.out _).mono ?_
            rintro e w3 ⟨rfl, hb3⟩
            have HW3 := Lib.hid (HW2.out.keep hb3)
            obtain ⟨d0, d1, d2, d3⟩ := CELLS.out w3 HW3.out.2
            have hbs3 := HW3.out.2.size
            clear hb3
            clear c0' c1' c2' c3'
            have f0 := cell_old HW3.out.2 HF.out HF0.out
            have f1 := cell_old HW3.out.2 HF.out HF1.out
            have g0 := free_old HW3.out.2 HF.out HG0.out
            have g1 := free_old HW3.out.2 HF.out HG1.out
            have HBB := Lib.hid (HB.out _ HW3.out.2)
            go_wp2_with fail
            go_region
            all_goals go_wp2_with fail
            all_goals refine bodyPost_ret (v := .tuple #[.string ⟨#[]⟩, .agg #[.int .i64 6, .int .i64 a]]) (by simp [results, Tryz.results54, go_sem, *]) rfl ?_
            all_goals refine ⟨by rw [HQ.out, HR.out.2.2, Qu.step_half HU.out HB0.out HXT.out (by rw [HNO.out]; rfl), HA.out]; simp [Qu.Res.pre, Qu.fin, rval], ?_⟩
            all_goals exact ((HBB.out.setCell (Nat.le_refl _) _).setCell (Nat.le_refl _) _).drew
      · have hb1 : u.byte = true := HBY.out.symm
        have HST := Lib.hid (Qu.step_byte HU.out hb1)
        obtain ⟨Y, HYY⟩ : ∃ Y : Int, Hid (Y = ((UInt8.ofNat u.n).toNat : Int)) := ⟨_, rfl⟩
        have hw : IntKind.u8.wrap n = Y := by rw [IntKind.wrap_u8', HNN.out, HYY.out]; simp
        clear hn6 hb1
        go_wp2_with (at_builtin; refine wpApp _ rfl (.tmp 24) (.tmp 31) 22 rfl w1.heap.size 5 i0 (.int .u8 0) 1 Tryz.underlying22 hi hz0 hz1 hz2 rfl _ t.length (bytV t) rfl (HW.out.1.alloc _) (some ⟨wr.heap.size, 0, none⟩) 1 1 _ [UInt8.ofNat u.n] rfl rfl (cells_one' (UInt8.ofNat u.n) Y HYY.out) (fun h => by cases h) (by unfold maxLen; omega) (by omega) (by simp; have := hbs; omega) ?_; intro v2 w2 hown2 hg2 _)
        have N := Lib.hid (HR.out.next (m := 1) HST.out (by simp) (WR.of HW.out hown2 hg2))
        clear hown2 hg2
        go_roundw
        case rel => exact ⟨k + 1, _, by omega, by go_num, N.out⟩
        case measure => simp [intOf]; omega
    · obtain rfl : k = N := by omega
      have HT := Lib.hid (rread_end HR.out.2.2 (by rw [← HN.out]; exact Nat.le_refl _))
      have f0 := cell_old HW.out.2 HF.out HF0.out
      have f1 := cell_old HW.out.2 HF.out HF1.out
      have g0 := free_old HW.out.2 HF.out HG0.out
      have g1 := free_old HW.out.2 HF.out HG1.out
      have HBB := Lib.hid (HB.out _ HW.out.2)
      cases en with
      | some m =>
        have hE : E = (m : Int) := HE.out
        subst hE
        go_wp2_with fail
        refine bodyPost_ret (v := .tuple #[.string ⟨#[]⟩, .agg #[.int .i64 3, .int .i64 m]]) (by simp [results, Tryz.results54, go_sem, *]) rfl ?_
        refine ⟨by rw [HQ.out, HT.out]; rfl, ?_⟩
        exact (HBB.out.setCell (Nat.le_refl _) _).setCell (Nat.le_refl _) _
      | none =>
        have hE : E = -1 := HE.out
        subst hE
        obtain ⟨A2, n2, c2, S, hv, hcv, hS⟩ := HW.out.conv
        have HSS := Lib.hid hS
        subst hv
        clear hS
        go_wp2_with fail
        refine bodyPost_ret (v := .tuple #[.string S, .agg #[.int .i64 0, .int .i64 0]]) (by simp [results, Tryz.results54, go_sem, *]) rfl ?_
        refine ⟨by rw [HQ.out, HT.out, HSS.out]; rfl, ?_⟩
        exact (HBB.out.setCell (Nat.le_refl _) _).setCell (Nat.le_refl _) _
end Go.Proofs.YtdclhepjoifpiaaGreatDoor
