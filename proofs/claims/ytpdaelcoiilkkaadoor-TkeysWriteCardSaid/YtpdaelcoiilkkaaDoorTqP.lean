/- The reader's stretch of plain bytes (TOML). -/
import Derived.Test.YtpdaelcoiilkkaaDoorTqT
namespace Go.Proofs.YtpdaelcoiilkkaaDoor
open Go.RowKit

section
variable {W w : World} {b : Nat} {K : Kd} {s : ByteArray} {p : Nat} {t l : List UInt8}
set_option maxHeartbeats 4000000 in
theorem tstretch_any (o : Int) (h : TR W b K s w p t) (hs : s = txt l) (hl : l.length ≤ 1000000) (hp : p ≤ l.length) (ht : t.length ≤ 4 * p) :
    Calls Tryd.prog 89 #[.pointer (some ⟨b, 0, none⟩), .int .u8 o] w fun e w' => e = .returned (.bool (decide (p < prs K.m o l p))) ∧ TR W b K s w' (prs K.m o l p) (t ++ (l.take (prs K.m o l p)).drop p) := by
  obtain ⟨i0, hi, hz0, hz1, hz2⟩ := info_parts (show (Tryd.prog.info? 5).map (fun i => (i.zero, i.size, i.bytes)) = some (some (.int .u8 0), 1, 1) by kernel_rfl)
  have R0 := h
  have HS := Lib.hid hs
  have HL := Lib.hid hl
  have HP := Lib.hid hp
  have HT := Lib.hid ht
  obtain ⟨_, _, v0, h30, _⟩ := h
  obtain ⟨_, c10, _, _, _⟩ := td_cells h30
  clear hs hl hp ht h30
  go_enter Tryd.func89, Tryd.ntmps89
  go_wp2_with fail
  clear c10
  go_loopw [] (fun wr => ∃ k : Nat, p ≤ k ∧ k ≤ l.length ∧ prs K.m o l p = prs K.m o l k ∧ TR W b K s wr k t) (fun wr => s.size - posOf b wr)
  case atStart => exact ⟨p, Nat.le_refl _, HP.out, rfl, R0⟩
  case round =>
    obtain ⟨k, hpk, hk, hkr, R⟩ := hrel
    clear R0
    have HR := Lib.hid R
    have HK := Lib.hid hkr
    have hsz : s.size = l.length := by rw [HS.out, txt_size]
    obtain ⟨r1, r2, v, h3, h4⟩ := R
    obtain ⟨c0, c1, c2, c3, cf⟩ := td_cells h3
    have f1 := cf 1
    have hm : s.size ≤ 1000000 := by have := HL.out; omega
    have HK2 := Lib.hid hk
    have HB := Lib.hid hpk
    have H3 := Lib.hid h3
    have H4 := Lib.hid h4
    have H1 := Lib.hid r1
    clear hkr h3 cf hk h4 r1
    by_cases hq : k < l.length
    · have hx := txt_at HS.out (k := k)
      have hz : k < s.size := by omega
      obtain ⟨y, HY⟩ : ∃ y, Hid (y = bt l k) := ⟨_, rfl⟩
      rw [← HY.out] at hx
      obtain ⟨x, HX⟩ : ∃ x, Hid (x = plJ y) := ⟨_, rfl⟩
      cases x
      · have E := Lib.hid (prs_end (q := K.m) (o := o) (l := l) (k := k) (by rw [stp, ← HY.out, ← HX.out]; simp))
        clear hq hpk hsz
        go_wp2_with fail
        go_quiet (first | (go_at_call 51; refine (plainJ_is HX.out _).mono ?_; rintro _ _ ⟨rfl, rfl⟩; exact ⟨rfl, _, rfl⟩))
        go_wp2_with fail
        have R2 := HR.out.drewN nq
        obtain ⟨w2, HW2⟩ : ∃ w2, w2 = wr.drewN nq := ⟨_, rfl⟩
        rw [← HW2] at R2 ⊢
        clear HW2 c0 c1 c2 c3 f1 H3 H4 H1 r2
        have HK3 := Lib.hid (show prs K.m o l p = k by rw [HK.out, E.out])
        have HU := Lib.hid (show s.extract p k = txt ((l.take k).drop p) by rw [HS.out, txt_cut])
        have hul : ((l.take k).drop p).length ≤ 1000000 := by simp; have := HL.out; omega
        have hbb : (p : Int) ≤ k := by have := HB.out; omega
        have htl : t.length ≤ 4000000 := by have := HT.out; have := HP.out; have := HL.out; omega
        have hks : (k : Int) ≤ s.size := by have := HK2.out; have := HS.out; rw [this, txt_size]; omega
        have hb1 : W.heap.size ≤ w2.heap.size := R2.1.size
        obtain ⟨r1, r2, v, h3, h4⟩ := R2
        obtain ⟨c0, c1, c2, c3, cf⟩ := td_cells h3
        have f2 := cf 3
        have H3 := Lib.hid h3
        have H4 := Lib.hid h4
        have H1 := Lib.hid r1
        have H2 := Lib.hid r2
        clear h3 h4 r1 r2 cf E c2
        go_region_law (first | (refine tstep_str (w := w2.drew) rfl (.tmp 72) (.tmp 82) 49 9 rfl W.heap.size 5 i0 Tryd.underlying49 Tryd.underlying9 hi hz0 hz1 hz2 v t.length (bytV t) rfl H4.out.drew (s.extract p k) rfl (by rw [HU.out, txt_size]; unfold maxLen; omega) (by rw [HU.out, txt_size]; omega) hb1 ?_; intro v' w3 hown3 hg3; rw [HU.out, strCells_txt, txt_size] at hown3; obtain ⟨⟨A', n', cp', rfl⟩, h5, R3⟩ := TR.text (w := w2) (p := k) H1.out H2.out H3.out H4.out hown3 (gDrew hg3); obtain ⟨c0', c1', c2', c3', cf'⟩ := td_cells h5; have f2' := cf' 3; clear cf' h5 hown3 hg3 c2'))
        all_goals (have HR3 := Lib.hid R3; obtain ⟨_, _, v9, h9, _⟩ := R3; obtain ⟨_, d1, _, _, _⟩ := td_cells h9; clear h9)
        all_goals go_wp2_with fail
        all_goals go_ret
        all_goals exact ⟨by rw [HK3.out]; rfl, by rw [HK3.out]; exact HR3.out⟩
      · obtain ⟨m, HM⟩ : ∃ m, Hid (m = K.m) := ⟨_, rfl⟩
        rw [← HM.out] at c2
        by_cases hy1 : y = m
        · have E := Lib.hid (prs_end (q := K.m) (o := o) (l := l) (k := k) (by rw [stp, ← HY.out, ← HM.out, hy1]; simp))
          have hb1 : (y != m) = false := by simp [hy1]
          clear hy1
          clear hq hpk hsz
          go_wp2_with fail
          go_quiet (first | (go_at_call 51; refine (plainJ_is HX.out _).mono ?_; rintro _ _ ⟨rfl, rfl⟩; exact ⟨rfl, _, rfl⟩))
          go_wp2_with fail
          have R2 := HR.out.drewN nq
          obtain ⟨w2, HW2⟩ : ∃ w2, w2 = wr.drewN nq := ⟨_, rfl⟩
          rw [← HW2] at R2 ⊢
          clear HW2 c0 c1 c2 c3 f1 H3 H4 H1 r2
          have HK3 := Lib.hid (show prs K.m o l p = k by rw [HK.out, E.out])
          have HU := Lib.hid (show s.extract p k = txt ((l.take k).drop p) by rw [HS.out, txt_cut])
          have hul : ((l.take k).drop p).length ≤ 1000000 := by simp; have := HL.out; omega
          have hbb : (p : Int) ≤ k := by have := HB.out; omega
          have htl : t.length ≤ 4000000 := by have := HT.out; have := HP.out; have := HL.out; omega
          have hks : (k : Int) ≤ s.size := by have := HK2.out; have := HS.out; rw [this, txt_size]; omega
          have hb1 : W.heap.size ≤ w2.heap.size := R2.1.size
          obtain ⟨r1, r2, v, h3, h4⟩ := R2
          obtain ⟨c0, c1, c2, c3, cf⟩ := td_cells h3
          have f2 := cf 3
          have H3 := Lib.hid h3
          have H4 := Lib.hid h4
          have H1 := Lib.hid r1
          have H2 := Lib.hid r2
          clear h3 h4 r1 r2 cf E c2
          go_region_law (first | (refine tstep_str (w := w2.drew) rfl (.tmp 72) (.tmp 82) 49 9 rfl W.heap.size 5 i0 Tryd.underlying49 Tryd.underlying9 hi hz0 hz1 hz2 v t.length (bytV t) rfl H4.out.drew (s.extract p k) rfl (by rw [HU.out, txt_size]; unfold maxLen; omega) (by rw [HU.out, txt_size]; omega) hb1 ?_; intro v' w3 hown3 hg3; rw [HU.out, strCells_txt, txt_size] at hown3; obtain ⟨⟨A', n', cp', rfl⟩, h5, R3⟩ := TR.text (w := w2) (p := k) H1.out H2.out H3.out H4.out hown3 (gDrew hg3); obtain ⟨c0', c1', c2', c3', cf'⟩ := td_cells h5; have f2' := cf' 3; clear cf' h5 hown3 hg3 c2'))
          all_goals (have HR3 := Lib.hid R3; obtain ⟨_, _, v9, h9, _⟩ := R3; obtain ⟨_, d1, _, _, _⟩ := td_cells h9; clear h9)
          all_goals go_wp2_with fail
          all_goals go_ret
          all_goals exact ⟨by rw [HK3.out]; rfl, by rw [HK3.out]; exact HR3.out⟩
        · have hb1 : (y != m) = true := by simp [hy1]
          by_cases hy2 : y = o
          · have E := Lib.hid (prs_end (q := K.m) (o := o) (l := l) (k := k) (by rw [stp, ← HY.out, hy2]; simp))
            have hb2 : (y != o) = false := by simp [hy2]
            clear hy1 hy2
            clear hq hpk hsz
            go_wp2_with fail
            go_quiet (first | (go_at_call 51; refine (plainJ_is HX.out _).mono ?_; rintro _ _ ⟨rfl, rfl⟩; exact ⟨rfl, _, rfl⟩))
            go_wp2_with fail
            have R2 := HR.out.drewN nq
            obtain ⟨w2, HW2⟩ : ∃ w2, w2 = wr.drewN nq := ⟨_, rfl⟩
            rw [← HW2] at R2 ⊢
            clear HW2 c0 c1 c2 c3 f1 H3 H4 H1 r2
            have HK3 := Lib.hid (show prs K.m o l p = k by rw [HK.out, E.out])
            have HU := Lib.hid (show s.extract p k = txt ((l.take k).drop p) by rw [HS.out, txt_cut])
            have hul : ((l.take k).drop p).length ≤ 1000000 := by simp; have := HL.out; omega
            have hbb : (p : Int) ≤ k := by have := HB.out; omega
            have htl : t.length ≤ 4000000 := by have := HT.out; have := HP.out; have := HL.out; omega
            have hks : (k : Int) ≤ s.size := by have := HK2.out; have := HS.out; rw [this, txt_size]; omega
            have hb1 : W.heap.size ≤ w2.heap.size := R2.1.size
            obtain ⟨r1, r2, v, h3, h4⟩ := R2
            obtain ⟨c0, c1, c2, c3, cf⟩ := td_cells h3
            have f2 := cf 3
            have H3 := Lib.hid h3
            have H4 := Lib.hid h4
            have H1 := Lib.hid r1
            have H2 := Lib.hid r2
            clear h3 h4 r1 r2 cf E c2
            go_region_law (first | (refine tstep_str (w := w2.drew) rfl (.tmp 72) (.tmp 82) 49 9 rfl W.heap.size 5 i0 Tryd.underlying49 Tryd.underlying9 hi hz0 hz1 hz2 v t.length (bytV t) rfl H4.out.drew (s.extract p k) rfl (by rw [HU.out, txt_size]; unfold maxLen; omega) (by rw [HU.out, txt_size]; omega) hb1 ?_; intro v' w3 hown3 hg3; rw [HU.out, strCells_txt, txt_size] at hown3; obtain ⟨⟨A', n', cp', rfl⟩, h5, R3⟩ := TR.text (w := w2) (p := k) H1.out H2.out H3.out H4.out hown3 (gDrew hg3); obtain ⟨c0', c1', c2', c3', cf'⟩ := td_cells h5; have f2' := cf' 3; clear cf' h5 hown3 hg3 c2'))
            all_goals (have HR3 := Lib.hid R3; obtain ⟨_, _, v9, h9, _⟩ := R3; obtain ⟨_, d1, _, _, _⟩ := td_cells h9; clear h9)
            all_goals go_wp2_with fail
            all_goals go_ret
            all_goals exact ⟨by rw [HK3.out]; rfl, by rw [HK3.out]; exact HR3.out⟩
          · have hb2 : (y != o) = true := by simp [hy2]
            have E := Lib.hid (prs_on (q := K.m) (o := o) (l := l) (k := k) hq (by rw [stp, ← HY.out, ← HX.out, ← HM.out]; simp [hy1, hy2]))
            have hq1 : k + 1 ≤ l.length := hq
            clear hq hpk hsz hy1 hy2
            go_wp2_with fail
            go_quiet (first | (go_at_call 51; refine (plainJ_is HX.out _).mono ?_; rintro _ _ ⟨rfl, rfl⟩; exact ⟨rfl, _, rfl⟩))
            go_wp2_with fail
            go_roundw
            case rel =>
              refine ⟨k + 1, by have := HB.out; omega, hq1, by rw [HK.out, E.out], ?_⟩
              have := (HR.out.drewN nq).pos ((k + 1 : Nat) : Int)
              simpa using this
            case measure =>
              have := (HR.out.drewN nq).pos ((k + 1 : Nat) : Int)
              rw [HR.out.posOf]
              have := TR.posOf this
              simp at this
              rw [this]; omega
    · have E := Lib.hid (prs_end (q := K.m) (o := o) (l := l) (k := k) (by simp [hq]))
      have g1 : decide (k < s.size) = false := decide_eq_false (by omega)
      clear hq hpk hsz
      go_wp2_with fail
      go_quiet (fail)
      go_wp2_with fail
      have R2 := HR.out.drewN nq
      obtain ⟨w2, HW2⟩ : ∃ w2, w2 = wr.drewN nq := ⟨_, rfl⟩
      rw [← HW2] at R2 ⊢
      clear HW2 c0 c1 c2 c3 f1 H3 H4 H1 r2
      have HK3 := Lib.hid (show prs K.m o l p = k by rw [HK.out, E.out])
      have HU := Lib.hid (show s.extract p k = txt ((l.take k).drop p) by rw [HS.out, txt_cut])
      have hul : ((l.take k).drop p).length ≤ 1000000 := by simp; have := HL.out; omega
      have hbb : (p : Int) ≤ k := by have := HB.out; omega
      have htl : t.length ≤ 4000000 := by have := HT.out; have := HP.out; have := HL.out; omega
      have hks : (k : Int) ≤ s.size := by have := HK2.out; have := HS.out; rw [this, txt_size]; omega
      have hb1 : W.heap.size ≤ w2.heap.size := R2.1.size
      obtain ⟨r1, r2, v, h3, h4⟩ := R2
      obtain ⟨c0, c1, c2, c3, cf⟩ := td_cells h3
      have f2 := cf 3
      have H3 := Lib.hid h3
      have H4 := Lib.hid h4
      have H1 := Lib.hid r1
      have H2 := Lib.hid r2
      clear h3 h4 r1 r2 cf E c2
      go_region_law (first | (refine tstep_str (w := w2.drew) rfl (.tmp 72) (.tmp 82) 49 9 rfl W.heap.size 5 i0 Tryd.underlying49 Tryd.underlying9 hi hz0 hz1 hz2 v t.length (bytV t) rfl H4.out.drew (s.extract p k) rfl (by rw [HU.out, txt_size]; unfold maxLen; omega) (by rw [HU.out, txt_size]; omega) hb1 ?_; intro v' w3 hown3 hg3; rw [HU.out, strCells_txt, txt_size] at hown3; obtain ⟨⟨A', n', cp', rfl⟩, h5, R3⟩ := TR.text (w := w2) (p := k) H1.out H2.out H3.out H4.out hown3 (gDrew hg3); obtain ⟨c0', c1', c2', c3', cf'⟩ := td_cells h5; have f2' := cf' 3; clear cf' h5 hown3 hg3 c2'))
      all_goals (have HR3 := Lib.hid R3; obtain ⟨_, _, v9, h9, _⟩ := R3; obtain ⟨_, d1, _, _, _⟩ := td_cells h9; clear h9)
      all_goals go_wp2_with fail
      all_goals go_ret
      all_goals exact ⟨by rw [HK3.out]; rfl, by rw [HK3.out]; exact HR3.out⟩
end
end Go.Proofs.YtpdaelcoiilkkaaDoor
