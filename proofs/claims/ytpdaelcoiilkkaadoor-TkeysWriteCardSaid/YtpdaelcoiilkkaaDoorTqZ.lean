/- Lines of long strings; a long basic string without a backslash, read whole (TOML). -/
import Derived.Test.YtpdaelcoiilkkaaDoorTqU
import Derived.Test.YtpdaelcoiilkkaaDoorTqY
namespace Go.Proofs.YtpdaelcoiilkkaaDoor
open Go.RowKit

section
variable {W w : World} {b : Nat} {K : Kd} {s : ByteArray} {p : Nat} {t l : List UInt8}
set_option maxHeartbeats 4000000 in
set_option maxRecDepth 100000 in
theorem tline_any (h : TR W b K s w p t) (hs : s = txt l) (hl : l.length ≤ 1000000) (hp : p ≤ l.length) (ht : t.length ≤ 4 * p) {B : Bool} (hB : B = leB l p) :
    Calls Tryd.prog 90 #[.pointer (some ⟨b, 0, none⟩)] w fun e w' => e = .returned (.bool B) ∧ TR W b K s w' ((leP l p : Nat) : Int) (if B = true then t ++ (l.take (leP l p)).drop p else t) := by
  obtain ⟨i0, hi, hz0, hz1, hz2⟩ := info_parts (show (Tryd.prog.info? 5).map (fun i => (i.zero, i.size, i.bytes)) = some (some (.int .u8 0), 1, 1) by kernel_rfl)
  have HR := Lib.hid h
  have HS := Lib.hid hs
  have HL := Lib.hid hl
  have HP := Lib.hid hp
  have HT := Lib.hid ht
  have HB := Lib.hid hB
  obtain ⟨P, HPP⟩ : ∃ P, Hid (P = leP l p) := ⟨_, rfl⟩
  have HPL := Lib.hid (leP_le hp)
  rw [← HPP.out]
  obtain ⟨_, _, v, h3, _⟩ := h
  obtain ⟨c0, c1, c2, c3, cf⟩ := td_cells h3
  clear hs hl hp ht hB h3 cf c0 c2 c3
  go_enter Tryd.func90, Tryd.ntmps90
  go_wp2_with fail
  refine (tlineEnd_any HR.out HS.out HL.out HP.out HB.out).mono ?_
  rintro e w1 ⟨rfl, R1⟩
  rw [← HPP.out] at R1
  have HR1 := Lib.hid R1
  clear R1
  cases B
  · go_wp2_with fail
    go_ret
    exact ⟨rfl, HR1.out⟩
  · have HU := Lib.hid (show s.extract p P = txt ((l.take P).drop p) by rw [HS.out, txt_cut])
    have hul : ((l.take P).drop p).length ≤ 1000000 := by simp; have := HL.out; omega
    have hbb : (p : Int) ≤ P := by have := HPL.out; have := HPP.out; omega
    have htl : t.length ≤ 4000000 := by have := HT.out; have := HP.out; have := HL.out; omega
    have hks : (P : Int) ≤ s.size := by have := HPL.out; have := HPP.out; have := HS.out; rw [this, txt_size]; omega
    obtain ⟨w2, HW2⟩ : ∃ w2, w2 = w1 := ⟨_, rfl⟩
    have R2 := HR1.out
    rw [← HW2] at R2 ⊢
    clear HW2
    have hb1 : W.heap.size ≤ w2.heap.size := R2.1.size
    obtain ⟨r1, r2, v, h3, h4⟩ := R2
    obtain ⟨c0, c1, c2, c3, cf⟩ := td_cells h3
    have f2 := cf 3
    have H3 := Lib.hid h3
    have H4 := Lib.hid h4
    have H1 := Lib.hid r1
    have H2 := Lib.hid r2
    clear h3 h4 r1 r2 cf c2
    go_wp2_with fail
    go_region_law (first | (refine tstep_str (w := w2.drew) rfl (.tmp 18) (.tmp 30) 49 9 rfl W.heap.size 5 i0 Tryd.underlying49 Tryd.underlying9 hi hz0 hz1 hz2 v t.length (bytV t) rfl H4.out.drew (s.extract p P) rfl (by rw [HU.out, txt_size]; unfold maxLen; omega) (by rw [HU.out, txt_size]; omega) hb1 ?_; intro v' w3 hown3 hg3; rw [HU.out, strCells_txt, txt_size] at hown3; obtain ⟨⟨A', n', cp', rfl⟩, h5, R3⟩ := TR.text (w := w2) (p := P) H1.out H2.out H3.out H4.out hown3 (gDrew hg3); obtain ⟨c0', c1', c2', c3', cf'⟩ := td_cells h5; have f2' := cf' 3; clear cf' h5 hown3 hg3 c2'))
    all_goals (have HR3 := Lib.hid R3; clear R3)
    all_goals go_wp2_with fail
    all_goals go_ret
    all_goals exact ⟨rfl, HR3.out⟩
/-- What is left of a part's reading. -/
def PtPost (W : World) (b : Nat) (K : Kd) (s : ByteArray) (l : List UInt8) (p : Nat) (t : List UInt8) (e : Ending) (w' : World) : Prop :=
  (∃ j, Tq.rs 34 true (l.drop p) = .bad j ∧ e = .returned (.bool false) ∧ ∃ u, TR W b K s w' ((p + j : Nat) : Int) u) ∨
  (∃ u p', Tq.rs 34 true (l.drop p) = (Tq.rs 34 true (l.drop p')).pre (p' - p) u ∧ p < p' ∧ p' ≤ l.length ∧ u.length ≤ 4 * (p' - p) ∧ e = .returned (.bool true) ∧ TR W b K s w' (p' : Int) (t ++ u))
set_option maxHeartbeats 4000000 in
set_option maxRecDepth 100000 in
theorem tpart_any (h : TR W b K s w p t) (hs : s = txt l) (hl : l.length ≤ 1000000) (hp : p ≤ l.length) (ht : t.length ≤ 4 * p) (hq : K.q = 34) (h34 : tkC l p K.m = false) (h92 : ∀ k, tkC l k 92 = false) :
    Calls Tryd.prog 85 #[.pointer (some ⟨b, 0, none⟩)] w (PtPost W b K s l p t) := by
  have HR := Lib.hid h
  have HS := Lib.hid hs
  have HL := Lib.hid hl
  have HP := Lib.hid hp
  have HT := Lib.hid ht
  have HM := Lib.hid (show K.m = (((34 : UInt8).toNat : Nat) : Int) by rw [K.hm, hq])
  have HN34 := Lib.hid (show tkC l p (((34 : UInt8).toNat : Nat) : Int) = false by rw [← HM.out]; exact h34)
  have H92 := Lib.hid (h92 p)
  obtain ⟨x, HX⟩ : ∃ x, Hid (x = decide (p < prs K.m 92 l p)) := ⟨_, rfl⟩
  clear h hs hl hp ht hq h34 h92
  go_enter Tryd.func85, Tryd.ntmps85
  go_wp2_with fail
  refine (tstretch_any 92 HR.out HS.out HL.out HP.out HT.out).mono ?_
  rintro e w5 ⟨he, R5⟩
  rw [← HX.out] at he
  subst he
  have HR5 := Lib.hid R5
  clear R5
  cases x
  · have hnl := of_decide_eq_false HX.out.symm
    have HPR := Lib.hid hnl
    have hpr := prs_no hnl
    have HR6 : Hid (TR W b K s w5 (p : Int) t) := by
      have := HR5.out
      rw [hpr] at this
      have e : (l.take p).drop p = [] := by simp
      rwa [e, List.append_nil] at this
    have HLN := Lib.hid (rs_line (q := 34) (o := 92) (by have := HPR.out; rw [HM.out] at this; exact this) HN34.out H92.out (fun _ => rfl) HP.out)
    have HLE := Lib.hid (leP_le HP.out)
    obtain ⟨B, HB⟩ : ∃ B, Hid (B = leB l p) := ⟨_, rfl⟩
    clear hnl hpr HR5
    go_wp2_with fail
    refine (ttake_n 92 HR6.out HS.out HL.out HP.out H92.out).mono ?_
    rintro e w6 ⟨rfl, R6⟩
    have HR7 := Lib.hid R6
    clear R6
    go_wp2_with fail
    refine (tline_any HR7.out HS.out HL.out HP.out HT.out HB.out).mono ?_
    rintro e w7 ⟨rfl, R7⟩
    have HR8 := Lib.hid R7
    clear R7
    go_wp2_with fail
    go_ret
    cases B with
    | false =>
      refine .inl ⟨leP l p - p, HLN.out.2 HB.out.symm, rfl, t, ?_⟩
      have e : p + (leP l p - p) = leP l p := by have := HLE.out; omega
      rw [e]; exact HR8.out
    | true =>
      have h1 := leB_lt HB.out.symm
      refine .inr ⟨(l.take (leP l p)).drop p, leP l p, HLN.out.1 HB.out.symm, h1, HLE.out.2, by simp; omega, rfl, HR8.out⟩
  · have hlt := of_decide_eq_true HX.out.symm
    have hle := prs_le (q := K.m) (o := 92) HP.out
    have HN := Lib.hid (show Tq.rs 34 true (l.drop p) = (Tq.rs 34 true (l.drop (prs K.m 92 l p))).pre (prs K.m 92 l p - p) ((l.take (prs K.m 92 l p)).drop p) by
      have := rs_prs (q := 34) (o := 92) (long := true) (fun _ => rfl) l p
      rw [← HM.out] at this; exact this)
    have HLT := Lib.hid hlt
    have HLE := Lib.hid hle
    clear hlt hle
    go_wp2_with fail
    go_ret
    exact .inr ⟨_, _, HN.out, HLT.out, HLE.out, by have := HLT.out; simp; omega, rfl, HR5.out⟩
/-- A round of the long basic string's loop. -/
def LRel (W : World) (b : Nat) (K : Kd) (s : ByteArray) (l : List UInt8) (p : Nat) (r : Tq.R) (k : Nat) (t : List UInt8) (wr : World) : Prop :=
  TR W b K s wr (k : Int) t ∧ p + 3 ≤ k ∧ k ≤ l.length ∧ t.length ≤ 4 * k ∧ r = (Tq.rs 34 true (l.drop k)).pre (k - p) t
set_option maxHeartbeats 8000000 in
set_option maxRecDepth 100000 in
theorem tlbas_any (h : TR W b K s w p []) (hs : s = txt l) (hl : l.length ≤ 1000000) (h0 : tkC l p K.m = true) (h1 : tkC l (p + 1) K.m = true) (h2 : tkC l (p + 2) K.m = true) (hq : K.q = 34) (h92 : ∀ k, tkC l k 92 = false) {r : Tq.R} (hr : r = (Tq.rs 34 true (l.drop (loP l p))).pre (loP l p - p) []) :
    Calls Tryd.prog 83 #[.pointer (some ⟨b, 0, none⟩)] w (WhPost W b K s p r) := by
  have HR := Lib.hid h
  have HS := Lib.hid hs
  have HL := Lib.hid hl
  have H0 := Lib.hid h0
  have H1 := Lib.hid h1
  have H2 := Lib.hid h2
  have HQ := Lib.hid hq
  have H92 := Lib.hid h92
  have HM := Lib.hid (show K.m = (((34 : UInt8).toNat : Nat) : Int) by rw [K.hm, hq])
  have HRR := Lib.hid hr
  have HLO : Hid (p + 3 ≤ loP l p ∧ loP l p ≤ l.length) := by
    have h3 := tkC_lt h2
    have := leP_le (l := l) (p := p + 3) h3
    unfold loP
    split <;> exact ⟨by omega, by omega⟩
  clear h hs hl h0 h1 h2 hq h92 hr
  go_enter Tryd.func83, Tryd.ntmps83
  go_wp2_with fail
  refine (tlongopen_any HR.out HS.out HL.out H0.out H1.out H2.out).mono ?_
  rintro e w1 ⟨rfl, R1⟩
  have R0 : LRel W b K s l p r (loP l p) [] w1 := ⟨R1, HLO.out.1, HLO.out.2, by simp, HRR.out⟩
  clear R1
  go_wp2_with fail
  go_loopw [] (fun wr => ∃ (k : Nat) (t : List UInt8), LRel W b K s l p r k t wr) (fun wr => s.size - posOf b wr)
  case atStart => exact ⟨_, [], R0⟩
  case round =>
    obtain ⟨k, t, R⟩ := hrel
    clear R0 HR
    have HJ := Lib.hid R
    have HZ := Lib.hid (show s.size = l.length by rw [HS.out, txt_size])
    clear R
    obtain ⟨P, HP⟩ : ∃ P, Hid (P = k + mk5 K.q l k) := ⟨_, rfl⟩
    obtain ⟨u, HU⟩ : ∃ u, Hid (u = t ++ List.replicate (if 3 ≤ mk5 K.q l k then mk5 K.q l k - 3 else mk5 K.q l k) K.q) := ⟨_, rfl⟩
    obtain ⟨B, HB⟩ : ∃ B, Hid (B = decide (3 ≤ mk5 K.q l k)) := ⟨_, rfl⟩
    go_wp2_with fail
    refine (tended_any HJ.out.1 HS.out HL.out HJ.out.2.2.1 HJ.out.2.2.2.1 HB.out HP.out HU.out).mono ?_
    rintro e w2 ⟨rfl, R2⟩
    have HR2 := Lib.hid R2
    clear R2
    cases B
    · have hlt : mk5 K.q l k < 3 := by have := of_decide_eq_false HB.out.symm; omega
      obtain ⟨m1, m2⟩ := rs_marks hlt
      have hu : u = t ++ List.replicate (mk5 K.q l k) K.q := by rw [HU.out, if_neg (by omega)]
      have hrn : k + mk5 K.q l k ≤ l.length := by
        have := rnl_le K.q (l.drop k)
        have h5 := HJ.out.2.2.1
        simp at this
        unfold mk5; omega
      have N : Hid (LRel W b K s l p r P u w2) := by
        obtain ⟨_, g1, g2, g3, g4⟩ := HJ.out
        refine ⟨HR2.out, by have := HP.out; omega, by rw [HP.out]; exact hrn, by rw [hu, HP.out]; simp; omega, ?_⟩
        rw [HQ.out] at m1
        rw [g4, m1, Tq.pre_pre, hu, HP.out, HQ.out]; congr 1; omega
      have HN34 := Lib.hid (show tkC l P K.m = false by rw [HP.out, K.hm]; exact m2)
      have HKP := Lib.hid (show k ≤ P by rw [HP.out]; omega)
      clear m1 m2 hu hrn hlt HR2
      go_wp2_with fail
      refine (tpart_any N.out.1 HS.out HL.out N.out.2.2.1 N.out.2.2.2.1 HQ.out HN34.out H92.out).mono ?_
      rintro e w3 (⟨j, g1, rfl, u2, g2⟩ | ⟨u2, p', g1, g2, g3, g4, rfl, g5⟩)
      · have G1 := Lib.hid g1
        have G2 := Lib.hid g2
        clear g1 g2
        go_wp2_with fail
        go_ret
        refine WhPost.no (k := (P - p) + j) ?_ ?_ G2.out
        · rw [N.out.2.2.2.2, G1.out]; simp [Tq.R.pre]
        · have := N.out.2.1; omega
      · have N2 : Hid (LRel W b K s l p r p' (u ++ u2) w3) := by
          obtain ⟨_, e1, e2, e3, e4⟩ := N.out
          refine ⟨g5, by omega, g3, by simp; omega, ?_⟩
          rw [e4, g1, Tq.pre_pre]; congr 1; omega
        have G2 := Lib.hid g2
        have G3 := Lib.hid g3
        clear g1 g2 g3 g4 g5
        go_wp2_with fail
        go_roundw
        case rel => exact ⟨_, _, N2.out⟩
        case measure =>
          have e1 := HJ.out.1.posOf
          have e2 := N2.out.1.posOf
          have := HZ.out; have := G2.out; have := G3.out; have := HKP.out
          rw [e1, e2]; omega
    · have hge : 3 ≤ mk5 K.q l k := of_decide_eq_true HB.out.symm
      have hm := st_marks hge
      have HU2 := Lib.hid (show u = t ++ List.replicate (mk5 K.q l k - 3) K.q by rw [HU.out, if_pos hge])
      rw [HQ.out] at hm
      have HMM := Lib.hid hm
      clear hm hge
      go_wp2_with fail
      go_ret
      refine WhPost.yes (k := (k - p) + mk5 K.q l k) ?_ ?_ HR2.out
      · rw [HJ.out.2.2.2.2, HQ.out, HMM.out, HU2.out, HQ.out]; simp [Tq.R.pre]
      · have := HJ.out.2.1; have := HP.out; omega
end
end Go.Proofs.YtpdaelcoiilkkaaDoor
