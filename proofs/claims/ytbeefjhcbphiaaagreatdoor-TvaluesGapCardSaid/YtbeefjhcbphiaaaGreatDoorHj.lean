/- Lines of long strings; a long basic string without a backslash, read whole (TOML). -/
import Derived.Test.YtbeefjhcbphiaaaGreatDoorHi
import Derived.Test.YtbeefjhcbphiaaaGreatDoorHb
namespace Go.Proofs.YtbeefjhcbphiaaaGreatDoor
open Go.RowKit

section
variable {W w : World} {b : Nat} {K : Kd} {s : ByteArray} {p : Nat} {t l : List UInt8}
set_option maxHeartbeats 4000000 in
set_option maxRecDepth 100000 in
theorem tline_any (h : TR W b K s w p t) (hs : s = txt l) (hl : l.length ≤ 1000000) (hp : p ≤ l.length) (ht : t.length ≤ 4 * p) {B : Bool} (hB : B = leB l p) :
    Calls Tryz.prog 272 #[.pointer (some ⟨b, 0, none⟩)] w fun e w' => e = .returned (.bool B) ∧ TR W b K s w' ((leP l p : Nat) : Int) (if B = true then t ++ (l.take (leP l p)).drop p else t) := by
  obtain ⟨i0, hi, hz0, hz1, hz2⟩ := info_parts (show (Tryz.prog.info? 5).map (fun i => (i.zero, i.size, i.bytes)) = some (some (.int .u8 0), 1, 1) by kernel_rfl)
  have HR := Lib.hid h
  have HS := Lib.hid hs
  have HL := Lib.hid hl
  have HP := Lib.hid hp
  have HT := Lib.hid ht
  have HB := Lib.hid hB
  obtain ⟨P, HPP⟩ : ∃ P, Hid (P = leP l p) := ⟨_, rfl⟩
  have HPL := Lib.hid (leP_le hp)
  rw [← HPP.out]
  obtain ⟨_, _, v, h3, _⟩ := h
  obtain ⟨c0, c1, c2, c3, cf⟩ := td_cells h3
  clear hs hl hp ht hB h3 cf c0 c2 c3
  go_enter Tryz.func272, Tryz.ntmps272
  go_wp2_with fail
  refine (tlineEnd_any HR.out HS.out HL.out HP.out HB.out).mono ?_
  rintro e w1 ⟨rfl, R1⟩
  rw [← HPP.out] at R1
  have HR1 := Lib.hid R1
  clear R1
  cases B
  · go_wp2_with fail
    go_ret
    exact ⟨rfl, HR1.out⟩
  · have HU := Lib.hid (show s.extract p P = txt ((l.take P).drop p) by rw [HS.out, txt_cut])
    have hul : ((l.take P).drop p).length ≤ 1000000 := by simp; have := HL.out; omega
    have hbb : (p : Int) ≤ P := by have := HPL.out; have := HPP.out; omega
    have htl : t.length ≤ 4000000 := by have := HT.out; have := HP.out; have := HL.out; omega
    have hks : (P : Int) ≤ s.size := by have := HPL.out; have := HPP.out; have := HS.out; rw [this, txt_size]; omega
    obtain ⟨w2, HW2⟩ : ∃ w2, w2 = w1 := ⟨_, rfl⟩
    have R2 := HR1.out
    rw [← HW2] at R2 ⊢
    clear HW2
    have hb1 : W.heap.size ≤ w2.heap.size := R2.1.size
    obtain ⟨r1, r2, v, h3, h4⟩ := R2
    obtain ⟨c0, c1, c2, c3, cf⟩ := td_cells h3
    have f2 := cf 3
    have H3 := Lib.hid h3
    have H4 := Lib.hid h4
    have H1 := Lib.hid r1
    have H2 := Lib.hid r2
    clear h3 h4 r1 r2 cf c2
    go_wp2_with fail
    go_region_law (first | (refine tstep_str (w := w2.drew) rfl (.tmp 18) (.tmp 30) 48 9 rfl W.heap.size 5 i0 Tryz.underlying48 Tryz.underlying9 hi hz0 hz1 hz2 v t.length (bytV t) rfl H4.out.drew (s.extract p P) rfl (by rw [HU.out, txt_size]; unfold maxLen; omega) (by rw [HU.out, txt_size]; omega) hb1 ?_; intro v' w3 hown3 hg3; rw [HU.out, strCells_txt, txt_size] at hown3; obtain ⟨⟨A', n', cp', rfl⟩, h5, R3⟩ := TR.text (w := w2) (p := P) H1.out H2.out H3.out H4.out hown3 (gDrew hg3); obtain ⟨c0', c1', c2', c3', cf'⟩ := td_cells h5; have f2' := cf' 3; clear cf' h5 hown3 hg3 c2'))
    all_goals (have HR3 := Lib.hid R3; clear R3)
    all_goals go_wp2_with fail
    all_goals go_ret
    all_goals exact ⟨rfl, HR3.out⟩
/-- What is left of a part's reading. -/
def PtPost (W : World) (b : Nat) (K : Kd) (s : ByteArray) (l : List UInt8) (p : Nat) (t : List UInt8) (e : Ending) (w' : World) : Prop :=
  (∃ j, Tq.rs 34 true (l.drop p) = .bad j ∧ e = .returned (.bool false) ∧ ∃ u, TR W b K s w' ((p + j : Nat) : Int) u) ∨
  (∃ u p', Tq.rs 34 true (l.drop p) = (Tq.rs 34 true (l.drop p')).pre (p' - p) u ∧ p < p' ∧ p' ≤ l.length ∧ u.length ≤ 4 * (p' - p) ∧ e = .returned (.bool true) ∧ TR W b K s w' (p' : Int) (t ++ u))
set_option maxHeartbeats 4000000 in
set_option maxRecDepth 100000 in
theorem tpart_any (h : TR W b K s w p t) (hs : s = txt l) (hl : l.length ≤ 1000000) (hp : p ≤ l.length) (ht : t.length ≤ 4 * p) (hq : K.q = 34) (h34 : tkC l p K.m = false) (h92 : ∀ k, tkC l k 92 = false) :
    Calls Tryz.prog 267 #[.pointer (some ⟨b, 0, none⟩)] w (PtPost W b K s l p t) := by
  have HR := Lib.hid h
  have HS := Lib.hid hs
  have HL := Lib.hid hl
  have HP := Lib.hid hp
  have HT := Lib.hid ht
  have HM := Lib.hid (show K.m = (((34 : UInt8).toNat : Nat) : Int) by rw [K.hm, hq])
  have HN34 := Lib.hid (show tkC l p (((34 : UInt8).toNat : Nat) : Int) = false by rw [← HM.out]; exact h34)
  have H92 := Lib.hid (h92 p)
  obtain ⟨x, HX⟩ : ∃ x, Hid (x = decide (p < prs K.m 92 l p)) := ⟨_, rfl⟩
  clear h hs hl hp ht hq h34 h92
  go_enter Tryz.func267, Tryz.ntmps267
  go_wp2_with fail
  refine (tstretch_any 92 HR.out HS.out HL.out HP.out HT.out).mono ?_
  rintro e w5 ⟨he, R5⟩
  rw [← HX.out] at he
  subst he
  have HR5 := Lib.hid R5
  clear R5
  cases x
  · have hnl := of_decide_eq_false HX.out.symm
    have HPR := Lib.hid hnl
    have hpr := prs_no hnl
    have HR6 : Hid (TR W b K s w5 (p : Int) t) := by
      have := HR5.out
      rw [hpr] at this
      have e : (l.take p).drop p = [] := by simp
      rwa [e, List.append_nil] at this
    have HLN := Lib.hid (rs_line (q := 34) (o := 92) (by have := HPR.out; rw [HM.out] at this; exact this) HN34.out H92.out (fun _ => rfl) HP.out)
    have HLE := Lib.hid (leP_le HP.out)
    obtain ⟨B, HB⟩ : ∃ B, Hid (B = leB l p) := ⟨_, rfl⟩
    clear hnl hpr HR5
    go_wp2_with fail
    refine (ttake_n 92 HR6.out HS.out HL.out HP.out H92.out).mono ?_
    rintro e w6 ⟨rfl, R6⟩
    have HR7 := Lib.hid R6
    clear R6
    go_wp2_with fail
    refine (tline_any HR7.out HS.out HL.out HP.out HT.out HB.out).mono ?_
    rintro e w7 ⟨rfl, R7⟩
    have HR8 := Lib.hid R7
    clear R7
    go_wp2_with fail
    go_ret
    cases B with
    | false =>
      refine .inl ⟨leP l p - p, HLN.out.2 HB.out.symm, rfl, t, ?_⟩
      have e : p + (leP l p - p) = leP l p := by have := HLE.out; omega
      rw [e]; exact HR8.out
    | true =>
      have h1 := leB_lt HB.out.symm
      refine .inr ⟨(l.take (leP l p)).drop p, leP l p, HLN.out.1 HB.out.symm, h1, HLE.out.2, by simp; omega, rfl, HR8.out⟩
  · have hlt := of_decide_eq_true HX.out.symm
    have hle := prs_le (q := K.m) (o := 92) HP.out
    have HN := Lib.hid (show Tq.rs 34 true (l.drop p) = (Tq.rs 34 true (l.drop (prs K.m 92 l p))).pre (prs K.m 92 l p - p) ((l.take (prs K.m 92 l p)).drop p) by
      have := rs_prs (q := 34) (o := 92) (long := true) (fun _ => rfl) l p
      rw [← HM.out] at this; exact this)
    have HLT := Lib.hid hlt
    have HLE := Lib.hid hle
    clear hlt hle
    go_wp2_with fail
    go_ret
    exact .inr ⟨_, _, HN.out, HLT.out, HLE.out, by have := HLT.out; simp; omega, rfl, HR5.out⟩
/-- A round of the long basic string's loop. -/
def LRel (W : World) (b : Nat) (K : Kd) (s : ByteArray) (l : List UInt8) (p : Nat) (r : Tq.R) (k : Nat) (t : List UInt8) (wr : World) : Prop :=
  TR W b K s wr (k : Int) t ∧ p + 3 ≤ k ∧ k ≤ l.length ∧ t.length ≤ 4 * k ∧ r = (Tq.rs 34 true (l.drop k)).pre (k - p) t
set_option maxHeartbeats 8000000 in
set_option maxRecDepth 100000 in
theorem tlbas_any (h : TR W b K s w p []) (hs : s = txt l) (hl : l.length ≤ 1000000) (h0 : tkC l p K.m = true) (h1 : tkC l (p + 1) K.m = true) (h2 : tkC l (p + 2) K.m = true) (hq : K.q = 34) (h92 : ∀ k, tkC l k 92 = false) {r : Tq.R} (hr : r = (Tq.rs 34 true (l.drop (loP l p))).pre (loP l p - p) []) :
    Calls Tryz.prog 265 #[.pointer (some ⟨b, 0, none⟩)] w (WhPost W b K s p r) := by
  have HR := Lib.hid h
  have HS := Lib.hid hs
  have HL := Lib.hid hl
  have H0 := Lib.hid h0
  have H1 := Lib.hid h1
  have H2 := Lib.hid h2
  have HQ := Lib.hid hq
  have H92 := Lib.hid h92
  have HM := Lib.hid (show K.m = (((34 : UInt8).toNat : Nat) : Int) by rw [K.hm, hq])
  have HRR := Lib.hid hr
  have HLO : Hid (p + 3 ≤ loP l p ∧ loP l p ≤ l.length) := by
    have h3 := tkC_lt h2
    have := leP_le (l := l) (p := p + 3) h3
    unfold loP
    split <;> exact ⟨by omega, by omega⟩
  clear h hs hl h0 h1 h2 hq h92 hr
  go_enter Tryz.func265, Tryz.ntmps265
  go_wp2_with fail
  refine (tlongopen_any HR.out HS.out HL.out H0.out H1.out H2.out).mono ?_
  rintro e w1 ⟨rfl, R1⟩
  have R0 : LRel W b K s l p r (loP l p) [] w1 := ⟨R1, HLO.out.1, HLO.out.2, by simp, HRR.out⟩
  clear R1
  go_wp2_with fail
  go_loopw [] (fun wr => ∃ (k : Nat) (t : List UInt8), LRel W b K s l p r k t wr) (fun wr => s.size - posOf b wr)
  case atStart => exact ⟨_, [], R0⟩
  case round =>
    obtain ⟨k, t, R⟩ := hrel
    clear R0 HR
    have HJ := Lib.hid R
    have HZ := Lib.hid (show s.size = l.length by rw [HS.out, txt_size])
    clear R
    obtain ⟨P, HP⟩ : ∃ P, Hid (P = k + mk5 K.q l k) := ⟨_, rfl⟩
    obtain ⟨u, HU⟩ : ∃ u, Hid (u = t ++ List.replicate (if 3 ≤ mk5 K.q l k then mk5 K.q l k - 3 else mk5 K.q l k) K.q) := ⟨_, rfl⟩
    obtain ⟨B, HB⟩ : ∃ B, Hid (B = decide (3 ≤ mk5 K.q l k)) := ⟨_, rfl⟩
    go_wp2_with fail
    refine (tended_any HJ.out.1 HS.out HL.out HJ.out.2.2.1 HJ.out.2.2.2.1 HB.out HP.out HU.out).mono ?_
    rintro e w2 ⟨rfl, R2⟩
    have HR2 := Lib.hid R2
    clear R2
    cases B
    · have hlt : mk5 K.q l k < 3 := by have := of_decide_eq_false HB.out.symm; omega
      obtain ⟨m1, m2⟩ := rs_marks hlt
      have hu : u = t ++ List.replicate (mk5 K.q l k) K.q := by rw [HU.out, if_neg (by omega)]
      have hrn : k + mk5 K.q l k ≤ l.length := by
        have := rnl_le K.q (l.drop k)
        have h5 := HJ.out.2.2.1
        simp at this
        unfold mk5; omega
      have N : Hid (LRel W b K s l p r P u w2) := by
        obtain ⟨_, g1, g2, g3, g4⟩ := HJ.out
        refine ⟨HR2.out, by have := HP.out; omega, by rw [HP.out]; exact hrn, by rw [hu, HP.out]; simp; omega, ?_⟩
        rw [HQ.out] at m1
        rw [g4, m1, Tq.pre_pre, hu, HP.out, HQ.out]; congr 1; omega
      have HN34 := Lib.hid (show tkC l P K.m = false by rw [HP.out, K.hm]; exact m2)
      have HKP := Lib.hid (show k ≤ P by rw [HP.out]; omega)
      clear m1 m2 hu hrn hlt HR2
      go_wp2_with fail
      refine (tpart_any N.out.1 HS.out HL.out N.out.2.2.1 N.out.2.2.2.1 HQ.out HN34.out H92.out).mono ?_
      rintro e w3 (⟨j, g1, rfl, u2, g2⟩ | ⟨u2, p', g1, g2, g3, g4, rfl, g5⟩)
      · have G1 := Lib.hid g1
        have G2 := Lib.hid g2
        clear g1 g2
        go_wp2_with fail
        go_ret
        refine WhPost.no (k := (P - p) + j) ?_ ?_ G2.out
        · rw [N.out.2.2.2.2, G1.out]; simp [Tq.R.pre]
        · have := N.out.2.1; omega
      · have N2 : Hid (LRel W b K s l p r p' (u ++ u2) w3) := by
          obtain ⟨_, e1, e2, e3, e4⟩ := N.out
          refine ⟨g5, by omega, g3, by simp; omega, ?_⟩
          rw [e4, g1, Tq.pre_pre]; congr 1; omega
        have G2 := Lib.hid g2
        have G3 := Lib.hid g3
        clear g1 g2 g3 g4 g5
        go_wp2_with fail
        go_roundw
        case rel => exact ⟨_, _, N2.out⟩
        case measure =>
          have e1 := HJ.out.1.posOf
          have e2 := N2.out.1.posOf
          have := HZ.out; have := G2.out; have := G3.out; have := HKP.out
          rw [e1, e2]; omega
    · have hge : 3 ≤ mk5 K.q l k := of_decide_eq_true HB.out.symm
      have hm := st_marks hge
      have HU2 := Lib.hid (show u = t ++ List.replicate (mk5 K.q l k - 3) K.q by rw [HU.out, if_pos hge])
      rw [HQ.out] at hm
      have HMM := Lib.hid hm
      clear hm hge
      go_wp2_with fail
      go_ret
      refine WhPost.yes (k := (k - p) + mk5 K.q l k) ?_ ?_ HR2.out
      · rw [HJ.out.2.2.2.2, HQ.out, HMM.out, HU2.out, HQ.out]; simp [Tq.R.pre]
      · have := HJ.out.2.1; have := HP.out; omega
end
end Go.Proofs.YtbeefjhcbphiaaaGreatDoor
/- Which string begins at a place; what the reader answers (TOML). -/
namespace Go.Proofs.YtbeefjhcbphiaaaGreatDoor
open Go.RowKit

def KLB : Kd := ⟨188, 34, 34, by decide, by decide⟩
def KLL : Kd := ⟨190, 39, 39, by decide, by decide⟩
def KBA : Kd := ⟨192, 34, 34, by decide, by decide⟩
def KLI : Kd := ⟨194, 39, 39, by decide, by decide⟩
theorem TR.new (w : World) (K : Kd) (s : ByteArray) (p : Int) : TR w w.heap.size K s (w.alloc (tdo K s p (.slice none 0 0))) p [] :=
  ⟨(Below.refl _ _).alloc (Nat.le_refl _) _, Nat.le_refl _, _, heap_alloc_new _ _, rfl, .inl ⟨rfl, rfl⟩⟩
section
variable {l : List UInt8} {s : ByteArray} {p : Nat}
set_option maxHeartbeats 1000000 in
set_option maxRecDepth 100000 in
theorem tqa_KLB (w : World) (hs : s = txt l) (hl : l.length ≤ 1000000) (hp : p ≤ l.length) (h0 : hasP (l.drop p) [34, 34, 34] = true) :
    Calls Tryz.prog 129 #[.string s, .int .i64 p] w fun e w' => e = .returned (.iface 182 (.pointer (some ⟨w.heap.size, 0, none⟩))) ∧ TR w w.heap.size KLB s w' (p : Int) [] := by
  have hps : (p : Int) ≤ s.size := by rw [hs, txt_size]; omega
  have hs1 : s.size ≤ 1000000 := by rw [hs, txt_size]; exact hl
  have HU := Lib.hid (show s.extract p s.size = txt (l.drop p) by rw [hs, txt_cut, txt_size, List.take_length])
  have HD := Lib.hid (show (l.drop p).length ≤ 1000000 by simp; omega)
  have H0 := Lib.hid h0.symm
  clear hs hl hp h0
  go_enter Tryz.func129, Tryz.ntmps129
  go_wp2_with fail
  refine (hasP_any _ HU.out (show (⟨#[34, 34, 34]⟩ : ByteArray) = txt [34, 34, 34] from rfl) HD.out (by simp) H0.out).mono ?_
  rintro e w1 ⟨rfl, rfl⟩
  go_wp2_with fail
  go_ret
  exact ⟨rfl, TR.new w KLB s p⟩
set_option maxHeartbeats 1000000 in
set_option maxRecDepth 100000 in
theorem tqa_KLL (w : World) (hs : s = txt l) (hl : l.length ≤ 1000000) (hp : p ≤ l.length) (h0 : hasP (l.drop p) [34, 34, 34] = false) (h1 : hasP (l.drop p) [39, 39, 39] = true) :
    Calls Tryz.prog 129 #[.string s, .int .i64 p] w fun e w' => e = .returned (.iface 189 (.pointer (some ⟨w.heap.size, 0, none⟩))) ∧ TR w w.heap.size KLL s w' (p : Int) [] := by
  have hps : (p : Int) ≤ s.size := by rw [hs, txt_size]; omega
  have hs1 : s.size ≤ 1000000 := by rw [hs, txt_size]; exact hl
  have HU := Lib.hid (show s.extract p s.size = txt (l.drop p) by rw [hs, txt_cut, txt_size, List.take_length])
  have HD := Lib.hid (show (l.drop p).length ≤ 1000000 by simp; omega)
  have H0 := Lib.hid h0.symm
  have H1 := Lib.hid h1.symm
  clear hs hl hp h0 h1
  go_enter Tryz.func129, Tryz.ntmps129
  go_wp2_with fail
  refine (hasP_any _ HU.out (show (⟨#[34, 34, 34]⟩ : ByteArray) = txt [34, 34, 34] from rfl) HD.out (by simp) H0.out).mono ?_
  rintro e w1 ⟨rfl, rfl⟩
  go_wp2_with fail
  refine (hasP_any _ HU.out (show (⟨#[39, 39, 39]⟩ : ByteArray) = txt [39, 39, 39] from rfl) HD.out (by simp) H1.out).mono ?_
  rintro e w1 ⟨rfl, rfl⟩
  go_wp2_with fail
  go_ret
  exact ⟨rfl, TR.new w KLL s p⟩
set_option maxHeartbeats 1000000 in
set_option maxRecDepth 100000 in
theorem tqa_KBA (w : World) (hs : s = txt l) (hl : l.length ≤ 1000000) (hp : p ≤ l.length) (h0 : hasP (l.drop p) [34, 34, 34] = false) (h1 : hasP (l.drop p) [39, 39, 39] = false) (h2 : hasP (l.drop p) [34] = true) :
    Calls Tryz.prog 129 #[.string s, .int .i64 p] w fun e w' => e = .returned (.iface 191 (.pointer (some ⟨w.heap.size, 0, none⟩))) ∧ TR w w.heap.size KBA s w' (p : Int) [] := by
  have hps : (p : Int) ≤ s.size := by rw [hs, txt_size]; omega
  have hs1 : s.size ≤ 1000000 := by rw [hs, txt_size]; exact hl
  have HU := Lib.hid (show s.extract p s.size = txt (l.drop p) by rw [hs, txt_cut, txt_size, List.take_length])
  have HD := Lib.hid (show (l.drop p).length ≤ 1000000 by simp; omega)
  have H0 := Lib.hid h0.symm
  have H1 := Lib.hid h1.symm
  have H2 := Lib.hid h2.symm
  clear hs hl hp h0 h1 h2
  go_enter Tryz.func129, Tryz.ntmps129
  go_wp2_with fail
  refine (hasP_any _ HU.out (show (⟨#[34, 34, 34]⟩ : ByteArray) = txt [34, 34, 34] from rfl) HD.out (by simp) H0.out).mono ?_
  rintro e w1 ⟨rfl, rfl⟩
  go_wp2_with fail
  refine (hasP_any _ HU.out (show (⟨#[39, 39, 39]⟩ : ByteArray) = txt [39, 39, 39] from rfl) HD.out (by simp) H1.out).mono ?_
  rintro e w1 ⟨rfl, rfl⟩
  go_wp2_with fail
  refine (hasP_any _ HU.out (show (⟨#[34]⟩ : ByteArray) = txt [34] from rfl) HD.out (by simp) H2.out).mono ?_
  rintro e w1 ⟨rfl, rfl⟩
  go_wp2_with fail
  go_ret
  exact ⟨rfl, TR.new w KBA s p⟩
set_option maxHeartbeats 1000000 in
set_option maxRecDepth 100000 in
theorem tqa_KLI (w : World) (hs : s = txt l) (hl : l.length ≤ 1000000) (hp : p ≤ l.length) (h0 : hasP (l.drop p) [34, 34, 34] = false) (h1 : hasP (l.drop p) [39, 39, 39] = false) (h2 : hasP (l.drop p) [34] = false) (h3 : hasP (l.drop p) [39] = true) :
    Calls Tryz.prog 129 #[.string s, .int .i64 p] w fun e w' => e = .returned (.iface 193 (.pointer (some ⟨w.heap.size, 0, none⟩))) ∧ TR w w.heap.size KLI s w' (p : Int) [] := by
  have hps : (p : Int) ≤ s.size := by rw [hs, txt_size]; omega
  have hs1 : s.size ≤ 1000000 := by rw [hs, txt_size]; exact hl
  have HU := Lib.hid (show s.extract p s.size = txt (l.drop p) by rw [hs, txt_cut, txt_size, List.take_length])
  have HD := Lib.hid (show (l.drop p).length ≤ 1000000 by simp; omega)
  have H0 := Lib.hid h0.symm
  have H1 := Lib.hid h1.symm
  have H2 := Lib.hid h2.symm
  have H3 := Lib.hid h3.symm
  clear hs hl hp h0 h1 h2 h3
  go_enter Tryz.func129, Tryz.ntmps129
  go_wp2_with fail
  refine (hasP_any _ HU.out (show (⟨#[34, 34, 34]⟩ : ByteArray) = txt [34, 34, 34] from rfl) HD.out (by simp) H0.out).mono ?_
  rintro e w1 ⟨rfl, rfl⟩
  go_wp2_with fail
  refine (hasP_any _ HU.out (show (⟨#[39, 39, 39]⟩ : ByteArray) = txt [39, 39, 39] from rfl) HD.out (by simp) H1.out).mono ?_
  rintro e w1 ⟨rfl, rfl⟩
  go_wp2_with fail
  refine (hasP_any _ HU.out (show (⟨#[34]⟩ : ByteArray) = txt [34] from rfl) HD.out (by simp) H2.out).mono ?_
  rintro e w1 ⟨rfl, rfl⟩
  go_wp2_with fail
  refine (hasP_any _ HU.out (show (⟨#[39]⟩ : ByteArray) = txt [39] from rfl) HD.out (by simp) H3.out).mono ?_
  rintro e w1 ⟨rfl, rfl⟩
  go_wp2_with fail
  go_ret
  exact ⟨rfl, TR.new w KLI s p⟩
set_option maxHeartbeats 1000000 in
set_option maxRecDepth 100000 in
theorem tqa_none (w : World) (hs : s = txt l) (hl : l.length ≤ 1000000) (hp : p ≤ l.length) (h0 : hasP (l.drop p) [34, 34, 34] = false) (h1 : hasP (l.drop p) [39, 39, 39] = false) (h2 : hasP (l.drop p) [34] = false) (h3 : hasP (l.drop p) [39] = false) :
    Calls Tryz.prog 129 #[.string s, .int .i64 p] w fun e w' => e = .returned .nilIface ∧ w = w' := by
  have hps : (p : Int) ≤ s.size := by rw [hs, txt_size]; omega
  have hs1 : s.size ≤ 1000000 := by rw [hs, txt_size]; exact hl
  have HU := Lib.hid (show s.extract p s.size = txt (l.drop p) by rw [hs, txt_cut, txt_size, List.take_length])
  have HD := Lib.hid (show (l.drop p).length ≤ 1000000 by simp; omega)
  have H0 := Lib.hid h0.symm
  have H1 := Lib.hid h1.symm
  have H2 := Lib.hid h2.symm
  have H3 := Lib.hid h3.symm
  clear hs hl hp h0 h1 h2 h3
  go_enter Tryz.func129, Tryz.ntmps129
  go_wp2_with fail
  refine (hasP_any _ HU.out (show (⟨#[34, 34, 34]⟩ : ByteArray) = txt [34, 34, 34] from rfl) HD.out (by simp) H0.out).mono ?_
  rintro e w1 ⟨rfl, rfl⟩
  go_wp2_with fail
  refine (hasP_any _ HU.out (show (⟨#[39, 39, 39]⟩ : ByteArray) = txt [39, 39, 39] from rfl) HD.out (by simp) H1.out).mono ?_
  rintro e w1 ⟨rfl, rfl⟩
  go_wp2_with fail
  refine (hasP_any _ HU.out (show (⟨#[34]⟩ : ByteArray) = txt [34] from rfl) HD.out (by simp) H2.out).mono ?_
  rintro e w1 ⟨rfl, rfl⟩
  go_wp2_with fail
  refine (hasP_any _ HU.out (show (⟨#[39]⟩ : ByteArray) = txt [39] from rfl) HD.out (by simp) H3.out).mono ?_
  rintro e w1 ⟨rfl, rfl⟩
  go_wp2_with fail
  go_ret
  exact ⟨rfl, rfl⟩
end
section
variable {W w : World} {b : Nat} {K : Kd} {s : ByteArray} {p : Nat} {t : List UInt8}
theorem tplace_any (h : TR W b K s w p t) : Calls Tryz.prog 263 #[.pointer (some ⟨b, 0, none⟩)] w fun e w' => e = .returned (.int .i64 p) ∧ w = w' := by
  obtain ⟨_, _, v, h3, _⟩ := h
  obtain ⟨c0, c1, c2, c3, cf⟩ := td_cells h3
  clear h3 cf c0 c2 c3
  go_enter Tryz.func263, Tryz.ntmps263
  go_wp2_with fail
  go_ret
  exact ⟨rfl, rfl⟩
theorem ttold_any (h : TR W b K s w p t) {S : ByteArray} (hS : S = txt t) : Calls Tryz.prog 264 #[.pointer (some ⟨b, 0, none⟩)] w fun e w' => e = .returned (.string S) ∧ w = w' := by
  obtain ⟨r1, _, v, h3, h4⟩ := h
  obtain ⟨A, c, rfl, o1, o2, o3, o4, o5⟩ := own_form h4
  obtain ⟨c0, c1, c2, c3, cf⟩ := td_cells h3
  have hcv := conv_bytes (w := w) t.length c rfl o4
  rw [← hS] at hcv
  clear h3 h4 cf c0 c1 c2 r1 o1 o2 o3 o4 o5 hS
  go_enter Tryz.func264, Tryz.ntmps264
  go_wp2_with fail
  go_ret
  exact ⟨rfl, rfl⟩
end
end Go.Proofs.YtbeefjhcbphiaaaGreatDoor
/- The program's own reading of a string at a place, and which strings are long (TOML). -/
namespace Go.Proofs.YtbeefjhcbphiaaaGreatDoor
open Go.RowKit

theorem cell_old {W w : World} (h : Below W.heap.size W w) {F i : Nat} {v : Value} (hF : F < W.heap.size) (hc : W.cell? ⟨F, i, none⟩ = some v) : w.cell? ⟨F, i, none⟩ = some v := (h.cell (p := ⟨F, i, none⟩) hF).trans hc
theorem free_old {W w : World} (h : Below W.heap.size W w) {F i : Nat} (hF : F < W.heap.size) (hc : W.frozen? ⟨F, i, none⟩ = false) : w.frozen? ⟨F, i, none⟩ = false := by
  rw [← hc]
  simp only [World.frozen?]
  rw [h.block F hF]
theorem below_of {w w' : World} {o : Obj} (h : Below (w.alloc o).heap.size (w.alloc o) w') : Below w.heap.size w w' :=
  ((Below.refl _ _).alloc (Nat.le_refl _) o).trans (h.mono (by simp))
theorem hasP_at {l : List UInt8} {p : Nat} {q : UInt8} (h : hasP (l.drop p) [q] = true) : tkC l p q.toNat = true := by
  have h := of_decide_eq_true h
  rcases Nat.lt_or_ge p l.length with hp | hp
  · obtain ⟨c, hc, hb⟩ := drop_bt hp
    rw [hc] at h
    simp at h
    subst h
    simp [tkC, hp, hb]
  · rw [List.drop_eq_nil_of_le hp] at h; simp at h
theorem hasP_3 {l : List UInt8} {p : Nat} {q : UInt8} (h : hasP (l.drop p) [q, q, q] = true) : tkC l p q.toNat = true ∧ tkC l (p + 1) q.toNat = true ∧ tkC l (p + 2) q.toNat = true := by
  have h := of_decide_eq_true h
  match hd : l.drop p, h with
  | a :: b :: c :: r, h =>
    simp at h
    obtain ⟨rfl, rfl, rfl⟩ := h
    refine ⟨hasP_at (by rw [hd]; simp [hasP]), hasP_at (by rw [← List.drop_drop, hd]; simp [hasP]), hasP_at (by rw [← List.drop_drop, hd]; simp [hasP])⟩
theorem hasP_rnl {m : List UInt8} {q : UInt8} (h : hasP m [q, q, q] = false) : Tq.rnl q m < 3 := by
  match m, h with
  | [], _ => simp [Tq.rnl]
  | [a], _ => simp only [Tq.rnl]; split <;> omega
  | [a, b], _ => simp only [Tq.rnl]; repeat' split
                 all_goals omega
  | a :: b :: c :: r, h =>
    by_cases h1 : a = q
    · by_cases h2 : b = q
      · by_cases h3 : c = q
        · subst h1; subst h2; subst h3; simp [hasP] at h
        · simp [Tq.rnl, h1, h2, h3]
      · simp [Tq.rnl, h1, h2]
    · simp [Tq.rnl, h1]
theorem rnl_has {m : List UInt8} {q : UInt8} (h : hasP m [q, q, q] = true) : 3 ≤ Tq.rnl q m := by
  have h := of_decide_eq_true h
  match m, h with
  | a :: b :: c :: r, h =>
    simp at h
    obtain ⟨rfl, rfl, rfl⟩ := h
    simp [Tq.rnl]
section
variable {l : List UInt8} {p : Nat}
theorem rd_none (h1 : hasP (l.drop p) [34] = false) (h2 : hasP (l.drop p) [39] = false) : Tq.rd (l.drop p) = .bad 0 := by
  match hd : l.drop p with
  | [] => rfl
  | c :: r =>
    rw [hd] at h1 h2
    have n1 : c ≠ 34 := by rintro rfl; simp [hasP] at h1
    have n2 : c ≠ 39 := by rintro rfl; simp [hasP] at h2
    simp only [Tq.rd]
    rw [if_neg (by rintro (h | h); exact n1 h; exact n2 h)]
theorem rd_short {q : UInt8} (hq : q = 34 ∨ q = 39) (h3 : hasP (l.drop p) [q, q, q] = false) (h1 : hasP (l.drop p) [q] = true) : Tq.rd (l.drop p) = (Tq.rs q false (l.drop (p + 1))).pre 1 [] := by
  have ht := tkC_drop (hasP_at h1)
  have hr := hasP_rnl h3
  rw [ht] at hr ⊢
  simp only [Tq.rd]
  rw [if_pos hq, if_neg (by omega)]
theorem rd_long {q : UInt8} (hq : q = 34 ∨ q = 39) (h3 : hasP (l.drop p) [q, q, q] = true) : Tq.rd (l.drop p) = (Tq.rs q true (l.drop (loP l p))).pre (loP l p - p) [] := by
  obtain ⟨t0, t1, t2⟩ := hasP_3 h3
  have hr := rnl_has h3
  have e2 := tkC_drop t2
  have e1 := tkC_drop t1
  have e0 := tkC_drop t0
  have hd : l.drop (p + 1) = q :: q :: l.drop (p + 3) := by rw [e1, e2]
  rw [e0] at hr ⊢
  simp only [Tq.rd]
  rw [if_pos hq, if_pos hr, hd]
  simp only [List.drop_succ_cons, List.drop_zero]
  cases hf : Tq.fd (l.drop (p + 3)) with
  | none =>
    have hb : leB l (p + 3) = false := by rw [leB, hf]
    have hlo : loP l p = p + 3 := by rw [loP, if_neg (by rw [hb]; decide)]
    rw [hlo, show p + 3 - p = 3 by omega]
    have hst : Tq.st q true (l.drop (p + 3)) = .stop (.bad 1) := by
      match hm : l.drop (p + 3), hf with
      | [], hf => cases hf
      | c :: r, hf =>
        have hc : c = 13 := by
          by_cases h10 : c = 10
          · subst h10; cases hf
          · by_cases h13 : c = 13
            · exact h13
            · have : Tq.fd (c :: r) = some 0 := by unfold Tq.fd; split <;> simp_all
              rw [this] at hf; cases hf
        subst hc
        simp only [Tq.st]
        rw [if_neg (by rcases hq with rfl | rfl <;> decide), if_neg (by rintro ⟨h, _⟩; exact absurd h (by decide)), hf, if_pos ⟨trivial, by simp⟩]
    rw [Tq.rs_stop hst]; rfl
  | some n =>
    cases n with
    | zero =>
      have hb : leB l (p + 3) = false := by rw [leB, hf]
      have hlo : loP l p = p + 3 := by rw [loP, if_neg (by rw [hb]; decide)]
      rw [hlo, show p + 3 - p = 3 by omega]; rfl
    | succ n =>
      have hb : leB l (p + 3) = true := by rw [leB, hf]
      have hlo : loP l p = p + 3 + (n + 1) := by rw [loP, if_pos hb, leP, hf]
      rw [hlo, show p + 3 + (n + 1) - p = 3 + (n + 1) by omega]
      show (Tq.rs q true (List.drop (2 + (n + 1)) (q :: q :: l.drop (p + 3)))).pre (3 + (n + 1)) [] = _
      rw [show List.drop (2 + (n + 1)) (q :: q :: l.drop (p + 3)) = l.drop (p + 3 + (n + 1)) by
        rw [show 2 + (n + 1) = (n + 1) + 1 + 1 by omega, List.drop_succ_cons, List.drop_succ_cons, List.drop_drop]]
end
/-- What a reading at p answers. -/
def rvl (p : Nat) : Tq.R → Value
  | .ok t k => .tuple #[.string (txt t), .int .i64 (p + k : Nat), .agg #[.int .i64 0, .int .i64 0]]
  | .bad k => .tuple #[.string ⟨#[]⟩, .int .i64 0, .agg #[.int .i64 3, .int .i64 (p + k : Nat)]]
theorem mt_lb_whole (b : Nat) (w : World) : (method 207 182 (.pointer (some ⟨b, 0, none⟩)) "inarch/tquotes.whole").run Tryz.prog w = .ok (265, .pointer (some ⟨b, 0, none⟩)) w := by kernel_rfl
theorem mt_lb_place (b : Nat) (w : World) : (method 207 182 (.pointer (some ⟨b, 0, none⟩)) "inarch/tquotes.place").run Tryz.prog w = .ok (263, .pointer (some ⟨b, 0, none⟩)) w := by kernel_rfl
theorem mt_lb_told (b : Nat) (w : World) : (method 207 182 (.pointer (some ⟨b, 0, none⟩)) "inarch/tquotes.told").run Tryz.prog w = .ok (264, .pointer (some ⟨b, 0, none⟩)) w := by kernel_rfl
theorem mt_ba_whole (b : Nat) (w : World) : (method 207 191 (.pointer (some ⟨b, 0, none⟩)) "inarch/tquotes.whole").run Tryz.prog w = .ok (285, .pointer (some ⟨b, 0, none⟩)) w := by kernel_rfl
theorem mt_ba_place (b : Nat) (w : World) : (method 207 191 (.pointer (some ⟨b, 0, none⟩)) "inarch/tquotes.place").run Tryz.prog w = .ok (263, .pointer (some ⟨b, 0, none⟩)) w := by kernel_rfl
theorem mt_ba_told (b : Nat) (w : World) : (method 207 191 (.pointer (some ⟨b, 0, none⟩)) "inarch/tquotes.told").run Tryz.prog w = .ok (264, .pointer (some ⟨b, 0, none⟩)) w := by kernel_rfl
theorem mt_li_whole (b : Nat) (w : World) : (method 207 193 (.pointer (some ⟨b, 0, none⟩)) "inarch/tquotes.whole").run Tryz.prog w = .ok (286, .pointer (some ⟨b, 0, none⟩)) w := by kernel_rfl
theorem mt_li_place (b : Nat) (w : World) : (method 207 193 (.pointer (some ⟨b, 0, none⟩)) "inarch/tquotes.place").run Tryz.prog w = .ok (263, .pointer (some ⟨b, 0, none⟩)) w := by kernel_rfl
theorem mt_li_told (b : Nat) (w : World) : (method 207 193 (.pointer (some ⟨b, 0, none⟩)) "inarch/tquotes.told").run Tryz.prog w = .ok (264, .pointer (some ⟨b, 0, none⟩)) w := by kernel_rfl
theorem HdOk.old {w W : World} {l : List UInt8} (h : HdOk w l) (hz : 9 < w.heap.size) (hb : Below w.heap.size w W) : HdOk W l := fun k many n r hm hx hs =>
  ⟨(h k many n r hm hx hs).1.old hz hb, Nat.lt_of_lt_of_le hz hb.size⟩
/-- What keeps a reading's fault cell: it lies in block F, in the world W. -/
structure FC (w W : World) (F : Nat) : Prop where
  lt : F < W.heap.size
  c0 : W.cell? ⟨F, 0, none⟩ = some (.int .i64 0)
  c1 : W.cell? ⟨F, 1, none⟩ = some (.int .i64 0)
  f0 : W.frozen? ⟨F, 0, none⟩ = false
  f1 : W.frozen? ⟨F, 1, none⟩ = false
  bel : ∀ w', Below W.heap.size W w' → Below w.heap.size w w'
  le : w.heap.size ≤ F
theorem FC.new (w : World) : FC w (w.alloc (.cells #[.int .i64 0, .int .i64 0] 28)) w.heap.size :=
  ⟨by simp, by rw [World.cell?_alloc_at _ _ _ _ rfl]; rfl, by rw [World.cell?_alloc_at _ _ _ _ rfl]; rfl, World.frozen?_alloc_new _ _ _ _, World.frozen?_alloc_new _ _ _ _, fun _ h => below_of h, Nat.le_refl _⟩
section
variable {l : List UInt8} {s : ByteArray} {p : Nat}
set_option maxHeartbeats 4000000 in
set_option maxRecDepth 100000 in
theorem tread_lb (w : World) (hs : s = txt l) (hl : l.length ≤ 1000000) (hp : p ≤ l.length) (a : hasP (l.drop p) [34, 34, 34] = true) (n92 : ∀ k, tkC l k 92 = false) {r : Tq.R} (hr : r = Tq.rd (l.drop p)) :
    Calls Tryz.prog 101 #[.string s, .int .i64 p] w fun e w' => e = .returned (rvl p r) ∧ Below w.heap.size w w' := by
  have hps : decide (s.size < p) = false := decide_eq_false (by rw [hs, txt_size]; omega)
  have hp0 : decide ((p : Int) < 0) = false := decide_eq_false (by omega)
  have HS := Lib.hid hs
  have HL := Lib.hid hl
  have HP := Lib.hid hp
  have HRR := Lib.hid hr
  have Ha := Lib.hid a
  have Hn92 := Lib.hid n92
  have HFC := Lib.hid (FC.new w)
  have HWB := Lib.hid (show w.heap.size ≤ (w.alloc (.cells #[.int .i64 0, .int .i64 0] 28)).heap.size by simp)
  have HW0 := Lib.hid (show Below w.heap.size w (w.alloc (.cells #[.int .i64 0, .int .i64 0] 28)) from (Below.refl _ _).alloc (Nat.le_refl _) _)
  clear hs hl hp hr a n92
  go_enter Tryz.func101, Tryz.ntmps101
  go_wp2_with fail
  refine (tqa_KLB _ HS.out HL.out HP.out Ha.out).mono ?_
  rintro e w1 ⟨rfl, R⟩
  obtain ⟨W, hW⟩ : ∃ W, w.alloc (.cells #[.int .i64 0, .int .i64 0] 28) = W := ⟨_, rfl⟩
  have hWs : W.heap.size = w.heap.size + 1 := by rw [← hW]; simp
  rw [hW, hWs] at R
  rw [hW, hWs]
  have HWs := Lib.hid hWs
  have HR := Lib.hid R
  have HFW : Hid (FC w W w.heap.size) := Lib.hid (by rw [← hW]; exact HFC.out)
  have HWB2 : Hid (w.heap.size ≤ W.heap.size) := Lib.hid (by omega)
  have HW1 : Hid (Below w.heap.size w W) := Lib.hid (by rw [← hW]; exact HW0.out)
  clear R hWs hW HFC HWB HW0
  have hm1 := mt_lb_whole (w.heap.size + 1)
  have hm2 := mt_lb_place (w.heap.size + 1)
  have hm3 := mt_lb_told (w.heap.size + 1)
  go_wp2_with fail
  refine (tlbas_any HR.out HS.out HL.out (hasP_3 (q := 34) Ha.out).1 (hasP_3 (q := 34) Ha.out).2.1 (hasP_3 (q := 34) Ha.out).2.2 rfl Hn92.out (r := r) (HRR.out.trans (rd_long (.inl rfl) Ha.out))).mono ?_
  intro e w2 hpost
  cases r with
  | ok u k =>
    obtain ⟨rfl, R2⟩ := hpost
    have HR2 := Lib.hid R2
    have r1 := R2.1
    have d0 := cell_old r1 HFW.out.lt HFW.out.c0
    have d1 := cell_old r1 HFW.out.lt HFW.out.c1
    have e0 := free_old r1 HFW.out.lt HFW.out.f0
    have e1 := free_old r1 HFW.out.lt HFW.out.f1
    have HB2 := Lib.hid (HFW.out.bel w2 r1)
    obtain ⟨S, HSS⟩ : ∃ S, Hid (S = txt u) := ⟨_, rfl⟩
    clear R2 r1
    go_wp2_with fail
    refine (ttold_any HR2.out HSS.out).mono ?_
    rintro e w3 ⟨rfl, rfl⟩
    go_wp2_with fail
    refine (tplace_any HR2.out).mono ?_
    rintro e w3 ⟨rfl, rfl⟩
    go_wp2_with fail
    refine bodyPost_ret (v := .tuple #[.string S, .int .i64 (p + k : Nat), .agg #[.int .i64 0, .int .i64 0]]) (by simp [results, Tryz.results101, go_sem, *]) rfl ?_
    exact ⟨by rw [rvl, HSS.out], (HB2.out.setCell (Nat.le_refl _) _).setCell (Nat.le_refl _) _⟩
  | bad k =>
    obtain ⟨rfl, u, R2⟩ := hpost
    have HR2 := Lib.hid R2
    have r1 := R2.1
    have d0 := cell_old r1 HFW.out.lt HFW.out.c0
    have d1 := cell_old r1 HFW.out.lt HFW.out.c1
    have e0 := free_old r1 HFW.out.lt HFW.out.f0
    have e1 := free_old r1 HFW.out.lt HFW.out.f1
    have HB2 := Lib.hid (HFW.out.bel w2 r1)
    clear R2 r1
    go_wp2_with fail
    refine (tplace_any HR2.out).mono ?_
    rintro e w3 ⟨rfl, rfl⟩
    go_wp2_with fail
    refine bodyPost_ret (v := .tuple #[.string ⟨#[]⟩, .int .i64 0, .agg #[.int .i64 3, .int .i64 (p + k : Nat)]]) (by simp [results, Tryz.results101, go_sem, *]) rfl ?_
    exact ⟨by rw [rvl], (HB2.out.setCell (Nat.le_refl _) _).setCell (Nat.le_refl _) _⟩
set_option maxHeartbeats 4000000 in
set_option maxRecDepth 100000 in
theorem tread_li (w : World) (hs : s = txt l) (hl : l.length ≤ 1000000) (hp : p ≤ l.length) (a : hasP (l.drop p) [34, 34, 34] = false) (b : hasP (l.drop p) [39, 39, 39] = false) (c : hasP (l.drop p) [34] = false) (d : hasP (l.drop p) [39] = true) {r : Tq.R} (hr : r = Tq.rd (l.drop p)) :
    Calls Tryz.prog 101 #[.string s, .int .i64 p] w fun e w' => e = .returned (rvl p r) ∧ Below w.heap.size w w' := by
  have hps : decide (s.size < p) = false := decide_eq_false (by rw [hs, txt_size]; omega)
  have hp0 : decide ((p : Int) < 0) = false := decide_eq_false (by omega)
  have HS := Lib.hid hs
  have HL := Lib.hid hl
  have HP := Lib.hid hp
  have HRR := Lib.hid hr
  have Ha := Lib.hid a
  have Hb := Lib.hid b
  have Hc := Lib.hid c
  have Hd := Lib.hid d
  have HFC := Lib.hid (FC.new w)
  have HWB := Lib.hid (show w.heap.size ≤ (w.alloc (.cells #[.int .i64 0, .int .i64 0] 28)).heap.size by simp)
  have HW0 := Lib.hid (show Below w.heap.size w (w.alloc (.cells #[.int .i64 0, .int .i64 0] 28)) from (Below.refl _ _).alloc (Nat.le_refl _) _)
  clear hs hl hp hr a b c d
  go_enter Tryz.func101, Tryz.ntmps101
  go_wp2_with fail
  refine (tqa_KLI _ HS.out HL.out HP.out Ha.out Hb.out Hc.out Hd.out).mono ?_
  rintro e w1 ⟨rfl, R⟩
  obtain ⟨W, hW⟩ : ∃ W, w.alloc (.cells #[.int .i64 0, .int .i64 0] 28) = W := ⟨_, rfl⟩
  have hWs : W.heap.size = w.heap.size + 1 := by rw [← hW]; simp
  rw [hW, hWs] at R
  rw [hW, hWs]
  have HWs := Lib.hid hWs
  have HR := Lib.hid R
  have HFW : Hid (FC w W w.heap.size) := Lib.hid (by rw [← hW]; exact HFC.out)
  have HWB2 : Hid (w.heap.size ≤ W.heap.size) := Lib.hid (by omega)
  have HW1 : Hid (Below w.heap.size w W) := Lib.hid (by rw [← hW]; exact HW0.out)
  clear R hWs hW HFC HWB HW0
  have hm1 := mt_li_whole (w.heap.size + 1)
  have hm2 := mt_li_place (w.heap.size + 1)
  have hm3 := mt_li_told (w.heap.size + 1)
  go_wp2_with fail
  refine (tlit_any HR.out HS.out HL.out (hasP_at (q := 39) Hd.out) rfl (r := r) (HRR.out.trans (rd_short (.inr rfl) Hb.out Hd.out))).mono ?_
  intro e w2 hpost
  cases r with
  | ok u k =>
    obtain ⟨rfl, R2⟩ := hpost
    have HR2 := Lib.hid R2
    have r1 := R2.1
    have d0 := cell_old r1 HFW.out.lt HFW.out.c0
    have d1 := cell_old r1 HFW.out.lt HFW.out.c1
    have e0 := free_old r1 HFW.out.lt HFW.out.f0
    have e1 := free_old r1 HFW.out.lt HFW.out.f1
    have HB2 := Lib.hid (HFW.out.bel w2 r1)
    obtain ⟨S, HSS⟩ : ∃ S, Hid (S = txt u) := ⟨_, rfl⟩
    clear R2 r1
    go_wp2_with fail
    refine (ttold_any HR2.out HSS.out).mono ?_
    rintro e w3 ⟨rfl, rfl⟩
    go_wp2_with fail
    refine (tplace_any HR2.out).mono ?_
    rintro e w3 ⟨rfl, rfl⟩
    go_wp2_with fail
    refine bodyPost_ret (v := .tuple #[.string S, .int .i64 (p + k : Nat), .agg #[.int .i64 0, .int .i64 0]]) (by simp [results, Tryz.results101, go_sem, *]) rfl ?_
    exact ⟨by rw [rvl, HSS.out], (HB2.out.setCell (Nat.le_refl _) _).setCell (Nat.le_refl _) _⟩
  | bad k =>
    obtain ⟨rfl, u, R2⟩ := hpost
    have HR2 := Lib.hid R2
    have r1 := R2.1
    have d0 := cell_old r1 HFW.out.lt HFW.out.c0
    have d1 := cell_old r1 HFW.out.lt HFW.out.c1
    have e0 := free_old r1 HFW.out.lt HFW.out.f0
    have e1 := free_old r1 HFW.out.lt HFW.out.f1
    have HB2 := Lib.hid (HFW.out.bel w2 r1)
    clear R2 r1
    go_wp2_with fail
    refine (tplace_any HR2.out).mono ?_
    rintro e w3 ⟨rfl, rfl⟩
    go_wp2_with fail
    refine bodyPost_ret (v := .tuple #[.string ⟨#[]⟩, .int .i64 0, .agg #[.int .i64 3, .int .i64 (p + k : Nat)]]) (by simp [results, Tryz.results101, go_sem, *]) rfl ?_
    exact ⟨by rw [rvl], (HB2.out.setCell (Nat.le_refl _) _).setCell (Nat.le_refl _) _⟩
set_option maxHeartbeats 4000000 in
set_option maxRecDepth 100000 in
theorem tread_ba (w : World) (hs : s = txt l) (hl : l.length ≤ 1000000) (hp : p ≤ l.length) (a : hasP (l.drop p) [34, 34, 34] = false) (b : hasP (l.drop p) [39, 39, 39] = false) (c : hasP (l.drop p) [34] = true) (hS : ∀ k, tkC l k 92 = true → (∀ W, Below w.heap.size w W → HdOk W l) ∧ TShorts w ∧ 0 < w.heap.size) {r : Tq.R} (hr : r = Tq.rd (l.drop p)) :
    Calls Tryz.prog 101 #[.string s, .int .i64 p] w fun e w' => e = .returned (rvl p r) ∧ Below w.heap.size w w' := by
  have hps : decide (s.size < p) = false := decide_eq_false (by rw [hs, txt_size]; omega)
  have hp0 : decide ((p : Int) < 0) = false := decide_eq_false (by omega)
  have HS := Lib.hid hs
  have HL := Lib.hid hl
  have HP := Lib.hid hp
  have HRR := Lib.hid hr
  have Ha := Lib.hid a
  have Hb := Lib.hid b
  have Hc := Lib.hid c
  have HhS := Lib.hid hS
  have HFC := Lib.hid (FC.new w)
  have HWB := Lib.hid (show w.heap.size ≤ (w.alloc (.cells #[.int .i64 0, .int .i64 0] 28)).heap.size by simp)
  have HW0 := Lib.hid (show Below w.heap.size w (w.alloc (.cells #[.int .i64 0, .int .i64 0] 28)) from (Below.refl _ _).alloc (Nat.le_refl _) _)
  clear hs hl hp hr a b c hS
  go_enter Tryz.func101, Tryz.ntmps101
  go_wp2_with fail
  refine (tqa_KBA _ HS.out HL.out HP.out Ha.out Hb.out Hc.out).mono ?_
  rintro e w1 ⟨rfl, R⟩
  obtain ⟨W, hW⟩ : ∃ W, w.alloc (.cells #[.int .i64 0, .int .i64 0] 28) = W := ⟨_, rfl⟩
  have hWs : W.heap.size = w.heap.size + 1 := by rw [← hW]; simp
  rw [hW, hWs] at R
  rw [hW, hWs]
  have HWs := Lib.hid hWs
  have HR := Lib.hid R
  have HFW : Hid (FC w W w.heap.size) := Lib.hid (by rw [← hW]; exact HFC.out)
  have HWB2 : Hid (w.heap.size ≤ W.heap.size) := Lib.hid (by omega)
  have HW1 : Hid (Below w.heap.size w W) := Lib.hid (by rw [← hW]; exact HW0.out)
  clear R hWs hW HFC HWB HW0
  have hm1 := mt_ba_whole (w.heap.size + 1)
  have hm2 := mt_ba_place (w.heap.size + 1)
  have hm3 := mt_ba_told (w.heap.size + 1)
  go_wp2_with fail
  refine (tbas_any HR.out HS.out HL.out (hasP_at (q := 34) Hc.out) rfl (fun k hk => ⟨(HhS.out k hk).1 _ HW1.out, (HhS.out k hk).2.1.old (HhS.out k hk).2.2 HW1.out, Nat.lt_of_lt_of_le (HhS.out k hk).2.2 HWB2.out⟩) (r := r) (HRR.out.trans (rd_short (.inl rfl) Ha.out Hc.out))).mono ?_
  intro e w2 hpost
  cases r with
  | ok u k =>
    obtain ⟨rfl, R2⟩ := hpost
    have HR2 := Lib.hid R2
    have r1 := R2.1
    have d0 := cell_old r1 HFW.out.lt HFW.out.c0
    have d1 := cell_old r1 HFW.out.lt HFW.out.c1
    have e0 := free_old r1 HFW.out.lt HFW.out.f0
    have e1 := free_old r1 HFW.out.lt HFW.out.f1
    have HB2 := Lib.hid (HFW.out.bel w2 r1)
    obtain ⟨S, HSS⟩ : ∃ S, Hid (S = txt u) := ⟨_, rfl⟩
    clear R2 r1
    go_wp2_with fail
    refine (ttold_any HR2.out HSS.out).mono ?_
    rintro e w3 ⟨rfl, rfl⟩
    go_wp2_with fail
    refine (tplace_any HR2.out).mono ?_
    rintro e w3 ⟨rfl, rfl⟩
    go_wp2_with fail
    refine bodyPost_ret (v := .tuple #[.string S, .int .i64 (p + k : Nat), .agg #[.int .i64 0, .int .i64 0]]) (by simp [results, Tryz.results101, go_sem, *]) rfl ?_
    exact ⟨by rw [rvl, HSS.out], (HB2.out.setCell (Nat.le_refl _) _).setCell (Nat.le_refl _) _⟩
  | bad k =>
    obtain ⟨rfl, u, R2⟩ := hpost
    have HR2 := Lib.hid R2
    have r1 := R2.1
    have d0 := cell_old r1 HFW.out.lt HFW.out.c0
    have d1 := cell_old r1 HFW.out.lt HFW.out.c1
    have e0 := free_old r1 HFW.out.lt HFW.out.f0
    have e1 := free_old r1 HFW.out.lt HFW.out.f1
    have HB2 := Lib.hid (HFW.out.bel w2 r1)
    clear R2 r1
    go_wp2_with fail
    refine (tplace_any HR2.out).mono ?_
    rintro e w3 ⟨rfl, rfl⟩
    go_wp2_with fail
    refine bodyPost_ret (v := .tuple #[.string ⟨#[]⟩, .int .i64 0, .agg #[.int .i64 3, .int .i64 (p + k : Nat)]]) (by simp [results, Tryz.results101, go_sem, *]) rfl ?_
    exact ⟨by rw [rvl], (HB2.out.setCell (Nat.le_refl _) _).setCell (Nat.le_refl _) _⟩
theorem ta_ll_lb (a : Option Addr) (w : World) : (Instr.typeAssert (.iface 189 (.pointer a)) 172 182 true).run Tryz.prog w = .ok (.tuple #[.pointer none, .bool false]) w := by kernel_rfl
theorem ta_ll_ll (a : Option Addr) (w : World) : (Instr.typeAssert (.iface 189 (.pointer a)) 172 189 true).run Tryz.prog w = .ok (.tuple #[.pointer a, .bool true]) w := by kernel_rfl
theorem ta_li_lb (a : Option Addr) (w : World) : (Instr.typeAssert (.iface 193 (.pointer a)) 172 182 true).run Tryz.prog w = .ok (.tuple #[.pointer none, .bool false]) w := by kernel_rfl
theorem ta_li_ll (a : Option Addr) (w : World) : (Instr.typeAssert (.iface 193 (.pointer a)) 172 189 true).run Tryz.prog w = .ok (.tuple #[.pointer none, .bool false]) w := by kernel_rfl
set_option maxHeartbeats 1000000 in
set_option maxRecDepth 100000 in
theorem tlong_yes (w : World) (hs : s = txt l) (hl : l.length ≤ 1000000) (hp : p ≤ l.length) (a : hasP (l.drop p) [34, 34, 34] = false) (b : hasP (l.drop p) [39, 39, 39] = true) :
    Calls Tryz.prog 148 #[.string s, .int .i64 p] w fun e w' => e = .returned (.bool true) ∧ Below w.heap.size w w' := by
  have hps : decide (s.size < p) = false := decide_eq_false (by rw [hs, txt_size]; omega)
  have hp0 : decide ((p : Int) < 0) = false := decide_eq_false (by omega)
  have HS := Lib.hid hs
  have HL := Lib.hid hl
  have HP := Lib.hid hp
  have Ha := Lib.hid a
  have Hb := Lib.hid b
  clear hs hl hp a b
  go_enter Tryz.func148, Tryz.ntmps148
  go_wp2_with fail
  refine (tqa_KLL _ HS.out HL.out HP.out Ha.out Hb.out).mono ?_
  rintro e w1 ⟨rfl, R⟩
  have HR := Lib.hid R
  clear R
  have k1 := ta_ll_lb (some ⟨w.heap.size, 0, none⟩) w1
  have k2 := ta_ll_ll (some ⟨w.heap.size, 0, none⟩) w1
  go_wp2_with fail
  go_ret
  exact ⟨rfl, HR.out.1⟩
set_option maxHeartbeats 1000000 in
set_option maxRecDepth 100000 in
theorem tlong_no (w : World) (hs : s = txt l) (hl : l.length ≤ 1000000) (hp : p ≤ l.length) (a : hasP (l.drop p) [34, 34, 34] = false) (b : hasP (l.drop p) [39, 39, 39] = false) (c : hasP (l.drop p) [34] = false) (d : hasP (l.drop p) [39] = true) :
    Calls Tryz.prog 148 #[.string s, .int .i64 p] w fun e w' => e = .returned (.bool false) ∧ Below w.heap.size w w' := by
  have hps : decide (s.size < p) = false := decide_eq_false (by rw [hs, txt_size]; omega)
  have hp0 : decide ((p : Int) < 0) = false := decide_eq_false (by omega)
  have HS := Lib.hid hs
  have HL := Lib.hid hl
  have HP := Lib.hid hp
  have Ha := Lib.hid a
  have Hb := Lib.hid b
  have Hc := Lib.hid c
  have Hd := Lib.hid d
  clear hs hl hp a b c d
  go_enter Tryz.func148, Tryz.ntmps148
  go_wp2_with fail
  refine (tqa_KLI _ HS.out HL.out HP.out Ha.out Hb.out Hc.out Hd.out).mono ?_
  rintro e w1 ⟨rfl, R⟩
  have HR := Lib.hid R
  clear R
  have k1 := ta_li_lb (some ⟨w.heap.size, 0, none⟩) w1
  have k2 := ta_li_ll (some ⟨w.heap.size, 0, none⟩) w1
  go_wp2_with fail
  go_ret
  exact ⟨rfl, HR.out.1⟩
end
end Go.Proofs.YtbeefjhcbphiaaaGreatDoor
