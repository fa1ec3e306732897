/- The law of spans: each value's span alone is a document, of that value's tree. -/
import Derived.Test.YtnjmcldhmnpbjaaGreatDoorLam
import Derived.Test.YtnjmcldhmnpbjaaGreatDoorLbm
import Derived.Test.YtnjmcldhmnpbjaaGreatDoorLcm
import Derived.Test.YtnjmcldhmnpbjaaGreatDoorKrm
import Derived.Test.YtnjmcldhmnpbjaaGreatDoorKzm
import Derived.Deep.RegionHeld3
import Derived.StillTailTactics
namespace Go.Proofs.YtnjmcldhmnpbjaaGreatDoor
open Go.RowKit
namespace Jt
open Jk (lt_blk below_tr fvO ArgB)

theorem below_dn {B : Nat} {a w : World} (h : Below B a w) (k : Nat) : Below B a (w.drewN k) := ⟨h.os, h.tape, h.output, h.size, h.block⟩
section
variable {l : Bs} {A : Option Addr} {n c : Nat} {w : World}
set_option maxRecDepth 100000 in
theorem spans_long (ha : ArgB w A n c l) (hT : Tabs0 w) (h : 2000 < n) :
    Calls Tryz.prog 4 #[.slice A n c] w fun e w' => e = .returned (.bool true) ∧ Below w.heap.size w w' := by
  obtain ⟨_, h1, h2, _⟩ := ha
  unfold maxLen at h2
  have h' : (2000 : Int) < n := by omega
  have HT := Lib.hid hT
  clear hT
  go_enter Tryz.func4, Tryz.ntmps4
  go_wp2_with (go_at_call 7; refine (lives_any HT.out).mono ?_; rintro e w' ⟨rfl, hb⟩)
  go_ret
  exact ⟨rfl, hb⟩
/-- A tree that is parsed, as the law keeps it: what is asked of each node. -/
def AllOk (l : Bs) (v : JV) : Prop := ∀ i x, (v.nds 0)[i]? = some x → ∃ u u', SpanOk l v i x u u'
theorem SpanOk.small {v : JV} {i : Nat} {x : Nd} {u u' : JV} (h : SpanOk l v i x u u') (hl : l.length ≤ 2000) (hv : v.size ≤ 300) : Small x := by
  have h1 := h.pos
  have h2 := h.len
  have h3 := h.many
  refine ⟨by omega, by omega, fun p hp => ?_, fun s hs => ?_, by omega, by omega⟩
  · have := h.spots p hp; omega
  · have := (h.subs s hs).2.1; omega
set_option maxHeartbeats 16000000 in
set_option maxRecDepth 100000 in
theorem spans_bad {cc aa : Nat} (ha : ArgB w A n c l) (hT : Tabs0 w) (h : n ≤ 2000) (hp : parseR l = .bad cc aa) :
    Calls Tryz.prog 4 #[.slice A n c] w fun e w' => e = .returned (.bool true) ∧ Below w.heap.size w w' := by
  obtain ⟨hn, hnc, hcm, hA, hnil⟩ := ha
  have h' : ¬ (2000 : Int) < n := by omega
  have HL := Lib.hid (fun (wx : World) (hb : Below w.heap.size w wx) => lives_any (hT.below hb))
  have C1 := Lib.hid (parse_any (A := A) (C := c) hn hnc hA (Nat.le_refl _) hcm (by omega) hT)
  obtain ⟨hc0, ha0⟩ := parse_bad hp
  have hcI : ¬ (cc : Int) = 0 := by omega
  have haI : aa ≤ n := by rw [hn]; exact ha0
  have HP := Lib.hid hp
  clear hn hA hnil hT hp hc0 ha0
  unfold maxLen at hcm
  go_enter Tryz.func4, Tryz.ntmps4
  go_wp2_with fail
  refine C1.out.mono ?_
  rintro e w1 ⟨hb1, hR⟩
  have HB1 := Lib.hid hb1
  rw [HP.out] at hR
  simp only at hR
  subst hR
  clear C1 hb1
  go_upto_region 4 with fail
  have HF := Lib.hid (PB.start (w := w1) (sv := .slice none 0 0) (c := cc) (a := aa))
  obtain ⟨V, hV⟩ : ∃ V, V = (w1.alloc (trO (.slice none 0 0))).alloc (fvO cc aa) := ⟨_, rfl⟩
  rw [← hV] at HF ⊢
  have HBV := Lib.hid (below_tr HB1.out HF.out.below)
  obtain ⟨a0, a1, a2, a3⟩ := HF.out.cells
  clear hV
  go_wp2_with (go_at_call 7; refine (HL.out _ HBV.out).mono ?_; rintro e w' ⟨rfl, hb⟩)
  go_ret
  exact ⟨rfl, below_tr HBV.out hb⟩
set_option maxHeartbeats 32000000 in
set_option maxRecDepth 100000 in
theorem spans_ok {nd : List Nd} (ha : ArgB w A n c l) (hT : Tabs0 w) (h : n ≤ 2000) (hp : parseR l = .ok nd) :
    Calls Tryz.prog 4 #[.slice A n c] w fun e w' => e = .returned (.bool true) ∧ Below w.heap.size w w' := by
  obtain ⟨hn, hnc, hcm, hA, hnil⟩ := ha
  have h' : ¬ (2000 : Int) < n := by omega
  have HL := Lib.hid (fun (wx : World) (hb : Below w.heap.size w wx) => lives_any (hT.below hb))
  have C1 := Lib.hid (parse_any (A := A) (C := c) hn hnc hA (Nat.le_refl _) hcm (by omega) hT)
  have HCP := Lib.hid (fun (wx : World) (a b : Nat) (hab : a ≤ b) (hbn : b ≤ n) (hb : Below w.heap.size w wx) =>
    parse_any (A := A.map (·.add a)) (N := b - a) (C := c - a) (l := part l (a, b)) (B := w.heap.size) (w := wx) (by show _ = ((l.take b).drop a).length; rw [List.length_drop, List.length_take]; omega) (by omega)
      (((hA.below hb).take b).cut' (by rw [List.length_take]; omega)) hb.size (by unfold maxLen at hcm ⊢; omega) (by omega) (hT.below hb))
  obtain ⟨v, hnd, hall⟩ := law_spans hp
  have HP := Lib.hid hp
  have HV := Lib.hid hnd
  have HALL := Lib.hid (show AllOk l v from hall)
  have Hn := Lib.hid hn
  clear hn hA hnil hT hp hnd hall
  unfold maxLen at hcm
  go_enter Tryz.func4, Tryz.ntmps4
  go_wp2_with fail
  refine C1.out.mono ?_
  rintro e w1 ⟨hb1, hR⟩
  have HB1 := Lib.hid hb1
  rw [HP.out] at hR
  obtain ⟨A1, N1, lab, X, rfl, hX, hx⟩ := hR
  have hX' := hX.trd
  have hvx : X.map Nx.nd = v.nds 0 := hx.trans HV.out
  have hN : N1 = v.size := by rw [hX'.n, ← List.length_map (f := Nx.nd), hvx, JV.nds_len]
  have hN0 : 0 < N1 := by rw [hN]; exact v.size_pos
  have hNhi := hX'.hi
  have HN := Lib.hid hN
  have HVX := Lib.hid hvx
  clear C1 hb1 hX hx hN hvx HP HV
  go_upto_region 4 with fail
  have HF := Lib.hid (PB.start (w := w1) (sv := .slice A1 N1 N1) (c := 0) (a := 0))
  obtain ⟨V, hV⟩ : ∃ V, V = (w1.alloc (trO (.slice A1 N1 N1))).alloc (fvO 0 0) := ⟨_, rfl⟩
  rw [← hV] at HF ⊢
  have HBV := Lib.hid (below_tr HB1.out HF.out.below)
  have HXV := Lib.hid (hX'.keep HF.out.below)
  obtain ⟨a0, a1, a2, a3⟩ := HF.out.cells
  have hVz : w1.heap.size + 1 < V.heap.size := lt_blk HF.out.f
  clear hV hX'
  have hN0' : ¬ N1 = 0 := by omega
  by_cases h3 : N1 ≤ 300
  case neg =>
    have h3' : (300 : Int) < N1 := by omega
    go_wp2_with (go_at_call 7; refine (HL.out _ HBV.out).mono ?_; rintro e w' ⟨rfl, hb⟩)
    go_ret
    exact ⟨rfl, below_tr HBV.out hb⟩
  have h3' : ¬ (300 : Int) < N1 := by omega
  obtain ⟨g, rfl, hg, _⟩ := HXV.out.at_ hN0
  go_wp2_with fail
  clear a0 a1 a2 a3
  go_loopw [5] (fun s wr => ∃ i : Nat, i ≤ N1 ∧ s = .int .i64 i ∧ Hid (Below V.heap.size V wr)) (fun s _ => N1 - (intOf s).toNat)
  case atStart => exact ⟨0, Nat.zero_le _, rfl, Lib.hid (Below.refl _ _)⟩
  case round =>
    obtain ⟨i, hi, rfl, HW⟩ := hrel
    have HBW := Lib.hid (below_tr HBV.out HW.out)
    obtain ⟨a0, a1, _, _⟩ := (HF.out.on HW.out).cells
    by_cases hlt : i < N1
    case neg =>
      obtain rfl : i = N1 := by omega
      go_wp2_with (go_at_call 7; refine (HL.out _ HBW.out).mono ?_; rintro e w' ⟨rfl, hb⟩)
      go_ret
      exact ⟨rfl, below_tr HBW.out hb⟩
    obtain ⟨x, hx⟩ : ∃ x, X[i]? = some x := ⟨_, List.getElem?_eq_getElem (by have := HXV.out.n; omega)⟩
    have hxn : (v.nds 0)[i]? = some x.nd := by rw [← HVX.out, List.getElem?_map, hx]; rfl
    obtain ⟨u, u', hS⟩ := HALL.out i x.nd hxn
    have hXW := HXV.out.keep HW.out
    have rx := hXW.rd i x hx
    obtain ⟨A0, c0, e0, n0, m0, C0⟩ := rx.row (show 0 < 3 by omega)
    obtain ⟨A1, c1, e1, n1, m1, C1⟩ := rx.row (show 1 < 3 by omega)
    obtain ⟨A2, c2, e2, n2, m2, C2⟩ := rx.row (show 2 < 3 by omega)
    obtain ⟨g', eg, hg', hcw⟩ := hXW.at_ hN0
    injection eg with eg
    injection eg with eg _ _
    subst eg
    have hcx := hcw i x hx
    have hlx : ndC x = [.int .u8 (x.nd.kind : Nat), .string (txt x.nd.text), .slice A0 (ecn x.nd 0) c0, .slice A1 (ecn x.nd 1) c1, .slice A2 (ecn x.nd 2) c2, .int .i64 (x.nd.span.1 : Nat), .int .i64 (x.nd.span.2 : Nat)] := by
      unfold ndC; rw [e0, e1, e2]
    rw [hlx] at hcx
    have p0 := hcx 0 _ rfl
    have p1 := hcx 1 _ rfl
    have p2 := hcx 2 _ rfl
    have p3 := hcx 3 _ rfl
    have p4 := hcx 4 _ rfl
    have p5 := hcx 5 _ rfl
    have p6 := hcx 6 _ rfl
    rw [Nat.add_zero] at p0
    obtain ⟨s1, hs1⟩ : ∃ v : Nat, v = x.nd.span.1 := ⟨_, rfl⟩
    obtain ⟨s2, hs2⟩ : ∃ v : Nat, v = x.nd.span.2 := ⟨_, rfl⟩
    obtain ⟨l0, hl0⟩ : ∃ l, l = ecn x.nd 0 := ⟨_, rfl⟩
    obtain ⟨l1, hl1⟩ : ∃ l, l = ecn x.nd 1 := ⟨_, rfl⟩
    obtain ⟨l2, hl2⟩ : ∃ l, l = ecn x.nd 2 := ⟨_, rfl⟩
    obtain ⟨kd, hkd⟩ : ∃ v : Int, v = (x.nd.kind : Nat) := ⟨_, rfl⟩
    obtain ⟨tx, htx⟩ : ∃ v, v = txt x.nd.text := ⟨_, rfl⟩
    rw [← hkd] at p0
    rw [← htx] at p1
    rw [← hl0] at p2
    rw [← hl1] at p3
    rw [← hl2] at p4 C2
    rw [← hs1] at p5
    rw [← hs2] at p6
    have s12 : s1 < s2 := by rw [hs1, hs2]; exact hS.pos
    have s2n : s2 ≤ n := by rw [hs2, Hn.out]; exact hS.len
    have l2n : l2 ≤ 300 := by
      rw [hl2]
      show x.nd.subs.length ≤ 300
      have h8 := hS.many.2
      have h9 := HN.out
      omega
    have HSO := Lib.hid hS
    have HXP := Lib.hid hx
    have HXN := Lib.hid hxn
    have HS12 := Lib.hid (And.intro hs1 (And.intro hs2 hl2))
    have HC2 := Lib.hid C2
    clear hS hx hxn rx hcx hlx hs1 hs2 hl0 hl1 hl2 hkd htx e0 e1 e2 n0 n1 n2 m0 m1 m2 C0 C1 C2 hg' hXW
    go_upto_region 14 with fail
    obtain ⟨V2, hV2⟩ : ∃ V2, V2 = wr.alloc (.cells #[.int .u8 kd, .string tx, .slice A0 l0 c0, .slice A1 l1 c1, .slice A2 l2 c2, .int .i64 (s1 : Nat), .int .i64 (s2 : Nat)] 44) := ⟨_, rfl⟩
    rw [← hV2]
    have hnb : NB wr V2 kd tx (.slice A0 l0 c0) (.slice A1 l1 c1) (.slice A2 l2 c2) (s1 : Nat) (s2 : Nat) := by
      rw [hV2]; exact ⟨(Below.refl _ _).alloc (Nat.le_refl _) _, heap_alloc_new _ _⟩
    have hzw : w1.heap.size + 1 < wr.heap.size := Nat.lt_of_lt_of_le hVz HW.out.size
    have t0 : V2.cell? ⟨w1.heap.size, 0, none⟩ = some (.slice (some ⟨g, 0, none⟩) N1 N1) := (hnb.below.cell (p := ⟨w1.heap.size, 0, none⟩) (by show w1.heap.size < _; omega)).trans a0
    have HNB := Lib.hid hnb
    have HV2 := Lib.hid (below_tr HW.out hnb.below)
    clear hV2 a0 a1 p0 p1 p2 p3 p4 p5 p6
    have b5 := hnb.cell 5 _ rfl
    have b6 := hnb.cell 6 _ rfl
    clear hnb
    go_cut [106] from 56 to 181 (fun v wx => v = .bool false ∧ ∃ nq, wx = V2.drewN nq)
    case first =>
      have q1 : decide ((s1 : Int) < 0) = false := decide_eq_false (by omega)
      have q2 : decide (n < s2) = false := decide_eq_false (by omega)
      have q3 : decide (s2 ≤ s1) = false := decide_eq_false (by omega)
      rcases Nat.eq_zero_or_pos i with rfl | hi0
      · go_quiet (fail)
        go_wp2_with fail
        go_meet
        exact ⟨rfl, _, rfl⟩
      · obtain ⟨k, rfl⟩ : ∃ k, i = k + 1 := ⟨i - 1, by omega⟩
        obtain ⟨y, hy⟩ : ∃ y, X[k]? = some y := ⟨_, List.getElem?_eq_getElem (by have := HXV.out.n; omega)⟩
        have hyn : (v.nds 0)[k]? = some y.nd := by rw [← HVX.out, List.getElem?_map, hy]; rfl
        have hys := HSO.out.ord k y.nd rfl hyn
        obtain ⟨g', eg, hg', hcw2⟩ := (HXV.out.keep HV2.out).at_ hN0
        injection eg with eg
        injection eg with eg _ _
        subst eg
        obtain ⟨o1, ho1⟩ : ∃ v : Nat, v = y.nd.span.1 := ⟨_, rfl⟩
        have o5 : V2.cell? ⟨g, k * 7 + 5, none⟩ = some (.int .i64 (o1 : Nat)) := by rw [ho1]; exact hcw2 k y hy 5 _ rfl
        have q4 : decide (s1 ≤ o1) = false := decide_eq_false (by have := HS12.out.1; omega)
        clear hy hyn hys hcw2 ho1 hg' hcw
        go_quiet (fail)
        go_wp2_with fail
        go_meet
        exact ⟨rfl, _, rfl⟩
    case rest =>
      obtain ⟨rfl, nq, hwq⟩ := hcut
      obtain ⟨wq, hwq2⟩ : ∃ wq, wq = V2.drewN nq := ⟨_, rfl⟩
      have hbq : Below V2.heap.size V2 wq := by rw [hwq2]; exact below_dn (Below.refl _ _) nq
      rw [hwq, ← hwq2]
      have HNQ := Lib.hid (HNB.out.on hbq)
      have HVQ := Lib.hid (below_tr HV2.out hbq)
      clear hwq hwq2 hbq b5 b6 t0
      have b4 := HNQ.out.cell 4 _ rfl
      go_wp2_with fail
      clear b4
      obtain ⟨wo, hwo⟩ : ∃ wo, wo = wr := ⟨_, rfl⟩
      subst hwo
      go_loopw [7] (fun t wr => ∃ k : Nat, k ≤ l2 ∧ t = .int .i64 k ∧ Hid (Below wq.heap.size wq wr)) (fun t _ => l2 - (intOf t).toNat)
      case atStart => exact ⟨0, Nat.zero_le _, rfl, Lib.hid (Below.refl _ _)⟩
      case round =>
        obtain ⟨k, hk, rfl, HZ⟩ := hrel
        have HNZ := Lib.hid (HNQ.out.on HZ.out)
        have HVZ := Lib.hid (below_tr HVQ.out HZ.out)
        have b4 := HNZ.out.cell 4 _ rfl
        have b5 := HNZ.out.cell 5 _ rfl
        have b6 := HNZ.out.cell 6 _ rfl
        obtain ⟨a0, a1, _, _⟩ := (HF.out.on HVZ.out).cells
        by_cases hkl : k < l2
        case pos =>
          obtain ⟨g2, rfl, hg2, hc2⟩ := HC2.out (by omega)
          obtain ⟨sj, hs⟩ : ∃ s, x.nd.subs[k]? = some s := ⟨_, List.getElem?_eq_getElem (by have := HS12.out.2.2; exact (show k < x.nd.subs.length from by rw [show x.nd.subs.length = ecn x.nd 2 from rfl]; omega))⟩
          obtain ⟨j1, j2, y, hy, j3, j4⟩ := HSO.out.subs sj (List.mem_of_getElem? hs)
          obtain ⟨xs, hxs, exs⟩ := nd_in HVX.out hy
          have hwz : Below wo.heap.size wo wr := HNZ.out.below
          have k5 : wr.cell? ⟨g2, k, none⟩ = some (.int .i64 (sj : Nat)) := (hwz.cell (p := ⟨g2, k, none⟩) hg2).trans (hc2 k _ (inC_at _ _ _ hs))
          obtain ⟨g', eg, hg', hcw2⟩ := (HXV.out.keep HVZ.out).at_ hN0
          injection eg with eg
          injection eg with eg _ _
          subst eg
          obtain ⟨y1, hy1⟩ : ∃ v : Nat, v = y.span.1 := ⟨_, rfl⟩
          obtain ⟨y2, hy2⟩ : ∃ v : Nat, v = y.span.2 := ⟨_, rfl⟩
          have m5 : wr.cell? ⟨g, sj * 7 + 5, none⟩ = some (.int .i64 (y1 : Nat)) := by rw [hy1, ← exs]; exact hcw2 sj xs hxs 5 _ rfl
          have m6 : wr.cell? ⟨g, sj * 7 + 5 + 1, none⟩ = some (.int .i64 (y2 : Nat)) := by rw [hy2, ← exs]; exact hcw2 sj xs hxs 6 _ rfl
          have hsj : sj < N1 := by rw [HN.out]; exact j2
          have r1 : decide (sj ≤ i) = false := decide_eq_false (by omega)
          have r2 : decide (N1 ≤ sj) = false := decide_eq_false (by omega)
          have r3 : ¬ (y1 : Int) ≤ s1 := by have := HS12.out; omega
          have r4 : ¬ (s2 : Int) ≤ y2 := by have := HS12.out; omega
          have hwzs : wo.heap.size < wr.heap.size := lt_blk HNZ.out.nd
          clear hs hy hxs hcw2 exs hy1 hy2 j1 j2 j3 j4 hg' hg2 hc2 hwz
          have HCL := Lib.hid (And.intro (And.intro a0 (And.intro b4 (And.intro b5 b6))) (And.intro k5 (And.intro m5 m6)))
          have hsg : wo.heap.size < wr.heap.size ∧ w1.heap.size < wr.heap.size := ⟨hwzs, by have h1 := HVZ.out.size; omega⟩
          have HK5 := Lib.hid (show g2 < wr.heap.size ∧ g < wr.heap.size from ⟨World.block_lt_of_cell? _ _ k5, World.block_lt_of_cell? _ _ m5⟩)
          go_upto_region 19 with fail
          go_cut [131] from 107 to 155 (fun v wx => v = .bool false ∧ ∃ nq, wx = wr.drewN nq)
          case first =>
            clear b5 b6 m5 m6 r3 r4
            go_quiet (fail)
            go_wp2_with fail
            go_meet
            exact ⟨rfl, _, rfl⟩
          case rest =>
            obtain ⟨rfl, nq, hwy⟩ := hcut
            obtain ⟨wy, hwy2⟩ : ∃ wy, wy = wr.drewN nq := ⟨_, rfl⟩
            have hby : Below wr.heap.size wr wy := by rw [hwy2]; exact below_dn (Below.refl _ _) nq
            clear a0 a1 b4 b5 b6 k5 m5 m6 r1 r2
            obtain ⟨⟨a0, b4, b5, b6⟩, k5, m5, m6⟩ := HCL.out
            have a0 := (hby.cell (p := ⟨w1.heap.size, 0, none⟩) hsg.2).trans a0
            have b4 := (hby.cell (p := ⟨wo.heap.size, 4, none⟩) hsg.1).trans b4
            have b5 := (hby.cell (p := ⟨wo.heap.size, 5, none⟩) hsg.1).trans b5
            have b6 := (hby.cell (p := ⟨wo.heap.size, 6, none⟩) hsg.1).trans b6
            have k5 := (hby.cell (p := ⟨g2, k, none⟩) HK5.out.1).trans k5
            have m5 := (hby.cell (p := ⟨g, sj * 7 + 5, none⟩) HK5.out.2).trans m5
            have m6 := (hby.cell (p := ⟨g, sj * 7 + 5 + 1, none⟩) HK5.out.2).trans m6
            rw [hwy, ← hwy2]
            have HBY := Lib.hid hby
            clear hwy hwy2 hby
            have hy1 : wo.heap.size < wy.heap.size := Nat.lt_of_lt_of_le hsg.1 HBY.out.size
            have hy2 : w1.heap.size < wy.heap.size := Nat.lt_of_lt_of_le hsg.2 HBY.out.size
            have hy3 : g2 < wy.heap.size ∧ g < wy.heap.size := ⟨Nat.lt_of_lt_of_le HK5.out.1 HBY.out.size, Nat.lt_of_lt_of_le HK5.out.2 HBY.out.size⟩
            have a0' : ∀ o, (wy.alloc o).cell? ⟨w1.heap.size, 0, none⟩ = _ := fun o => (World.cell?_alloc_lt _ _ _ hy2).trans a0
            have b4' : ∀ o, (wy.alloc o).cell? ⟨wo.heap.size, 4, none⟩ = _ := fun o => (World.cell?_alloc_lt _ _ _ hy1).trans b4
            have k5' : ∀ o, (wy.alloc o).cell? ⟨g2, k, none⟩ = _ := fun o => (World.cell?_alloc_lt _ _ _ hy3.1).trans k5
            have m5' : ∀ o, (wy.alloc o).cell? ⟨g, sj * 7 + 5, none⟩ = _ := fun o => (World.cell?_alloc_lt _ _ _ hy3.2).trans m5
            have m6' : ∀ o, (wy.alloc o).cell? ⟨g, sj * 7 + 5 + 1, none⟩ = _ := fun o => (World.cell?_alloc_lt _ _ _ hy3.2).trans m6
            clear hy2 hy3
            go_upto_region 21 with fail
            go_region
            go_upto_region 22 with fail
            obtain ⟨V5, hV5⟩ : ∃ V5, V5 = (wy.alloc (.cells #[.int .i64 (y1 : Nat), .int .i64 (y2 : Nat)] 42)).drew := ⟨_, rfl⟩
            have hb5 : Below wy.heap.size wy V5 := by rw [hV5]; exact ((Below.refl _ _).alloc (Nat.le_refl _) _).drew
            have z0 : V5.cell? ⟨wy.heap.size, 0, none⟩ = some (.int .i64 (y1 : Nat)) := by
              rw [hV5]; show (wy.alloc _).cell? _ = _; rw [World.cell?_alloc_at _ _ _ _ rfl]; rfl
            have z1 : V5.cell? ⟨wy.heap.size, 1, none⟩ = some (.int .i64 (y2 : Nat)) := by
              rw [hV5]; show (wy.alloc _).cell? _ = _; rw [World.cell?_alloc_at _ _ _ _ rfl]; rfl
            rw [← hV5]
            clear hV5 a0' b4' k5' m5' m6'
            have hwo : wo.heap.size < wy.heap.size := Nat.lt_of_lt_of_le hsg.1 HBY.out.size
            have b5 := (hb5.cell (p := ⟨wo.heap.size, 5, none⟩) hwo).trans b5
            have b6 := (hb5.cell (p := ⟨wo.heap.size, 6, none⟩) hwo).trans b6
            have HFI := Lib.hid (below_tr HZ.out (below_tr HBY.out hb5))
            clear a0 b4 k5 m5 m6 hb5
            go_wp2_with fail
            refine ⟨⟨k + 1, by omega, by go_num, HFI⟩, ?_⟩
            simp [intOf] <;> omega
        obtain rfl : k = l2 := by omega
        have hpc : ¬ c = s1 := by omega
        have HWZ := Lib.hid (below_tr HBV.out HVZ.out)
        go_wp2_with fail
        refine (HCP.out wr s1 s2 (by omega) s2n HWZ.out).mono ?_
        rintro e w3 ⟨hb3, hR3⟩
        rw [show part l (s1, s2) = part l x.nd.span by rw [HS12.out.1, HS12.out.2.1], HSO.out.own] at hR3
        obtain ⟨A3, N3, lab3, X3, rfl, hX3, hx3⟩ := hR3
        have HX3 := Lib.hid hX3.trd
        have HM3 := Lib.hid hx3
        have HB3 := Lib.hid hb3
        clear hb3 hX3 hx3 a0 a1 b4 b5 b6 hpc
        go_upto_region 25 with fail
        have HF3 := Lib.hid (PB.start (w := w3) (sv := .slice A3 N3 N3) (c := 0) (a := 0))
        obtain ⟨V4, hV4⟩ : ∃ V, V = (w3.alloc (trO (.slice A3 N3 N3))).alloc (fvO 0 0) := ⟨_, rfl⟩
        rw [← hV4] at HF3 ⊢
        clear hV4
        have HV4 := Lib.hid (below_tr HVZ.out (below_tr HB3.out HF3.out.below))
        obtain ⟨us, hus⟩ : ∃ v : Nat, v = u.size := ⟨_, rfl⟩
        have hXk := HXV.out.keep HV4.out
        have hX3k := HX3.out.keep HF3.out.below
        have hZl : (u'.nds 0).length = us := by rw [JV.nds_len, hus]; exact HSO.out.size
        have hfit : i + us ≤ N1 := by rw [HN.out, hus]; exact HSO.out.fit
        have hzz : ∀ (m : Nat) (z : Nd), (u'.nds 0)[m]? = some z → ∃ x, X[i + m]? = some x ∧ x.nd = Nd.up s1 (Nd.on i z) := fun m z hz => by
          have h9 := HSO.out.nds m z hz
          obtain ⟨xx, q1, q2⟩ := nd_in HVX.out h9
          exact ⟨xx, q1, by rw [q2, HS12.out.1]⟩
        have hsm : ∀ (m : Nat) (x : Nx), X[m]? = some x → Small x.nd := fun m xx hm => by
          have h9 : (v.nds 0)[m]? = some xx.nd := by rw [← HVX.out, List.getElem?_map, hm]; rfl
          obtain ⟨_, _, q⟩ := HALL.out m xx.nd h9
          exact q.small (by have := Hn.out; omega) (by have := HN.out; omega)
        have CS1 := Lib.hid (fun (wx : World) (hb : Below V4.heap.size V4 wx) => show Calls Tryz.prog 15 #[.agg #[.slice (some ⟨g, 0, none⟩) N1 N1, .int .i64 0], .int .i64 (i : Nat), .int .i64 300] wx fun e w' => e = .returned (.int .i64 (us : Nat)) ∧ Below wx.heap.size wx w' from by
          rw [hus]; exact size_any (c := N1) HVX.out h3 300 i u wx (i : Nat) 300 rfl rfl (hXk.keep hb) HSO.out.at_ (by have := HSO.out.dep; omega) (by omega))
        have CS2 := Lib.hid (fun (wx : World) (hb : Below V4.heap.size V4 wx) => sub_any (c := N1) (i := i) (n := us) (f := s1) (Z := u'.nds 0) (hXk.keep hb) h3 hZl hfit (by rw [hus]; exact u.size_pos) hzz ⟨x, HXP.out, HS12.out.1.symm⟩ hsm (i : Nat) (us : Nat) rfl rfl)
        have CS3 := Lib.hid (fun (wx : World) (A5 : Option Addr) (c5 : Nat) (Y : List Nx) (hb : Below V4.heap.size V4 wx) (hY : Trd wx A5 us Y) (hm : Y.map Nx.nd = u'.nds 0) => show Calls Tryz.prog 11 #[.agg #[.slice A3 N3 N3, .int .i64 0], .agg #[.slice A5 us c5, .int .i64 0]] wx fun e w' => e = .returned (.bool true) ∧ Below wx.heap.size wx w' from by
          refine (same_any (c := N3) (d := c5) (hX3k.keep hb) hY 0 0).mono ?_
          rintro e w9 ⟨rfl, h9⟩
          exact ⟨by rw [decide_eq_true ⟨rfl, HM3.out.trans hm.symm⟩], h9⟩)
        have HKS := Lib.hid (fun (wx : World) (hb : Below V4.heap.size V4 wx) => show Below V4.heap.size V4 wx ∧ wx.cell? ⟨w3.heap.size, 0, none⟩ = some (.slice A3 N3 N3) ∧ wx.cell? ⟨w3.heap.size, 1, none⟩ = some (.int .i64 0) ∧ wx.cell? ⟨w3.heap.size + 1, 0, none⟩ = some (.int .i64 0) ∧ wx.cell? ⟨w3.heap.size + 1, 1, none⟩ = some (.int .i64 0) ∧ wx.cell? ⟨w1.heap.size, 0, none⟩ = some (.slice (some ⟨g, 0, none⟩) N1 N1) ∧ wx.cell? ⟨w1.heap.size, 1, none⟩ = some (.int .i64 0) from by
          obtain ⟨d0, d1, d2, d3⟩ := (HF3.out.on hb).cells
          obtain ⟨a0, a1, _, _⟩ := (HF.out.on (below_tr HV4.out hb)).cells
          exact ⟨hb, d0, d1, d2, d3, a0, a1⟩)
        clear hXk hX3k hZl hfit hzz hsm hus
        go_region_held3 (fun wx => Below V4.heap.size V4 wx ∧ wx.cell? ⟨w3.heap.size, 0, none⟩ = some (.slice A3 N3 N3) ∧ wx.cell? ⟨w3.heap.size, 1, none⟩ = some (.int .i64 0) ∧ wx.cell? ⟨w3.heap.size + 1, 0, none⟩ = some (.int .i64 0) ∧ wx.cell? ⟨w3.heap.size + 1, 1, none⟩ = some (.int .i64 0) ∧ wx.cell? ⟨w1.heap.size, 0, none⟩ = some (.slice (some ⟨g, 0, none⟩) N1 N1) ∧ wx.cell? ⟨w1.heap.size, 1, none⟩ = some (.int .i64 0))
          (((try go_split_ands); refine HKS.out _ ?_; first | exact (Below.refl _ _).drew | exact Below.refl _ _ | assumption | exact Below.drew (by assumption) | exact below_tr (by assumption) (by assumption) | exact Below.drew (And.left (by assumption)) | exact below_tr (And.left (by assumption)) (by assumption)))
          ((first
            | (go_at_call 15; refine (CS1.out _ (by first | assumption | exact And.left (by assumption))).mono ?_; rintro en w9 ⟨rfl, hb⟩)
            | (go_at_call 14; refine (CS2.out _ (by first | assumption | exact And.left (by assumption))).mono ?_; rintro en w9 ⟨A5, c5, Y, rfl, hY, hYm, hb⟩)
            | (go_at_call 11; refine (CS3.out _ _ _ _ (by first | assumption | exact And.left (by assumption)) (by first | assumption | exact Trd.keep (by assumption) (Below.refl _ _).drew) (by assumption)).mono ?_; rintro en w9 ⟨rfl, hb⟩)))
        rename_i hS2
        have HFIN := Lib.hid (below_tr HV4.out hS2.1)
        clear hS2
        go_wp2_with fail
        refine ⟨⟨i + 1, by omega, by go_num, HFIN⟩, ?_⟩
        simp [intOf] <;> omega
theorem spans_any (ha : ArgB w A n c l) (hT : Tabs0 w) : Calls Tryz.prog 4 #[.slice A n c] w fun e w' => e = .returned (.bool true) ∧ Below w.heap.size w w' := by
  by_cases h : 2000 < n
  · exact spans_long ha hT h
  · cases hp : parseR l with
    | ok nd => exact spans_ok ha hT (by omega) hp
    | bad c a => exact spans_bad ha hT (by omega) hp
end
end Jt
end Go.Proofs.YtnjmcldhmnpbjaaGreatDoor
