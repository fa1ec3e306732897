/- The law of spans' helper size: how many nodes stand in a node, it among them. -/
import Derived.Test.YtnjmcldhmnpbjaaGreatDoorKum
import Derived.Test.YtnjmcldhmnpbjaaGreatDoorKwm
namespace Go.Proofs.YtnjmcldhmnpbjaaGreatDoor
open Go.RowKit
namespace Jt
open Jk (lt_blk below_tr fvO)

theorem JV.dep_pos : ∀ v : JV, 1 ≤ v.dep
  | .sc _ _ _ => by rw [JV.dep]; omega
  | .box _ _ _ => by rw [JV.dep]; omega
/-- What stands in a node. -/
theorem node_subs {v u : JV} {i : Nat} {x : Nd} (h : v.at_ i = some u) (hx : (v.nds 0)[i]? = some x) :
    ∃ is : JI, u.size = is.size + 1 ∧ x.subs = is.subs (i + 1) ∧ (∀ (n : Nat) (w : JV), is.at_ n = some w → v.at_ (i + 1 + n) = some w) ∧ ∀ (k : Nat) (w : JV), is.vals[k]? = some w → w.dep + 1 ≤ u.dep := by
  obtain ⟨x', rest, h1, h2, _⟩ := nd_at (s := 0) h
  rw [hx] at h1
  obtain rfl := Option.some.inj h1
  rw [Nat.zero_add] at h2
  cases u with
  | sc k t sp =>
    rw [JV.nds] at h2
    injection h2 with h2 _
    refine ⟨.nil, by rw [JV.size, JI.size], by rw [← h2]; rw [JI.subs], fun n w hw => by (cases n <;> (rw [JI.at_] at hw; cases hw)), fun k w hw => by simp [JI.vals] at hw⟩
  | box m sp is =>
    rw [JV.nds] at h2
    injection h2 with h2 _
    refine ⟨is, by rw [JV.size], by rw [← h2], fun n w hw => ?_, fun k w hw => ?_⟩
    · have := JV.at_at v i (n + 1) _ w h (by rw [JV.at_]; exact hw)
      rwa [show i + 1 + n = i + (n + 1) by omega]
    · have := dep_kth is k w hw
      rw [JV.dep]; omega
theorem upto_le : ∀ (is : JI) (k : Nat), is.upto k ≤ is.size
  | .nil, k => by simp [JI.upto, JI.vals]
  | .cons _ _ v r, 0 => by simp [JI.upto]
  | .cons a b v r, k + 1 => by
    have := upto_le r k
    have e : (JI.cons a b v r).upto (k + 1) = v.size + r.upto k := by simp [JI.upto, JI.vals]
    rw [JI.size]; omega
set_option maxHeartbeats 8000000 in
set_option maxRecDepth 100000 in
theorem size_any {A : Option Addr} {N c : Nat} {X : List Nx} {v : JV} (hv : X.map Nx.nd = v.nds 0) (hN : N ≤ 300) : ∀ (d : Nat) (i : Nat) (u : JV) (w : World) (I D : Int), I = (i : Nat) → D = (d : Nat) → Trd w A N X → v.at_ i = some u → u.dep ≤ d → d ≤ 300 →
    Calls Tryz.prog 15 #[.agg #[.slice A N c, .int .i64 0], .int .i64 I, .int .i64 D] w fun e w' => e = .returned (.int .i64 (u.size : Nat)) ∧ Below w.heap.size w w'
  | 0, i, u, w, I, D, hI, hD, hX, hu, hd, _ => absurd hd (by have := u.dep_pos; omega)
  | d + 1, i, u, w, I, D, hI, hD, hX, hu, hd, hd3 => by
    obtain ⟨W, hW⟩ : ∃ W, W = w.alloc (trA (.slice A N c) 0) := ⟨_, rfl⟩
    have hb : Below w.heap.size w W := by rw [hW]; exact (Below.refl _ _).alloc (Nat.le_refl _) _
    have xl : W.heap[w.heap.size]? = some (trA (.slice A N c) 0) := by rw [hW]; exact heap_alloc_new _ _
    have t0 : W.cell? ⟨w.heap.size, 0, none⟩ = some (.slice A N c) := by rw [cell_of_row W _ _ _ _ _ xl]; rfl
    have t1 : W.cell? ⟨w.heap.size, 1, none⟩ = some (.int .i64 0) := by rw [cell_of_row W _ _ _ _ _ xl]; rfl
    have hlt : w.heap.size < W.heap.size := lt_cell t0
    have hNX : N = v.size := by rw [hX.n, ← List.length_map (f := Nx.nd), hv, JV.nds_len]
    have hun := (JV.at_nds v i 0 u hu).1
    have hup := u.size_pos
    have hiN : i < N := by omega
    obtain ⟨x, hx⟩ : ∃ x, X[i]? = some x := ⟨_, List.getElem?_eq_getElem (by rw [← hX.n]; exact hiN)⟩
    have hxn : (v.nds 0)[i]? = some x.nd := by rw [← hv, List.getElem?_map, hx]; rfl
    obtain ⟨is, hsz, hsub, hat, hdep⟩ := node_subs hu hxn
    obtain ⟨g, rfl, hg, hc⟩ := (hX.keep hb).at_ (by omega)
    have rx := (hX.keep hb).rd i x hx
    obtain ⟨A2, c2, e2, n2, m2, C2⟩ := rx.row (show 2 < 3 by omega)
    have hen : ecn x.nd 2 = is.vals.length := by show x.nd.subs.length = _; rw [hsub, subs_len]
    have k4 : W.cell? ⟨g, i * 7 + 4, none⟩ = some (.slice A2 (ecn x.nd 2) c2) := hc i x hx 4 _ (by rw [← e2]; rfl)
    rw [hen] at k4 n2 C2
    obtain ⟨m, hm⟩ : ∃ m, m = is.vals.length := ⟨_, rfl⟩
    rw [← hm] at k4 n2 C2
    have hul := upto_le is
    have hml : m ≤ 9223372036854775807 := by unfold maxLen at m2; omega
    have HAT := Lib.hid hat
    have HDEP := Lib.hid hdep
    have HSUB := Lib.hid hsub
    have HSZ := Lib.hid hsz
    have HM := Lib.hid hm
    have HC2 := Lib.hid C2
    have HB := Lib.hid hb
    have HX := Lib.hid hX
    have HI := Lib.hid hI
    have HD := Lib.hid hD
    have HUL := Lib.hid hul
    have HUN := Lib.hid (show u.size ≤ 300 by omega)
    have hD1 : 1 ≤ D ∧ D ≤ 300 := by omega
    have hI1 : 0 ≤ I ∧ I < N := by omega
    have k4' : ∀ j : Int, j = I → True := fun _ _ => trivial
    clear hat hdep hsub hsz hm C2 hb hX hul hun hup hx hxn hc rx e2 hen hu xl k4' hD hNX
    have hIt : I.toNat = i := by omega
    have hw4 := k4
    have HW0 := Lib.hid (Below.refl W.heap.size W)
    have HT := Lib.hid (And.intro (And.intro t0 t1) k4)
    subst hI
    go_enter Tryz.func15, Tryz.ntmps15
    go_upto_region 1 with fail
    rw [← hW]
    clear hW
    have hi0 : decide ((i : Int) < 0) = false := decide_eq_false (by omega)
    have hi2 : decide (N ≤ i) = false := decide_eq_false (by omega)
    have hd0 : (D == 0) = false := by simp; omega
    go_wp2_with fail
    clear hi0 hi2 hd0
    clear t0 t1 k4 hw4 hIt
    go_loopw [7, 8] (fun n k wr => ∃ j : Nat, j ≤ m ∧ k = .int .i64 j ∧ n = .int .i64 ((1 + is.upto j : Nat) : Int) ∧ Hid (Below W.heap.size W wr)) (fun _ k _ => m - (intOf k).toNat)
    case atStart => exact ⟨0, Nat.zero_le _, rfl, by simp [JI.upto], HW0⟩
    case round =>
      obtain ⟨j, hj, rfl, rfl, HW⟩ := hrel
      obtain ⟨q, hq⟩ : ∃ q : Nat, q = 1 + is.upto j := ⟨_, rfl⟩
      have hq4 : q ≤ 300 := by have h1 := HUL.out j; have h2 := HSZ.out; have h3 := HUN.out; omega
      rw [← hq]
      have HQ := Lib.hid hq
      clear hq
      have t0 := (HW.out.cell (p := ⟨w.heap.size, 0, none⟩) (by exact hlt)).trans HT.out.1.1
      have t1 := (HW.out.cell (p := ⟨w.heap.size, 1, none⟩) (by exact hlt)).trans HT.out.1.2
      have k4 := (HW.out.cell (p := ⟨g, i * 7 + 4, none⟩) (by exact hg)).trans HT.out.2
      by_cases hjm : j < m
      · obtain ⟨g2, rfl, hg2, hc2⟩ := HC2.out (by omega)
        obtain ⟨sj, hs⟩ : ∃ s, x.nd.subs[j]? = some s := ⟨_, List.getElem?_eq_getElem (by have h1 := HM.out; rw [HSUB.out, subs_len]; omega)⟩
        have k5 := (HW.out.cell (p := ⟨g2, j, none⟩) (by exact hg2)).trans (hc2 j _ (inC_at _ _ _ hs))
        rw [HSUB.out] at hs
        obtain ⟨wv, h1, h2, h3⟩ := subs_kth is (i + 1) j sj hs
        have hws := HDEP.out j wv h1
        have hwa := HAT.out _ _ h3
        rw [← h2] at hwa
        have hsj : sj < N := by
          have h4 := (JV.at_nds v sj 0 wv hwa).1
          have h5 := wv.size_pos
          have h6 : N = v.size := by rw [HX.out.n, ← List.length_map (f := Nx.nd), hv, JV.nds_len]
          omega
        have hbw := below_tr HB.out HW.out
        have hpos : 1 ≤ d := by have := wv.dep_pos; omega
        have CS := Lib.hid (fun (wx : World) (h : Below wr.heap.size wr wx) => size_any (A := some ⟨g, 0, none⟩) (c := c) hv hN d sj wv wx (sj : Int) (D - 1) rfl (by have := HD.out; omega) (HX.out.keep (below_tr hbw h)) hwa (by omega) (by omega))
        obtain ⟨z, hz⟩ : ∃ z : Nat, z = wv.size := ⟨_, rfl⟩
        have hus := upto_succ h1
        rw [← hz] at CS hus
        have hq5 : q + z ≤ 300 := by have h1 := HUL.out (j + 1); have h2 := HSZ.out; have h3 := HUN.out; have h4 := HQ.out; omega
        have FIN := Lib.hid (show ((q : Int) + z) = ((1 + is.upto (j + 1) : Nat) : Int) by have := HQ.out; omega)
        have K0 := fun s : Kept wr => s.cell t0
        have K1 := fun s : Kept wr => s.cell t1
        have K4 := fun s : Kept wr => s.cell k4
        have K5 := fun s : Kept wr => s.cell k5
        clear h1 h2 h3 hs hws hwa hc2 hg2 hz hus hbw
        go_upto_region 7 with fail
        refine reg_lit (C := fun wx => ∃ s : Kept wr, wx = s.wx) (by kernel_rfl) (by kernel_rfl) ⟨⟨_, (Below.refl _ _).drew⟩, rfl⟩ ?_
        iterate 13 (go_big_quiet_step (fail))
        go_big_quiet_want
        go_big_quiet_op
        refine ⟨.int .i64 (z : Nat), fun s => (CS.out s.wx s.held).mono ?_, ?_⟩
        · rintro e w3 ⟨rfl, hb⟩; exact Kept.out hb
        go_big_quiet_on
        iterate 2 (go_big_quiet_step (fail))
        refine wpQuiet_nil ?_
        rintro w2 ⟨⟨wx, ox0⟩, e⟩
        have ox : Below wr.heap.size wr w2 := by rw [e]; exact ox0
        clear e ox0
        go_wp2_with fail
        refine ⟨⟨j + 1, by omega, by go_num, by rw [FIN.out], Lib.hid (below_tr HW.out ox)⟩, ?_⟩
        simp [intOf] <;> omega
      · obtain rfl : m = j := by omega
        obtain rfl : q = u.size := by have h1 := HQ.out; have h2 := HSZ.out; have h3 := JI.size_all is; rw [← HM.out] at h3; omega
        go_wp2_with fail
        go_ret
        exact ⟨rfl, below_tr HB.out HW.out⟩
end Jt
end Go.Proofs.YtnjmcldhmnpbjaaGreatDoor
