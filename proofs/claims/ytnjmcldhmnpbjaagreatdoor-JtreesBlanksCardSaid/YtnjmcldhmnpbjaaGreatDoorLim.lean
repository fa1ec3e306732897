/- The law of blanks, walked. -/
import Derived.Test.YtnjmcldhmnpbjaaGreatDoorLhm
import Derived.Test.YtnjmcldhmnpbjaaGreatDoorKum
import Derived.Test.YtnjmcldhmnpbjaaGreatDoorKzm
import Derived.Test.YtnjmcldhmnpbjaaGreatDoorAz
import Derived.Test.YtnjmcldhmnpbjaaGreatDoorAy
import Derived.Deep.CutRange
import Derived.Deep.CutBlock
import Derived.StillTailTactics
namespace Go.Proofs.YtnjmcldhmnpbjaaGreatDoor
open Go.RowKit
namespace Jt
open Jk (lt_blk below_tr fvO ArgB tks TkR lread_is forms_ok ftV)

def D4 : ByteArray := ⟨#[32, 9, 10, 13]⟩
theorem D4_size : D4.size = 4 := by decide +kernel
theorem idx4 (r : Nat) (hr : r < 4) (W : World) : (Instr.index 9 (.string D4) (.int .u8 r)).run Tryz.prog W = .ok (.int .u8 ((blk r).toNat : Int)) W := by
  rw [run_index_string W 9 D4 .u8 _ Tryz.underlying9, dif_pos ⟨by omega, by rw [D4_size]; omega⟩]
  have h1 : D4[r]'(by rw [D4_size]; omega) = D4.data.toList.getD r 0 := by
    have h' : r < D4.data.toList.length := by rw [Array.length_toList]; show r < D4.size; rw [D4_size]; omega
    rw [List.getD_eq_getElem?_getD, List.getElem?_eq_getElem h']
    simp only [Option.getD_some, Array.getElem_toList]
    rfl
  show Result.ok _ W = _
  simp only [Int.toNat_natCast]
  rw [h1]; rfl
theorem preL_len2 (l : Bs) : ∀ (Ss : List Bs) (T : List Tok) (p : Nat), (tks l p).1 = T → (tks l p).2 = none → (∀ s ∈ Ss, s.length ≤ 3) → (preL l Ss T).length ≤ 4 * Ss.length + (l.length - p)
  | [], T, p, _, _, _ => by simp [preL]
  | s :: ss, [], p, _, _, hs => by
    have := hs s List.mem_cons_self
    rw [preL, List.length_cons]; omega
  | s :: ss, t :: r, p, h, h2, hs => by
    obtain ⟨k, n, hk, rfl, h3, h4⟩ := tks_inv h h2
    have h1 := hs s List.mem_cons_self
    have h5 := preL_len2 l ss r (p + n) h3 h4 fun x hx => hs x (List.mem_cons_of_mem _ hx)
    have h6 := Jk.tk_len hk
    rw [List.length_drop] at h6
    obtain ⟨_, e2⟩ := cut_at (l := l) (p := p) (n := n) (by rw [List.length_drop]; omega)
    have h7 : (if k ≠ 0 then part l (p, p + n) else []).length ≤ n := by
      split
      · omega
      · exact Nat.zero_le _
    have h8 : (sepB r).length ≤ 1 := by unfold sepB; split <;> (try split) <;> simp
    rw [preL, List.length_append, List.length_append, List.length_append, List.length_cons]
    show s.length + ((if k ≠ 0 then part l (p, p + n) else []).length + _) ≤ _
    omega
theorem preL_made {l : Bs} {Ss : List Bs} (h : Ss.length = (tks l 0).1.length + 1) (hs : ∀ s ∈ Ss, AllB s ∧ s.length ≤ 3) : ∃ S : Nat → Bs, (∀ i, AllB (S i)) ∧ preL l Ss (tks l 0).1 = bld l S 0 (tks l 0).1 := by
  refine ⟨fun i => Ss.getD i [], fun i => ?_, preL_bld l Ss _ 0 _ h fun j s hj => ?_⟩
  · show AllB (Ss.getD i [])
    rw [List.getD_eq_getElem?_getD]
    cases hx : Ss[i]? with
    | none => exact fun c hc => (by cases hc)
    | some s => exact (hs s (List.mem_of_getElem? hx)).1
  · show Ss.getD (0 + j) [] = s
    rw [Nat.zero_add, List.getD_eq_getElem?_getD, hj]; rfl
/-- A token's bytes, unless it is a space, or is not there. -/
def ptOf (l : Bs) (T : List Tok) (i : Nat) : Bs := match T[i]? with | some t => if t.1 ≠ 0 then part l t.2 else [] | none => []
/-- A blank, if the token is a space. -/
def sbOf (T : List Tok) (i : Nat) : Bs := match T[i]? with | some t => if t.1 = 0 then [32] else [] | none => []
theorem chk1_at (l : Bs) : ∀ (T : List Tok) (i : Nat), chk1 l (T.drop i) = ptOf l T i ++ sbOf T (i + 1)
  | [], i => by simp [chk1, ptOf, sbOf]
  | t :: r, 0 => by
    rw [List.drop_zero]
    show _ ++ sepB r = _ ++ sbOf (t :: r) 1
    cases r <;> rfl
  | t :: r, i + 1 => by
    rw [List.drop_succ_cons, chk1_at l r i]; simp [ptOf, sbOf]
theorem ptOf_some {l : Bs} {T : List Tok} {i : Nat} {t : Tok} (h : T[i]? = some t) : ptOf l T i = if t.1 ≠ 0 then part l t.2 else [] := by unfold ptOf; rw [h]
theorem sbOf_some {T : List Tok} {i : Nat} {t : Tok} (h : T[i]? = some t) : sbOf T i = if t.1 = 0 then [32] else [] := by unfold sbOf; rw [h]
theorem ptOf_none {l : Bs} {T : List Tok} {i : Nat} (h : T.length ≤ i) : ptOf l T i = [] := by unfold ptOf; rw [List.getElem?_eq_none h]
theorem sbOf_none {T : List Tok} {i : Nat} (h : T.length ≤ i) : sbOf T i = [] := by unfold sbOf; rw [List.getElem?_eq_none h]
theorem ptOf_le {l : Bs} {T : List Tok} {i : Nat} : (ptOf l T i).length ≤ l.length := by
  unfold ptOf
  split
  · split
    · show ((l.take _).drop _).length ≤ _
      rw [List.length_drop, List.length_take]; omega
    · exact Nat.zero_le _
  · exact Nat.zero_le _
/-- The node, with another one's places. -/
def Nx.like (x y : Nx) : Nx := ⟨{ x.nd with span := y.nd.span, spots := y.nd.spots }, upV x.v 1 (y.v 1)⟩
theorem like_nd {x y : Nx} (h : nb x.nd = nb y.nd) : (Nx.like x y).nd = y.nd := by
  obtain ⟨⟨k, t, ks, sp, su, s⟩, v⟩ := x
  obtain ⟨⟨k', t', ks', sp', su', s'⟩, v'⟩ := y
  unfold nb at h
  injection h with h1 h
  injection h with h2 h
  injection h with h3 h4
  simp only at h1 h2 h3 h4
  subst h1; subst h2; subst h3; subst h4; rfl
theorem like_rd {w : World} {x y : Nx} (hx : Rd w x) (hy : Rd w y) : Rd w (Nx.like x y) := fun j hj => by
  rcases (show j = 0 ∨ j = 1 ∨ j = 2 by omega) with rfl | rfl | rfl
  · exact hx 0 (by omega)
  · exact hy 1 (by omega)
  · exact hx 2 (by omega)
theorem below_dn2 {B : Nat} {a w : World} (h : Below B a w) (k : Nat) : Below B a (w.drewN k) := ⟨h.os, h.tape, h.output, h.size, h.block⟩
set_option maxHeartbeats 8000000 in
set_option maxRecDepth 100000 in
theorem blanks_long {A A2 : Option Addr} {n c n2 c2 : Nat} {w : World} (hT : Tabs0 w) (h : 2000 < n) (hc : n ≤ 9223372036854775807) :
    Calls Tryz.prog 5 #[.slice A n c, .slice A2 n2 c2] w fun e w' => e = .returned (.bool true) ∧ Below w.heap.size w w' := by
  have h' : (2000 : Int) < n := by omega
  have HT := Lib.hid hT
  clear hT
  go_enter Tryz.func5, Tryz.ntmps5
  go_wp2_with (go_at_call 7; refine (lives_any HT.out).mono ?_; rintro e w' ⟨rfl, hb⟩)
  go_ret
  exact ⟨rfl, hb⟩
set_option maxHeartbeats 32000000 in
set_option maxRecDepth 100000 in
theorem blanks_ok {l bl : Bs} {A A2 : Option Addr} {n c n2 c2 : Nat} {w : World} (ha : ArgB w A n c l) (hb : ArgB w A2 n2 c2 bl) (hT : Tabs0 w) (h : n ≤ 2000) (hok : (tks l 0).2 = none) :
    Calls Tryz.prog 5 #[.slice A n c, .slice A2 n2 c2] w fun e w' => e = .returned (.bool true) ∧ Below w.heap.size w w' := by
  obtain ⟨i0, hi0, hz0, hz1, hz2⟩ := info_parts (show (Tryz.prog.info? 5).map (fun i => (i.zero, i.size, i.bytes)) = some (some (.int .u8 0), 1, 1) by kernel_rfl)
  obtain ⟨hn, hnc, hcm, hA, hnil⟩ := ha
  obtain ⟨hn2, hnc2, hcm2, hA2, hnil2⟩ := hb
  have h' : ¬ (2000 : Int) < n := by omega
  have HL := Lib.hid (fun (wx : World) (hb : Below w.heap.size w wx) => lives_any (hT.below hb))
  have C1 := Lib.hid (lread_is (A := A) n c w forms_ok hn hnc hcm hA (Nat.le_refl _) (by omega))
  have HPA := Lib.hid (fun (wx : World) (hb : Below w.heap.size w wx) => parse_any (A := A) (C := c) (w := wx) hn hnc (hA.below hb) hb.size hcm (by omega) (hT.below hb))
  have HPC := Lib.hid (fun (wx : World) (hb : Below w.heap.size w wx) => hT.below hb)
  have HTN : (tks l 0).1.length ≤ n := by rw [hn]; have := few_tks (l := l) _ 0 (Nat.le_refl _); omega
  have HA := Lib.hid (And.intro hA hA2)
  have Hn := Lib.hid (And.intro hn hn2)
  have HOK := Lib.hid hok
  unfold maxLen at hcm2
  have hn26 : n2 ≤ 9223372036854775807 := by omega
  clear hn hn2 hA hA2 hnil hnil2 hT hok hcm hcm2
  go_enter Tryz.func5, Tryz.ntmps5
  go_wp2_with fail
  refine C1.out.mono ?_
  rintro e w1 ⟨A1, N1, c1, he, hNc1, hcm1, hk1, hb1⟩
  rw [HOK.out] at he
  have he2 : e = .returned (.tuple #[.slice A1 N1 c1, .agg #[.int .i64 0, .int .i64 0]]) := he
  clear he
  subst he2
  have hN1 : N1 ≤ 2000 := by rw [hk1.1]; omega
  have HB1 := Lib.hid hb1
  have HK1 := Lib.hid hk1
  clear C1 hb1 hk1 hcm1
  go_upto_region 4 with fail
  obtain ⟨V, hV⟩ : ∃ V, V = w1.alloc (fvO 0 0) := ⟨_, rfl⟩
  have hbV : Below w1.heap.size w1 V := by rw [hV]; exact (Below.refl _ _).alloc (Nat.le_refl _) _
  have z0 : V.cell? ⟨w1.heap.size, 0, none⟩ = some (.int .i64 0) := by rw [hV, World.cell?_alloc_at _ _ _ _ rfl]; rfl
  have z1 : V.cell? ⟨w1.heap.size, 1, none⟩ = some (.int .i64 0) := by rw [hV, World.cell?_alloc_at _ _ _ _ rfl]; rfl
  rw [← hV]
  have HKV := Lib.hid (HK1.out.below hbV (Nat.le_refl _))
  have HBV := Lib.hid (below_tr HB1.out hbV)
  clear hV hbV
  go_wp2_with fail
  clear z0 z1
  go_loopw [7, 8, 9] (fun v a s wr => ∃ (i : Nat) (Ss : List Bs) (q : Nat), i ≤ N1 + 1 ∧ s = .int .i64 i ∧ a = .int .i64 q ∧ q ≤ 4 * i ∧ Hid (Ss.length = i ∧ ∀ s ∈ Ss, AllB s ∧ s.length ≤ 3) ∧ Hid (RB V wr (preL l Ss (tks l 0).1) v)) (fun _ _ s _ => N1 + 1 - (intOf s).toNat)
  case atStart => exact ⟨0, [], 0, Nat.zero_le _, rfl, rfl, by omega, Lib.hid ⟨rfl, fun s h => by cases h⟩, Lib.hid RB.start⟩
  case round =>
    obtain ⟨i, Ss, q, hi, rfl, rfl, hq, HSS, HR⟩ := hrel
    by_cases hlt : i ≤ N1
    case neg =>
      obtain rfl : i = N1 + 1 := by omega
      obtain ⟨cc, hcc⟩ : ∃ c, c = preL l Ss (tks l 0).1 := ⟨_, rfl⟩
      have hTl : (tks l 0).1.length = N1 := HK1.out.1.symm
      obtain ⟨S, hS1, hS2⟩ := preL_made (l := l) (Ss := Ss) (by rw [hTl]; exact HSS.out.1) HSS.out.2
      have hlike : LikeN (parseR l) (parseR cc) := by rw [hcc, hS2]; exact blanks_parse hS1 HOK.out
      have hcl : cc.length ≤ 100000 := by
        have h1 := preL_len2 l Ss (tks l 0).1 0 rfl HOK.out fun s hs => (HSS.out.2 s hs).2
        have h2 := HSS.out.1
        have h3 := Hn.out.1
        rw [hcc]; omega
      rw [← hcc] at HR
      clear hcc hS1 hS2 hTl
      obtain ⟨Ac, cap, rfl, hc1, hc2, _, hcB, hcN⟩ := own_form HR.out.1
      have HBC := Lib.hid hcB
      have HWR := Lib.hid (HBV.out.trans (HR.out.2.mono HBV.out.size))
      obtain ⟨cl, hcle⟩ : ∃ v, v = cc.length := ⟨_, rfl⟩
      rw [← hcle] at hcl hc1
      have HPC2 := Lib.hid (fun (wx : World) (hb : Below wr.heap.size wr wx) => parse_any (A := Ac) (N := cl) (C := cap) (l := cc) (B := wr.heap.size) (w := wx) hcle hc1 (hcB.below hb) hb.size hc2 (by omega) (HPC.out _ (below_tr HWR.out hb)))
      rw [← hcle]
      clear hcB hcle
      rcases hx : parseR l with nd | ⟨c1, a1⟩ <;> rcases hy : parseR cc with nd2 | ⟨c2, a2⟩ <;> rw [hx, hy] at hlike
      case ok.bad => exact hlike.elim
      case bad.ok => exact hlike.elim
      case bad.bad =>
        obtain rfl : c1 = c2 := hlike
        have HX := Lib.hid hx
        have HY := Lib.hid hy
        clear hx hy
        go_wp2_with fail
        refine (HPA.out wr HWR.out).mono ?_
        rintro e w3 ⟨hb3, hR3⟩
        rw [HX.out] at hR3
        simp only at hR3
        subst hR3
        have HB3 := Lib.hid hb3
        clear hb3
        go_upto_region 22 with fail
        have HF3 := Lib.hid (PB.start (w := w3) (sv := .slice none 0 0) (c := c1) (a := a1))
        obtain ⟨V4, hV4⟩ : ∃ V, V = (w3.alloc (trO (.slice none 0 0))).alloc (fvO c1 a1) := ⟨_, rfl⟩
        rw [← hV4] at HF3 ⊢
        clear hV4
        have HV4 := Lib.hid (below_tr HB3.out HF3.out.below)
        go_wp2_with fail
        refine (HPC2.out V4 HV4.out).mono ?_
        rintro e w5 ⟨hb5, hR5⟩
        rw [HY.out] at hR5
        simp only at hR5
        subst hR5
        have HB5 := Lib.hid hb5
        clear hb5
        go_upto_region 23 with fail
        have HF5 := Lib.hid (PB.start (w := w5) (sv := .slice none 0 0) (c := c1) (a := a2))
        obtain ⟨V6, hV6⟩ : ∃ V, V = (w5.alloc (trO (.slice none 0 0))).alloc (fvO c1 a2) := ⟨_, rfl⟩
        rw [← hV6] at HF5 ⊢
        clear hV6
        have hb6 := below_tr HB5.out HF5.out.below
        have HV6 := Lib.hid (below_tr HV4.out hb6)
        obtain ⟨a0, a1', a2', a3'⟩ := (HF3.out.on hb6).cells
        obtain ⟨d0, d1, d2, d3⟩ := HF5.out.cells
        clear hb6
        have HWZ := Lib.hid (below_tr HWR.out HV6.out)
        go_wp2_with fail
        clear a0 a1' a2' a3' d0 d1 d2 d3
        obtain ⟨wo, hwo⟩ : ∃ wo, wo = wr := ⟨_, rfl⟩
        subst hwo
        go_loopw [15] (fun s wr => s = .int .i64 (0 : Nat) ∧ Hid (Below V6.heap.size V6 wr)) (fun _ _ => 0)
        case atStart => exact ⟨rfl, Lib.hid (Below.refl _ _)⟩
        case round =>
          obtain ⟨rfl, HZ⟩ := hrel
          obtain ⟨a0, a1', a2', a3'⟩ := (HF3.out.on (below_tr (below_tr HB5.out HF5.out.below) HZ.out)).cells
          have HWY := Lib.hid (below_tr HWZ.out HZ.out)
          go_wp2_with (go_at_call 7; refine (HL.out _ HWY.out).mono ?_; rintro e w' ⟨rfl, hb⟩)
          go_ret
          exact ⟨rfl, below_tr HWY.out hb⟩
      case ok.ok =>
        have HX := Lib.hid hx
        have HY := Lib.hid hy
        clear hx hy
        go_wp2_with fail
        refine (HPA.out wr HWR.out).mono ?_
        rintro e w3 ⟨hb3, hR3⟩
        rw [HX.out] at hR3
        obtain ⟨A3, N3, lab3, X, rfl, hX3, hx3⟩ := hR3
        have HX3 := Lib.hid hX3.trd
        have HB3 := Lib.hid hb3
        clear hb3 hX3
        go_upto_region 22 with fail
        have HF3 := Lib.hid (PB.start (w := w3) (sv := .slice A3 N3 N3) (c := 0) (a := 0))
        obtain ⟨V4, hV4⟩ : ∃ V, V = (w3.alloc (trO (.slice A3 N3 N3))).alloc (fvO 0 0) := ⟨_, rfl⟩
        rw [← hV4] at HF3 ⊢
        clear hV4
        have HV4 := Lib.hid (below_tr HB3.out HF3.out.below)
        go_wp2_with fail
        refine (HPC2.out V4 HV4.out).mono ?_
        rintro e w5 ⟨hb5, hR5⟩
        rw [HY.out] at hR5
        obtain ⟨A5, N5, lab5, Y, rfl, hY5, hy5⟩ := hR5
        have HY5 := Lib.hid hY5.trd
        have HB5 := Lib.hid hb5
        clear hb5 hY5
        have hxy : X.map (fun x => nb x.nd) = Y.map (fun y => nb y.nd) := by
          have h1 : nd.map nb = nd2.map nb := hlike
          rw [← hx3, ← hy5, List.map_map, List.map_map] at h1
          exact h1
        have hN : N5 = N3 := by
          have := congrArg List.length hxy
          rw [List.length_map, List.length_map] at this
          rw [HY5.out.n, HX3.out.n, this]
        subst hN
        have HXY := Lib.hid hxy
        have hN63 := HX3.out.hi
        clear hxy hx3 hy5
        go_upto_region 23 with fail
        have HF5 := Lib.hid (PB.start (w := w5) (sv := .slice A5 N5 N5) (c := 0) (a := 0))
        obtain ⟨V6, hV6⟩ : ∃ V, V = (w5.alloc (trO (.slice A5 N5 N5))).alloc (fvO 0 0) := ⟨_, rfl⟩
        rw [← hV6] at HF5 ⊢
        clear hV6
        have HV46 := Lib.hid (below_tr HB5.out HF5.out.below)
        have HV6 := Lib.hid (below_tr HV4.out HV46.out)
        obtain ⟨a0, a1', a2', a3'⟩ := (HF3.out.on HV46.out).cells
        obtain ⟨d0, d1, d2, d3⟩ := HF5.out.cells
        go_wp2_with fail
        clear a0 a1' a2' a3' d0 d1 d2 d3
        obtain ⟨wo, hwo⟩ : ∃ wo, wo = wr := ⟨_, rfl⟩
        subst hwo
        go_loopw [15] (fun s wr => ∃ i : Nat, i ≤ N5 ∧ s = .int .i64 i ∧ Hid (Below V6.heap.size V6 wr)) (fun s _ => N5 - (intOf s).toNat)
        case atStart => exact ⟨0, Nat.zero_le _, rfl, Lib.hid (Below.refl _ _)⟩
        case round =>
          obtain ⟨i, hi, rfl, HZ⟩ := hrel
          have HV4Z := Lib.hid (below_tr HV46.out HZ.out)
          obtain ⟨a0, a1', a2', a3'⟩ := (HF3.out.on HV4Z.out).cells
          obtain ⟨d0, d1, d2, d3⟩ := (HF5.out.on HZ.out).cells
          have HWZ := Lib.hid (below_tr HWR.out (below_tr HV6.out HZ.out))
          by_cases hlt : i < N5
          case neg =>
            obtain rfl : i = N5 := by omega
            go_wp2_with (go_at_call 7; refine (HL.out _ HWZ.out).mono ?_; rintro e w' ⟨rfl, hb⟩)
            go_ret
            exact ⟨rfl, below_tr HWZ.out hb⟩
          obtain ⟨x, hx⟩ : ∃ x, X[i]? = some x := ⟨_, List.getElem?_eq_getElem (by have := HX3.out.n; omega)⟩
          obtain ⟨y, hy⟩ : ∃ y, Y[i]? = some y := ⟨_, List.getElem?_eq_getElem (by have := HY5.out.n; omega)⟩
          have hnb : nb x.nd = nb y.nd := by
            have h9 := congrArg (fun L => L[i]?) HXY.out
            simp only [List.getElem?_map, hx, hy, Option.map_some] at h9
            exact Option.some.inj h9
          have hXW := HX3.out.keep (below_tr HF3.out.below HV4Z.out)
          have hYW := HY5.out.keep (below_tr HF5.out.below HZ.out)
          have rx := hXW.rd i x hx
          have ry := hYW.rd i y hy
          obtain ⟨A0, A1, A2, l0, l1, l2, c0, c1, c2, hlx⟩ := rx.lit
          obtain ⟨B0, B1, B2, k0, k1, k2, e0, e1, e2, hly⟩ := ry.lit
          obtain ⟨g, rfl, hg, hcx⟩ := hXW.at_ (by omega)
          obtain ⟨g2, rfl, hg2, hcy⟩ := hYW.at_ (by omega)
          have hcx := hcx i x hx
          have hcy := hcy i y hy
          obtain ⟨hv0, hv1, hv2⟩ : x.v 0 = .slice A0 l0 c0 ∧ x.v 1 = .slice A1 l1 c1 ∧ x.v 2 = .slice A2 l2 c2 := by
            have h9 := hlx
            simp only [ndC, List.cons.injEq] at h9
            exact ⟨h9.2.2.1, h9.2.2.2.1, h9.2.2.2.2.1⟩
          obtain ⟨gv0, gv1, gv2⟩ : y.v 0 = .slice B0 k0 e0 ∧ y.v 1 = .slice B1 k1 e1 ∧ y.v 2 = .slice B2 k2 e2 := by
            have h9 := hly
            simp only [ndC, List.cons.injEq] at h9
            exact ⟨h9.2.2.1, h9.2.2.2.1, h9.2.2.2.2.1⟩
          rw [hlx] at hcx
          rw [hly] at hcy
          obtain ⟨kx, hkx⟩ : ∃ v : Int, v = (x.nd.kind : Nat) := ⟨_, rfl⟩
          obtain ⟨tx, htx⟩ : ∃ v, v = txt x.nd.text := ⟨_, rfl⟩
          obtain ⟨ax, hax⟩ : ∃ v : Int, v = (x.nd.span.1 : Nat) := ⟨_, rfl⟩
          obtain ⟨bx, hbx⟩ : ∃ v : Int, v = (x.nd.span.2 : Nat) := ⟨_, rfl⟩
          obtain ⟨ky, hky⟩ : ∃ v : Int, v = (y.nd.kind : Nat) := ⟨_, rfl⟩
          obtain ⟨ty, hty⟩ : ∃ v, v = txt y.nd.text := ⟨_, rfl⟩
          obtain ⟨ay, hay⟩ : ∃ v : Int, v = (y.nd.span.1 : Nat) := ⟨_, rfl⟩
          obtain ⟨by_, hby⟩ : ∃ v : Int, v = (y.nd.span.2 : Nat) := ⟨_, rfl⟩
          rw [← hkx, ← htx, ← hax, ← hbx] at hcx
          rw [← hky, ← hty, ← hay, ← hby] at hcy
          have hvx : ndV (Nx.like x y) = .agg #[.int .u8 kx, .string tx, .slice A0 l0 c0, .slice B1 k1 e1, .slice A2 l2 c2, .int .i64 ay, .int .i64 by_] := by
            show Value.agg #[.int .u8 (x.nd.kind : Nat), .string (txt x.nd.text), x.v 0, y.v 1, x.v 2, .int .i64 (y.nd.span.1 : Nat), .int .i64 (y.nd.span.2 : Nat)] = _
            rw [hv0, gv1, hv2, hkx, htx, hay, hby]
          have hvy : ndV y = .agg #[.int .u8 ky, .string ty, .slice B0 k0 e0, .slice B1 k1 e1, .slice B2 k2 e2, .int .i64 ay, .int .i64 by_] := by
            show Value.agg #[.int .u8 (y.nd.kind : Nat), .string (txt y.nd.text), y.v 0, y.v 1, y.v 2, .int .i64 (y.nd.span.1 : Nat), .int .i64 (y.nd.span.2 : Nat)] = _
            rw [gv0, gv1, gv2, hky, hty, hay, hby]
          have HCS := Lib.hid (fun (wx : World) (hb : Below wr.heap.size wr wx) => show Calls Tryz.prog 17 #[.agg #[.int .u8 kx, .string tx, .slice A0 l0 c0, .slice B1 k1 e1, .slice A2 l2 c2, .int .i64 ay, .int .i64 by_], .agg #[.int .u8 ky, .string ty, .slice B0 k0 e0, .slice B1 k1 e1, .slice B2 k2 e2, .int .i64 ay, .int .i64 by_]] wx fun e w' => e = .returned (.bool true) ∧ Below wx.heap.size wx w' from by
            refine (sameNode_is (x := Nx.like x y) (y := y) hvx hvy ((like_rd rx ry).keep hb) (ry.keep hb)).mono ?_
            rintro e w9 ⟨rfl, h9⟩
            exact ⟨by rw [decide_eq_true (like_nd hnb)], h9⟩)
          have p0 := hcx 0 _ rfl
          have p1 := hcx 1 _ rfl
          have p2 := hcx 2 _ rfl
          have p3 := hcx 3 _ rfl
          have p4 := hcx 4 _ rfl
          have p5 := hcx 5 _ rfl
          have p6 := hcx 6 _ rfl
          rw [Nat.add_zero] at p0
          have s0 := hcy 0 _ rfl
          have s1 := hcy 1 _ rfl
          have s2 := hcy 2 _ rfl
          have s3 := hcy 3 _ rfl
          have s4 := hcy 4 _ rfl
          have s5 := hcy 5 _ rfl
          have s6 := hcy 6 _ rfl
          rw [Nat.add_zero] at s0
          clear hvx hvy hv0 hv1 hv2 gv0 gv1 gv2 hlx hly hcx hcy rx ry hkx htx hax hbx hky hty hay hby hnb hXW hYW hx hy hlike a1' a2' a3' d1 d2 d3
          go_upto_region 29 with fail
          obtain ⟨W6, hW6⟩ : ∃ V, V = wr.alloc (.cells #[.int .u8 kx, .string tx, .slice A0 l0 c0, .slice A1 l1 c1, .slice A2 l2 c2, .int .i64 ax, .int .i64 bx] 44) := ⟨_, rfl⟩
          have n0 : W6.heap[wr.heap.size]? = some (.cells #[.int .u8 kx, .string tx, .slice A0 l0 c0, .slice A1 l1 c1, .slice A2 l2 c2, .int .i64 ax, .int .i64 bx] 44) := by rw [hW6]; exact heap_alloc_new _ _
          have hb6 : Below wr.heap.size wr W6 := by rw [hW6]; exact (Below.refl _ _).alloc (Nat.le_refl _) _
          have HS6 := Lib.hid (show W6.heap.size = wr.heap.size + 1 by rw [hW6, alloc_size])
          rw [← hW6]
          have d0 := (hb6.cell (p := ⟨w5.heap.size, 0, none⟩) (lt_cell d0)).trans d0
          have s0 := (hb6.cell (p := ⟨g2, i * 7, none⟩) (lt_cell s0)).trans s0
          have s1 := (hb6.cell (p := ⟨g2, i * 7 + 1, none⟩) (lt_cell s1)).trans s1
          have s2 := (hb6.cell (p := ⟨g2, i * 7 + 2, none⟩) (lt_cell s2)).trans s2
          have s3 := (hb6.cell (p := ⟨g2, i * 7 + 3, none⟩) (lt_cell s3)).trans s3
          have s4 := (hb6.cell (p := ⟨g2, i * 7 + 4, none⟩) (lt_cell s4)).trans s4
          have s5 := (hb6.cell (p := ⟨g2, i * 7 + 5, none⟩) (lt_cell s5)).trans s5
          have s6 := (hb6.cell (p := ⟨g2, i * 7 + 6, none⟩) (lt_cell s6)).trans s6
          clear hW6 p0 p1 p2 p3 p4 p5 p6 a0
          go_upto_region 30 with fail
          obtain ⟨W7, hW7⟩ : ∃ V, V = W6.alloc (.cells #[.int .u8 ky, .string ty, .slice B0 k0 e0, .slice B1 k1 e1, .slice B2 k2 e2, .int .i64 ay, .int .i64 by_] 44) := ⟨_, rfl⟩
          have n1 : W7.heap[wr.heap.size]? = some (.cells #[.int .u8 kx, .string tx, .slice A0 l0 c0, .slice A1 l1 c1, .slice A2 l2 c2, .int .i64 ax, .int .i64 bx] 44) := by
            rw [hW7, Below.heap_alloc W6 _ _ (by have := HS6.out; omega)]; exact n0
          have n2' : W7.heap[W6.heap.size]? = some (.cells #[.int .u8 ky, .string ty, .slice B0 k0 e0, .slice B1 k1 e1, .slice B2 k2 e2, .int .i64 ay, .int .i64 by_] 44) := by rw [hW7]; exact heap_alloc_new _ _
          have hb7 : Below wr.heap.size wr W7 := by rw [hW7]; exact hb6.alloc (by have := HS6.out; omega) _
          rw [← hW7]
          clear hW7 s0 s1 s2 s3 s4 s5 s6 d0 n0 hb6
          have z5 : W7.frozen? ⟨wr.heap.size, 5, none⟩ = false := by simp [World.frozen?, n1]
          have z6 : W7.frozen? ⟨wr.heap.size, 6, none⟩ = false := by simp [World.frozen?, n1]
          have q5 : W7.cell? ⟨W6.heap.size, 5, none⟩ = some (.int .i64 ay) := by rw [cell_of_row W7 _ _ _ _ _ n2']; rfl
          have q6 : W7.cell? ⟨W6.heap.size, 6, none⟩ = some (.int .i64 by_) := by rw [cell_of_row W7 _ _ _ _ _ n2']; rfl
          have o5 : W7.cell? ⟨wr.heap.size, 5, none⟩ = some (.int .i64 ax) := by rw [cell_of_row W7 _ _ _ _ _ n1]; rfl
          have o6 : W7.cell? ⟨wr.heap.size, 6, none⟩ = some (.int .i64 bx) := by rw [cell_of_row W7 _ _ _ _ _ n1]; rfl
          go_upto_region 31 with fail
          obtain ⟨W8, hW8⟩ : ∃ V, V = (W7.setCell ⟨wr.heap.size, 5, none⟩ (.int .i64 ay)).setCell ⟨wr.heap.size, 6, none⟩ (.int .i64 by_) := ⟨_, rfl⟩
          have n3 : W8.heap[wr.heap.size]? = some (.cells #[.int .u8 kx, .string tx, .slice A0 l0 c0, .slice A1 l1 c1, .slice A2 l2 c2, .int .i64 ay, .int .i64 by_] 44) := by
            rw [hW8]; exact heap_setCell_same _ _ _ _ _ _ (heap_setCell_same _ _ _ _ _ _ n1)
          have n4 : W8.heap[W6.heap.size]? = some (.cells #[.int .u8 ky, .string ty, .slice B0 k0 e0, .slice B1 k1 e1, .slice B2 k2 e2, .int .i64 ay, .int .i64 by_] 44) := by
            rw [hW8, heap_setCell_other _ _ _ _ (by show W6.heap.size ≠ wr.heap.size; have := HS6.out; omega), heap_setCell_other _ _ _ _ (by show W6.heap.size ≠ wr.heap.size; have := HS6.out; omega)]; exact n2'
          have hb8 : Below wr.heap.size wr W8 := by rw [hW8]; exact (hb7.setCell (Nat.le_refl _) _).setCell (Nat.le_refl _) _
          rw [← hW8]
          clear hW8 z5 z6 q5 q6 o5 o6 n1 n2' hb7
          have z3 : W8.frozen? ⟨wr.heap.size, 3, none⟩ = false := by simp [World.frozen?, n3]
          have q3 : W8.cell? ⟨W6.heap.size, 3, none⟩ = some (.slice B1 k1 e1) := by rw [cell_of_row W8 _ _ _ _ _ n4]; rfl
          have o3 : W8.cell? ⟨wr.heap.size, 3, none⟩ = some (.slice A1 l1 c1) := by rw [cell_of_row W8 _ _ _ _ _ n3]; rfl
          go_upto_region 32 with fail
          obtain ⟨W9, hW9⟩ : ∃ V, V = W8.setCell ⟨wr.heap.size, 3, none⟩ (.slice B1 k1 e1) := ⟨_, rfl⟩
          have n5 : W9.heap[wr.heap.size]? = some (.cells #[.int .u8 kx, .string tx, .slice A0 l0 c0, .slice B1 k1 e1, .slice A2 l2 c2, .int .i64 ay, .int .i64 by_] 44) := by
            rw [hW9]; exact heap_setCell_same _ _ _ _ _ _ n3
          have n6 : W9.heap[W6.heap.size]? = some (.cells #[.int .u8 ky, .string ty, .slice B0 k0 e0, .slice B1 k1 e1, .slice B2 k2 e2, .int .i64 ay, .int .i64 by_] 44) := by
            rw [hW9, heap_setCell_other _ _ _ _ (by show W6.heap.size ≠ wr.heap.size; have := HS6.out; omega)]; exact n4
          have hb9 : Below wr.heap.size wr W9 := by rw [hW9]; exact hb8.setCell (Nat.le_refl _) _
          rw [← hW9]
          clear hW9 z3 q3 o3 n3 n4 hb8
          have CS := Lib.hid (HCS.out W9 hb9)
          have HB9 := Lib.hid hb9
          have u0x : W9.cell? ⟨wr.heap.size, 0, none⟩ = some _ := (cell_of_row W9 _ _ _ _ _ n5).trans rfl
          have u0y : W9.cell? ⟨W6.heap.size, 0, none⟩ = some _ := (cell_of_row W9 _ _ _ _ _ n6).trans rfl
          have u1x : W9.cell? ⟨wr.heap.size, 1, none⟩ = some _ := (cell_of_row W9 _ _ _ _ _ n5).trans rfl
          have u1y : W9.cell? ⟨W6.heap.size, 1, none⟩ = some _ := (cell_of_row W9 _ _ _ _ _ n6).trans rfl
          have u2x : W9.cell? ⟨wr.heap.size, 2, none⟩ = some _ := (cell_of_row W9 _ _ _ _ _ n5).trans rfl
          have u2y : W9.cell? ⟨W6.heap.size, 2, none⟩ = some _ := (cell_of_row W9 _ _ _ _ _ n6).trans rfl
          have u3x : W9.cell? ⟨wr.heap.size, 3, none⟩ = some _ := (cell_of_row W9 _ _ _ _ _ n5).trans rfl
          have u3y : W9.cell? ⟨W6.heap.size, 3, none⟩ = some _ := (cell_of_row W9 _ _ _ _ _ n6).trans rfl
          have u4x : W9.cell? ⟨wr.heap.size, 4, none⟩ = some _ := (cell_of_row W9 _ _ _ _ _ n5).trans rfl
          have u4y : W9.cell? ⟨W6.heap.size, 4, none⟩ = some _ := (cell_of_row W9 _ _ _ _ _ n6).trans rfl
          have u5x : W9.cell? ⟨wr.heap.size, 5, none⟩ = some _ := (cell_of_row W9 _ _ _ _ _ n5).trans rfl
          have u5y : W9.cell? ⟨W6.heap.size, 5, none⟩ = some _ := (cell_of_row W9 _ _ _ _ _ n6).trans rfl
          have u6x : W9.cell? ⟨wr.heap.size, 6, none⟩ = some _ := (cell_of_row W9 _ _ _ _ _ n5).trans rfl
          have u6y : W9.cell? ⟨W6.heap.size, 6, none⟩ = some _ := (cell_of_row W9 _ _ _ _ _ n6).trans rfl
          clear n5 n6 hb9 HCS
          go_wp2_with (go_at_call 17; refine CS.out.mono ?_; rintro en w9 ⟨rfl, hb⟩)
          have HFI := Lib.hid (below_tr HZ.out (below_tr HB9.out hb))
          refine ⟨⟨i + 1, by omega, by go_num, HFI⟩, ?_⟩
          simp [intOf] <;> omega
    obtain ⟨p, hp⟩ : ∃ p, p = preL l Ss (tks l 0).1 := ⟨_, rfl⟩
    have hpl : p.length ≤ 10000000 := by
      have h1 := preL_len l Ss (tks l 0).1 fun s hs => (HSS.out.2 s hs).2
      have h2 := HSS.out.1
      have h3 : Ss.length * (4 + l.length) ≤ 2001 * (4 + 2000) := Nat.mul_le_mul (by omega) (by have := Hn.out.1; omega)
      rw [hp]; omega
    rw [← hp] at HR
    have HPP := Lib.hid hp
    clear hp
    have HRS := Lib.hid (show RB V wr (p ++ []) u7 by rw [List.append_nil]; exact HR.out)
    go_upto_block 2 with fail
    go_cut [7, 8, 10] from 31 to 110 (fun v a _m wx => ∃ (s : Bs) (q2 : Nat), a = .int .i64 q2 ∧ q2 ≤ q + 3 ∧ Hid (AllB s ∧ s.length ≤ 3) ∧ Hid (RB V wx (p ++ s) v))
    case first =>
      go_wp2_with fail
      go_loopw [7, 8, 10] (fun v a m wr => ∃ (k : Nat) (s : Bs) (q2 : Nat), k ≤ 3 ∧ m = .int .i64 k ∧ a = .int .i64 q2 ∧ q2 ≤ q + k ∧ Hid (AllB s ∧ s.length ≤ k) ∧ Hid (RB V wr (p ++ s) v)) (fun _ _ m _ => 3 - (intOf m).toNat)
      case atStart => exact ⟨0, [], q, Nat.zero_le _, rfl, rfl, by omega, Lib.hid ⟨fun c h => (by cases h), Nat.zero_le _⟩, HRS⟩
      case round =>
        obtain ⟨k, s, q2, hk, rfl, rfl, hq2, HS, HRI⟩ := hrel
        by_cases hk3 : k < 3
        case neg =>
          go_wp2_with fail
          go_meet
          exact ⟨s, q2, rfl, by omega, Lib.hid ⟨HS.out.1, by have := HS.out.2; omega⟩, HRI⟩
        by_cases hqn : q2 < n2
        case neg =>
          go_wp2_with fail
          go_meet
          exact ⟨s, q2, rfl, by omega, Lib.hid ⟨HS.out.1, by have := HS.out.2; omega⟩, HRI⟩
        obtain ⟨b2, off2, rfl, hb2, hc2⟩ := HA.out.2.at_ (by rw [← Hn.out.2]; exact hqn)
        have hwr : Below w.heap.size w wr := (HBV.out.trans (HRI.out.2.mono HBV.out.size))
        have hcell := (hwr.cell (p := ⟨b2, off2 + q2, none⟩) hb2).trans (hc2 q2 (by rw [← Hn.out.2]; exact hqn))
        obtain ⟨y, hy⟩ : ∃ y, y = bt bl q2 := ⟨_, rfl⟩
        rw [← hy] at hcell
        have hy0 : 0 ≤ y := by rw [hy]; exact Int.natCast_nonneg _
        obtain ⟨r, hr⟩ : ∃ r : Nat, y.tmod 5 = r := ⟨(y.tmod 5).toNat, by rw [Int.toNat_of_nonneg (Int.tmod_nonneg _ hy0)]⟩
        have hr5 : r < 5 := by have := Int.tmod_lt_of_pos y (show (0 : Int) < 5 by omega); omega
        clear hy hc2 hwr hy0
        by_cases hr4 : r < 4
        case neg =>
          obtain rfl : r = 4 := by omega
          go_wp2_with fail
          go_meet
          exact ⟨s, q2, rfl, by omega, Lib.hid ⟨HS.out.1, by have := HS.out.2; omega⟩, HRI⟩
        have hix := idx4 r hr4
        unfold D4 at hix
        obtain ⟨y2, hy2⟩ : ∃ y2 : Int, y2 = ((blk r).toNat : Int) := ⟨_, rfl⟩
        rw [← hy2] at hix
        have HBK := Lib.hid hy2
        clear hy2
        obtain ⟨pl, hpl2⟩ : ∃ v, v = (p ++ s).length := ⟨_, rfl⟩
        have hpl3 : pl ≤ 10000003 := by have := HS.out.2; rw [hpl2, List.length_append]; omega
        have HRO := Lib.hid (show wr.ownsRow V.heap.size 5 1 u7 pl (bytV (p ++ s)) by rw [hpl2]; exact HRI.out.1)
        have hbase : V.heap.size ≤ wr.heap.size := HRI.out.2.size
        go_upto_region 15 with (at_builtin; refine wpApp _ rfl (.tmp 55) (.tmp 62) 22 rfl V.heap.size 5 i0 (.int .u8 0) 1 Tryz.underlying22 hi0 hz0 hz1 hz2 rfl _ pl (bytV (p ++ s)) rfl (HRO.out.alloc _) (some ⟨wr.heap.size, 0, none⟩) 1 1 (wr.heap.size + 1) [blk r] rfl rfl (byt_new _ _ #[.int .u8 y2] _ rfl (by rw [HBK.out]; rfl)) (fun h => by cases h) (by unfold maxLen; omega) (by omega) (by simp; omega) ?_; intro v' w9 hown9 hg9 _)
        have HRN := Lib.hid (RB.app (u := [blk r]) HRI.out (by rw [← hpl2]; exact hown9) hg9)
        clear hown9 hg9 hpl2
        go_wp2_with fail
        refine ⟨⟨k + 1, s ++ [blk r], q2 + 1, by omega, by go_num, by go_num, by omega, Lib.hid ⟨HS.out.1.app (fun c hc => ?_), ?_⟩, ?_⟩, ?_⟩
        · rw [List.mem_singleton] at hc; subst hc; exact blk_spc hr4
        · have := HS.out.2; rw [List.length_append, List.length_singleton]; omega
        · have := HRN; rwa [List.append_assoc] at this
        · simp [intOf] <;> omega
    case rest =>
      obtain ⟨s, q2, rfl, hq2, HS, HR2⟩ := hcut
      obtain ⟨pt, hpt⟩ : ∃ pt : Bs, pt = ptOf l (tks l 0).1 i := ⟨_, rfl⟩
      have hTl : (tks l 0).1.length = N1 := HK1.out.1.symm
      have HPT := Lib.hid hpt
      have HTL := Lib.hid hTl
      have hptl : pt.length ≤ 2000 := by have h1 := ptOf_le (l := l) (T := (tks l 0).1) (i := i); have h2 := Hn.out.1; rw [hpt]; omega
      have hnew : preL l (Ss ++ [s]) (tks l 0).1 = p ++ (s ++ (pt ++ sbOf (tks l 0).1 (i + 1))) := by
        rw [preL_snoc l s Ss _ (by rw [HSS.out.1, hTl]; exact hlt), HSS.out.1, chk1_at, ← hpt, ← HPP.out]
      have HNEW := Lib.hid hnew
      have hsl : s.length ≤ 3 := HS.out.2
      have HSN := Lib.hid (show (Ss ++ [s]).length = i + 1 ∧ ∀ x ∈ Ss ++ [s], AllB x ∧ x.length ≤ 3 from ⟨by rw [List.length_append, HSS.out.1]; rfl, fun x hx => by
        rcases List.mem_append.1 hx with hx | hx
        · exact HSS.out.2 x hx
        · rw [List.mem_singleton] at hx; subst hx; exact HS.out⟩)
      clear hpt hTl hnew
      go_upto_region 17 with fail
      obtain ⟨wi, hwi⟩ : ∃ wi, wi = wc := ⟨_, rfl⟩
      subst hwi
      have HKW := Lib.hid (HKV.out.below HR2.out.2 (Nat.le_refl _))
      by_cases hi1 : i < N1
      case neg =>
        obtain rfl : i = N1 := by omega
        obtain rfl : pt = [] := by rw [HPT.out]; exact ptOf_none (by rw [HTL.out]; omega)
        have HR3 := Lib.hid (show RB V wi (p ++ (s ++ [])) u7 by rw [List.append_nil]; exact HR2.out)
        have hi2 : ¬ i + 1 < i := by omega
        go_upto_region 19 with fail
        have hdec : decide (i + 1 < i) = false := decide_eq_false hi2
        have hsb : sbOf (tks l 0).1 (i + 1) = [] := sbOf_none (by rw [HTL.out]; omega)
        have HR4 := Lib.hid (show RB V wi (preL l (Ss ++ [s]) (tks l 0).1) u7 by rw [HNEW.out, hsb, List.append_nil]; exact HR3.out)
        clear hsb
        go_wp2_with fail
        refine ⟨⟨i + 1, Ss ++ [s], q2 + 1, by omega, by go_num, by go_num, by omega, HSN, HR4⟩, ?_⟩
        simp [intOf] <;> omega
      obtain ⟨t, ht⟩ : ∃ t, (tks l 0).1[i]? = some t := ⟨_, List.getElem?_eq_getElem (by have := HTL.out; omega)⟩
      obtain ⟨g, rfl, hg, hct⟩ := HKW.out.at_ (by omega)
      obtain ⟨q1, q3, q4⟩ := hct i t ht
      have hmem := tks_mem (List.mem_of_getElem? ht)
      have hpt2 := ptOf_some (l := l) ht
      rw [← HPT.out] at hpt2
      obtain ⟨kd, F, E⟩ := t
      simp only at q1 q3 q4 hmem hpt2
      by_cases hk : kd = 0
      case pos =>
        rw [if_neg (by simp [hk])] at hpt2
        subst hpt2
        subst hk
        have HR3 := Lib.hid (show RB V wi (p ++ (s ++ [])) u7 by rw [List.append_nil]; exact HR2.out)
        clear hct q3 q4 hmem
        go_upto_region 19 with fail
        obtain ⟨pt, hpt⟩ : ∃ pt : Bs, pt = [] := ⟨_, rfl⟩
        rw [← hpt] at HR3 HNEW
        have hptl : pt.length ≤ 2000 := by rw [hpt]; exact Nat.zero_le _
        clear hpt
        by_cases hi2 : i + 1 < N1
        case neg =>
          have hdec : decide (i + 1 < N1) = false := decide_eq_false hi2
          have hsb : sbOf (tks l 0).1 (i + 1) = [] := sbOf_none (by rw [HTL.out]; omega)
          have HR4 := Lib.hid (show RB V wi (preL l (Ss ++ [s]) (tks l 0).1) u7 by rw [HNEW.out, hsb, List.append_nil]; exact HR3.out)
          clear hsb
          go_wp2_with fail
          refine ⟨⟨i + 1, Ss ++ [s], q2 + 1, by omega, by go_num, by go_num, by omega, HSN, HR4⟩, ?_⟩
          simp [intOf] <;> omega
        obtain ⟨t2, ht2⟩ : ∃ t, (tks l 0).1[i + 1]? = some t := ⟨_, List.getElem?_eq_getElem (by have := HTL.out; omega)⟩
        obtain ⟨g2, eg2, _, hct2⟩ := (HKV.out.below HR3.out.2 (Nat.le_refl _)).at_ (by omega)
        injection eg2 with eg2
        injection eg2 with eg2 _ _
        subst eg2
        obtain ⟨r1, _, _⟩ := hct2 (i + 1) t2 ht2
        have hsb := sbOf_some ht2
        obtain ⟨kd2, F2, E2⟩ := t2
        simp only at r1 hsb
        clear hct2 ht2
        by_cases hk2 : kd2 = 0
        case neg =>
          rw [if_neg hk2] at hsb
          have HR4 := Lib.hid (show RB V wi (preL l (Ss ++ [s]) (tks l 0).1) u7 by rw [HNEW.out, hsb, List.append_nil]; exact HR3.out)
          have hkI2 : ¬ ((kd2 : Nat) : Int) = 0 := by omega
          clear hsb
          go_wp2_with fail
          refine ⟨⟨i + 1, Ss ++ [s], q2 + 1, by omega, by go_num, by go_num, by omega, HSN, HR4⟩, ?_⟩
          simp [intOf] <;> omega
        rw [if_pos hk2] at hsb
        subst hk2
        obtain ⟨pm, hpm2⟩ : ∃ v, v = (p ++ (s ++ pt)).length := ⟨_, rfl⟩
        have hpm3 : pm ≤ 10002003 := by rw [hpm2, List.length_append, List.length_append]; omega
        have HRP := Lib.hid (show wi.ownsRow V.heap.size 5 1 u7 pm (bytV (p ++ (s ++ pt))) by rw [hpm2]; exact HR3.out.1)
        have hbase2 : V.heap.size ≤ wi.heap.size := HR3.out.2.size
        go_upto_region 10 with (at_builtin; refine wpApp _ rfl (.tmp 108) (.tmp 109) 22 rfl V.heap.size 5 i0 (.int .u8 0) 1 Tryz.underlying22 hi0 hz0 hz1 hz2 rfl _ pm (bytV (p ++ (s ++ pt))) rfl (HRP.out.alloc _) (some ⟨wi.heap.size, 0, none⟩) 1 1 (wi.heap.size + 1) [32] rfl rfl (byt_new _ _ #[.int .u8 32] _ rfl rfl) (fun h => by cases h) (by unfold maxLen; omega) (by omega) (by simp; omega) ?_; intro v8 w8 hown8 hg8 _)
        have HR4 := Lib.hid (show RB V w8 (preL l (Ss ++ [s]) (tks l 0).1) v8 by
          have := RB.app (u := [32]) HR3.out (by rw [← hpm2]; exact hown8) hg8
          rw [HNEW.out, hsb]; simpa using this)
        clear hown8 hg8 hpm2 hsb
        go_wp2_with fail
        refine ⟨⟨i + 1, Ss ++ [s], q2 + 1, by omega, by go_num, by go_num, by omega, HSN, HR4⟩, ?_⟩
        simp [intOf] <;> omega
      rw [if_pos hk] at hpt2
      have hF := hmem.1
      have hEl := hmem.2
      have hE : E ≤ n := by rw [Hn.out.1]; exact hmem.2
      have hEc : E ≤ c := by omega
      have hFE : F ≤ E := by omega
      obtain ⟨b1, off1, rfl, hb1, hc1⟩ := HA.out.1.at_ (show F < l.length by omega)
      have hwb : Below w.heap.size w wi := (HBV.out.trans (HR2.out.2.mono HBV.out.size))
      have hby : Byt wi w.heap.size (some ⟨b1, off1 + F, none⟩) pt := by
        rw [hpt2]
        have h9 : Byt wi w.heap.size ((some (⟨b1, off1, none⟩ : Addr)).map (·.add F)) ((l.take E).drop F) := ((HA.out.1.below hwb).take E).cut' (by rw [List.length_take]; omega)
        rw [show (some (⟨b1, off1, none⟩ : Addr)).map (·.add F) = some ⟨b1, off1 + F, none⟩ from congrArg some (addAt b1 off1 F)] at h9
        exact h9
      have hptm : pt.length = E - F := by
        rw [hpt2]; show ((l.take E).drop F).length = _
        rw [List.length_drop, List.length_take]; omega
      have HBY := Lib.hid hby
      have HPM := Lib.hid hptm
      obtain ⟨pl, hpl2⟩ : ∃ v, v = (p ++ s).length := ⟨_, rfl⟩
      have hpl3 : pl ≤ 10000003 := by rw [hpl2, List.length_append]; omega
      have HRO := Lib.hid (show wi.ownsRow V.heap.size 5 1 u7 pl (bytV (p ++ s)) by rw [hpl2]; exact HR2.out.1)
      have HPL := Lib.hid hpl2
      have hbase : V.heap.size ≤ wi.heap.size := HR2.out.2.size
      have hM : E - F ≤ 2000 := by omega
      have hcF : ¬ c = F := by omega
      have hkI : ¬ ((kd : Nat) : Int) = 0 := by omega
      clear hct hby hptm hpl2 hb1 hc1 hwb hpt2 ht hmem
      go_upto_region 18 with fail
      go_region_law (refine step_own rfl (.tmp 80) (.tmp 92) 22 rfl V.heap.size 5 i0 (.int .u8 0) 1 1 Tryz.underlying22 hi0 hz0 hz1 hz2 rfl (by decide) _ pl (bytV (p ++ s)) rfl HRO.out ⟨b1, off1 + F, none⟩ (E - F) (c - F) (bytV pt) rfl (by rw [bytV_len, HPM.out, Nat.mul_one]) (bytV_cells HBY.out) (bytV_one _) (by unfold maxLen; omega) (by omega) hbase ?_; intro v9 w9 hown9 hg9 _)
      all_goals
        have HR3 := Lib.hid (show RB V w9 (p ++ (s ++ pt)) v9 by
          have := RB.put (u := pt) HR2.out (by rw [← HPL.out, HPM.out]; exact hown9) (by first | exact hg9 | exact gDrew hg9)
          rwa [List.append_assoc] at this)
        clear hown9 hg9 q1 q3 q4
        go_upto_region 19 with fail
        by_cases hi2 : i + 1 < N1
        case neg =>
          have hdec : decide (i + 1 < N1) = false := decide_eq_false hi2
          have hsb : sbOf (tks l 0).1 (i + 1) = [] := sbOf_none (by rw [HTL.out]; omega)
          have HR4 := Lib.hid (show RB V w9 (preL l (Ss ++ [s]) (tks l 0).1) v9 by rw [HNEW.out, hsb, List.append_nil]; exact HR3.out)
          clear hsb
          go_wp2_with fail
          refine ⟨⟨i + 1, Ss ++ [s], q2 + 1, by omega, by go_num, by go_num, by omega, HSN, HR4⟩, ?_⟩
          simp [intOf] <;> omega
        obtain ⟨t2, ht2⟩ : ∃ t, (tks l 0).1[i + 1]? = some t := ⟨_, List.getElem?_eq_getElem (by have := HTL.out; omega)⟩
        obtain ⟨g2, eg2, _, hct2⟩ := (HKV.out.below HR3.out.2 (Nat.le_refl _)).at_ (by omega)
        injection eg2 with eg2
        injection eg2 with eg2 _ _
        subst eg2
        obtain ⟨r1, _, _⟩ := hct2 (i + 1) t2 ht2
        have hsb := sbOf_some ht2
        obtain ⟨kd2, F2, E2⟩ := t2
        simp only at r1 hsb
        clear hct2 ht2
        by_cases hk2 : kd2 = 0
        case neg =>
          rw [if_neg hk2] at hsb
          have HR4 := Lib.hid (show RB V w9 (preL l (Ss ++ [s]) (tks l 0).1) v9 by rw [HNEW.out, hsb, List.append_nil]; exact HR3.out)
          have hkI2 : ¬ ((kd2 : Nat) : Int) = 0 := by omega
          clear hsb
          go_wp2_with fail
          refine ⟨⟨i + 1, Ss ++ [s], q2 + 1, by omega, by go_num, by go_num, by omega, HSN, HR4⟩, ?_⟩
          simp [intOf] <;> omega
        rw [if_pos hk2] at hsb
        subst hk2
        obtain ⟨pm, hpm2⟩ : ∃ v, v = (p ++ (s ++ pt)).length := ⟨_, rfl⟩
        have hpm3 : pm ≤ 10002003 := by rw [hpm2, List.length_append, List.length_append]; omega
        have HRP := Lib.hid (show w9.ownsRow V.heap.size 5 1 v9 pm (bytV (p ++ (s ++ pt))) by rw [hpm2]; exact HR3.out.1)
        have hbase2 : V.heap.size ≤ w9.heap.size := HR3.out.2.size
        go_upto_region 10 with (at_builtin; refine wpApp _ rfl (.tmp 108) (.tmp 109) 22 rfl V.heap.size 5 i0 (.int .u8 0) 1 Tryz.underlying22 hi0 hz0 hz1 hz2 rfl _ pm (bytV (p ++ (s ++ pt))) rfl (HRP.out.alloc _) (some ⟨w9.heap.size, 0, none⟩) 1 1 (w9.heap.size + 1) [32] rfl rfl (byt_new _ _ #[.int .u8 32] _ rfl rfl) (fun h => by cases h) (by unfold maxLen; omega) (by omega) (by simp; omega) ?_; intro v8 w8 hown8 hg8 _)
        have HR4 := Lib.hid (show RB V w8 (preL l (Ss ++ [s]) (tks l 0).1) v8 by
          have := RB.app (u := [32]) HR3.out (by rw [← hpm2]; exact hown8) hg8
          rw [HNEW.out, hsb]; simpa using this)
        clear hown8 hg8 hpm2 hsb
        go_wp2_with fail
        refine ⟨⟨i + 1, Ss ++ [s], q2 + 1, by omega, by go_num, by go_num, by omega, HSN, HR4⟩, ?_⟩
        simp [intOf] <;> omega
set_option maxHeartbeats 8000000 in
set_option maxRecDepth 100000 in
theorem blanks_bad {l : Bs} {A A2 : Option Addr} {n c n2 c2 a : Nat} {w : World} (ha : ArgB w A n c l) (hT : Tabs0 w) (h : n ≤ 2000) (hbad : (tks l 0).2 = some a) :
    Calls Tryz.prog 5 #[.slice A n c, .slice A2 n2 c2] w fun e w' => e = .returned (.bool true) ∧ Below w.heap.size w w' := by
  obtain ⟨hn, hnc, hcm, hA, hnil⟩ := ha
  have h' : ¬ (2000 : Int) < n := by omega
  have HL := Lib.hid (fun (wx : World) (hb : Below w.heap.size w wx) => lives_any (hT.below hb))
  have C1 := Lib.hid (lread_is (A := A) n c w forms_ok hn hnc hcm hA (Nat.le_refl _) (by omega))
  have HOK := Lib.hid hbad
  clear hn hA hnil hT hbad hcm
  go_enter Tryz.func5, Tryz.ntmps5
  go_wp2_with fail
  refine C1.out.mono ?_
  rintro e w1 ⟨A1, N1, c1, he, hNc1, hcm1, hk1, hb1⟩
  rw [HOK.out] at he
  have he2 : e = .returned (.tuple #[.slice A1 N1 c1, .agg #[.int .i64 3, .int .i64 (a : Nat)]]) := he
  clear he
  subst he2
  have HB1 := Lib.hid hb1
  clear C1 hb1 hk1 hcm1
  go_upto_region 4 with fail
  obtain ⟨V, hV⟩ : ∃ V, V = w1.alloc (fvO 3 a) := ⟨_, rfl⟩
  have hbV : Below w1.heap.size w1 V := by rw [hV]; exact (Below.refl _ _).alloc (Nat.le_refl _) _
  have z0 : V.cell? ⟨w1.heap.size, 0, none⟩ = some (.int .i64 3) := by rw [hV, World.cell?_alloc_at _ _ _ _ rfl]; rfl
  have z1 : V.cell? ⟨w1.heap.size, 1, none⟩ = some (.int .i64 (a : Nat)) := by rw [hV, World.cell?_alloc_at _ _ _ _ rfl]; rfl
  rw [← hV]
  have HBV := Lib.hid (below_tr HB1.out hbV)
  clear hV hbV
  go_wp2_with (go_at_call 7; refine (HL.out _ HBV.out).mono ?_; rintro e w' ⟨rfl, hb⟩)
  go_ret
  exact ⟨rfl, below_tr HBV.out hb⟩
theorem blanks_any {l bl : Bs} {A A2 : Option Addr} {n c n2 c2 : Nat} {w : World} (ha : ArgB w A n c l) (hb : ArgB w A2 n2 c2 bl) (hT : Tabs0 w) :
    Calls Tryz.prog 5 #[.slice A n c, .slice A2 n2 c2] w fun e w' => e = .returned (.bool true) ∧ Below w.heap.size w w' := by
  by_cases h : 2000 < n
  · exact blanks_long hT h (by obtain ⟨_, h1, h2, _⟩ := ha; unfold maxLen at h2; omega)
  · cases hx : (tks l 0).2 with
    | none => exact blanks_ok ha hb hT (by omega) hx
    | some a => exact blanks_bad ha hT (by omega) hx
end Jt
end Go.Proofs.YtnjmcldhmnpbjaaGreatDoor
