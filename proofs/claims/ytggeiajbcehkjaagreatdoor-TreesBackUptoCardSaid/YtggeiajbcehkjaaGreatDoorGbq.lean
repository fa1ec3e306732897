/- What landed of trees: nodes grown by those of a value. -/
import Derived.Test.YtggeiajbcehkjaaGreatDoorGbp
namespace Go.Proofs.YtggeiajbcehkjaaGreatDoor
open Go.RowKit
open Va (Bs V v0 Tx Vm Vk Vr vO below_tr below_new heap_alloc_new get_lt vcells own_on cell_eq own_cells gb_tr gb_call gb_below)
namespace Tt
set_option maxRecDepth 100000

theorem gb_set {w X : World} {g ub j : Nat} {v : Value} (h : w.grownBy X (some g)) (hu : w.heap.size ≤ ub) : w.grownBy (X.setCell ⟨ub, j, none⟩ v) (some g) :=
  ⟨h.os, h.tape, h.output, by have := h.size; simpa using this, fun k hk hn => (Go.RowKit.Below.heap_setCell _ _ _ _ (show k ≠ ub by omega)).trans (h.block k hk hn)⟩
/-- A node with so many parts put in. -/
def mkN (me k : Nat) (t : Bs) (l : List V) (ks : List Bs) (j : Nat) : Nd := ⟨k, t, ks, List.replicate ks.length (-1, -1), subsAt (me + 1) l j, (-1, -1)⟩
/-- Where growing stands. -/
structure GS (w0 : World) (g C : Nat) (w : World) (L : List Nd) (B : Nat → Nat) (k : Nat) (t : Bs) (l : List V) (ks : List Bs) (o : Obj) (j : Nat) (wx : World) (B' : Nat → Nat) : Prop where
  gr : GR w0.heap.size g C wx (L ++ mkN L.length k t l ks j :: ndsL (L.length + 1) (l.take j)) B'
  lo : w.heap.size + 1 ≤ B' L.length
  old : ∀ i, i < L.length → B' i = B i
  gb : w.grownBy wx (some g)
  box : wx.heap[w.heap.size]? = some o
  below : Below w0.heap.size w0 wx
theorem GS.len {L : List Nd} {k : Nat} {t : Bs} {l : List V} {ks : List Bs} {i j : Nat} : (L ++ mkN L.length k t l ks i :: ndsL (L.length + 1) (l.take j)).length = L.length + 1 + Va.szL (l.take j) := by
  rw [List.length_append, List.length_cons, ndsL_len]; omega
set_option maxHeartbeats 16000000 in
theorem grow_step {g C k : Nat} {t : Bs} {l : List V} {ks : List Bs} {L : List Nd} {B : Nat → Nat} {v : Value} (w0 w : World) (hv : Vm w0 v (.mk k t l ks)) (hx : Va.wt (.mk k t l ks) ≤ 1000000) (hC : C ≤ 1000000)
    (hb : Below w0.heap.size w0 w) (hG : GR w0.heap.size g C w L B) (hlen : L.length + Va.sz (.mk k t l ks) ≤ C)
    (IH : ∀ (j : Nat) (y : V), l[j]? = some y → ∀ (w : World) (L : List Nd) (B : Nat → Nat) (u : Value), Vm w0 u y → Below w0.heap.size w0 w → GR w0.heap.size g C w L B → L.length + Va.sz y ≤ C →
      Calls Tryz.prog 44 #[.slice (some ⟨g, 0, none⟩) L.length C, u] w fun e w' => e = .returned (.slice (some ⟨g, 0, none⟩) (L.length + Va.sz y : Nat) C) ∧ (∃ B', GR w0.heap.size g C w' (L ++ nds L.length y) B' ∧ ∀ i, i < L.length → B' i = B i) ∧ w.grownBy w' (some g)) :
    Calls Tryz.prog 44 #[.slice (some ⟨g, 0, none⟩) L.length C, v] w fun e w' => e = .returned (.slice (some ⟨g, 0, none⟩) (L.length + Va.sz (.mk k t l ks) : Nat) C) ∧ (∃ B', GR w0.heap.size g C w' (L ++ nds L.length (.mk k t l ks)) B' ∧ ∀ i, i < L.length → B' i = B i) ∧ w.grownBy w' (some g) := by
  obtain ⟨ii, hi, hz0, hz1, hz2⟩ := info_parts (show (Tryz.prog.info? 59).map (fun i => (i.zero, i.size, i.bytes)) = some (some (.agg #[.int .u8 0, .string ⟨#[]⟩, .slice none 0 0, .slice none 0 0, .slice none 0 0, .int .i64 0, .int .i64 0]), 7, 112) by kernel_rfl)
  have HVM := Lib.hid hv
  have hV0 := hv
  obtain ⟨A, B0, c, d, rfl, hk, hl, hc, hA, hd, hd2, hB, hK, hV⟩ := hV0.inv
  have CA := Lib.hid (fun (X : World) (h : Below w0.heap.size w0 X) => alone_any X (hv.on h) hx)
  have hsz : Va.sz (.mk k t l ks) = 1 + Va.szL l := by rw [Va.sz]
  have HSZ := Lib.hid hsz
  rw [hsz] at hlen
  have HLEN := Lib.hid hlen
  obtain ⟨R, hR⟩ : ∃ R, R = L.length + Va.sz (.mk k t l ks) := ⟨_, rfl⟩
  have HR := Lib.hid hR
  rw [← hR]
  obtain ⟨T, hT⟩ : ∃ T, T = txt t := ⟨_, rfl⟩
  obtain ⟨n, hn⟩ : ∃ n, n = l.length := ⟨_, rfl⟩
  obtain ⟨m, hm⟩ : ∃ n, n = ks.length := ⟨_, rfl⟩
  obtain ⟨me, hme⟩ : ∃ n, n = L.length := ⟨_, rfl⟩
  have hn9 : n ≤ 1000000 := by have := Va.wtL_len l; rw [Va.wt] at hx; omega
  have hm9 : m ≤ 1000000 := by rw [Va.wt] at hx; omega
  have hmeC : me < C := by omega
  rw [← hT, ← hn, ← hm] at CA
  rw [← hT, ← hn, ← hm, ← hme]
  have HV := Lib.hid hV
  have HN := Lib.hid hn
  have HM := Lib.hid hm
  have HME := Lib.hid hme
  have HG := Lib.hid hG
  have HB := Lib.hid hb
  have HIH := Lib.hid IH
  have HK9 := Lib.hid hk
  have HTX := Lib.hid hT
  clear hV hn hm hT hx hv hA hl hB hd hc hd2 hK hR hsz hlen hme hG hb IH hk
  obtain ⟨h, hh⟩ : ∃ h, h = w.heap.size := ⟨_, rfl⟩
  obtain ⟨W1, hW1⟩ : ∃ W, W = w.alloc (vO (.int .u8 k) (.string T) (.slice A n c) (.slice B0 m d)) := ⟨_, rfl⟩
  have HB1 := Lib.hid (show Below w.heap.size w W1 ∧ W1.heap.size = h + 1 ∧ W1.heap[h]? = some (vO (.int .u8 k) (.string T) (.slice A n c) (.slice B0 m d)) from by
    rw [hW1]; exact ⟨below_new .., by rw [s1, hh], by rw [hh]; exact heap_alloc_new ..⟩)
  have HW1 := Lib.hid hW1
  clear hW1
  go_enter Tryz.func44, Tryz.ntmps44
  go_upto_region 1 with fail
  rw [← HW1.out, ← hh]
  have HH := Lib.hid hh
  clear HW1 hh
  have HBW := Lib.hid (show Below w0.heap.size w0 W1 from HB.out.trans (HB1.out.1.mono HB.out.size))
  obtain ⟨⟨x0, x1, x2, x3⟩, _⟩ := vcells HB1.out.2.2
  go_wp2_with fail
  refine (CA.out _ HBW.out).mono ?_
  rintro e w2 ⟨⟨K, S, U, a, b, u, rfl, hk2, hs2, hu2⟩, hb2⟩
  have HB2 := Lib.hid (below_tr HB1.out.1 hb2)
  have HG2 := Lib.hid (HG.out.on HB2.out)
  have HX2 := Lib.hid (show w2.heap[h]? = some (vO (.int .u8 k) (.string T) (.slice A n c) (.slice B0 m d)) from (hb2.block h (Array.getElem?_eq_some_iff.1 HB1.out.2.2).1).trans HB1.out.2.2)
  have HS2 := Lib.hid hb2.size
  have HW02 := Lib.hid (HBW.out.trans (hb2.mono HBW.out.size))
  have hOWN : OwnR (h + 1) w2.heap.size w2 (mkN me k t l ks 0) K S U a b u := by
    have z1 := HB1.out.2.1
    have lt : ∀ {e : TypeId} {s : Nat} {R : Option Addr} {d n : Nat} {ys : List Value}, RO W1.heap.size w2 e s R d n ys → ∀ g o, R = some ⟨g, o, none⟩ → g < w2.heap.size := fun hh g o e9 => by
      rcases hh with ⟨q, _⟩ | ⟨g2, q, _, hh⟩
      · rw [q] at e9; cases e9
      · rw [q] at e9; injection e9 with e9; injection e9 with e9 _ _; subst e9; exact (hh.lt _ rfl).2
    refine { k := HK9.out, ka := by show ks.length ≤ _; rw [← HM.out]; exact hm9, sb := by show (List.replicate ks.length ((-1 : Int), (-1 : Int))).length ≤ _; rw [List.length_replicate, ← HM.out]; exact hm9, uc := by show (subsAt (me + 1) l 0).length ≤ _; rw [subsAt_len (Nat.zero_le _), ← HN.out]; exact hn9, rk := ?_, rs := ?_, ru := ?_, hk := lt hk2, hs := lt hs2, hu := lt hu2, is := fun s hs => by rw [(List.mem_replicate.1 hs).2]; exact ⟨⟨by decide, by decide⟩, by decide, by decide⟩, iu := fun s hs => ?_, sp := by show i64 (-1) ∧ i64 (-1); unfold i64; omega }
    · rw [← z1]
      show RO W1.heap.size w2 9 1 K a ks.length (txC ks)
      rw [← HM.out]; exact hk2
    · rw [← z1]
      show RO W1.heap.size w2 43 2 S b (List.replicate ks.length ((-1 : Int), (-1 : Int))).length (spC (List.replicate ks.length (-1, -1)))
      rw [List.length_replicate, spC_rep, ← HM.out]; exact hs2
    · rw [← z1]
      show RO W1.heap.size w2 3 1 U u (subsAt (me + 1) l 0).length (inC (subsAt (me + 1) l 0))
      rw [subsAt_len (Nat.zero_le _), subsAt_zero, inC_rep, ← HN.out]; exact hu2
    · rw [show (mkN me k t l ks 0).subs = List.replicate l.length 0 from subsAt_zero _ _] at hs
      rw [(List.mem_replicate.1 hs).2]; exact ⟨by decide, by decide⟩
  have HOW := Lib.hid hOWN
  obtain ⟨xs, ho, hxs⟩ := HG2.out.row
  rw [← HME.out] at ho
  have HO := Lib.hid ho
  have HXS := Lib.hid hxs
  have hndC : ndC (mkN me k t l ks 0) K S U a b u = [.int .u8 k, .string (txt t), .slice K m a, .slice S m b, .slice U n u, m1, m1] := by
    show [Value.int .u8 (k : Nat), .string (txt t), .slice K ks.length a, .slice S (List.replicate ks.length ((-1 : Int), (-1 : Int))).length b, .slice U (subsAt (me + 1) l 0).length u, .int .i64 (-1), .int .i64 (-1)] = _
    rw [List.length_replicate, subsAt_len (Nat.zero_le _), ← HM.out, ← HN.out]
  have HND := Lib.hid hndC
  clear hb2 hk2 hs2 hu2 hOWN ho hxs hndC x0 x1 x2 x3 CA
  have NDC := Lib.hid (show (∀ j x, (ndC (mkN me k t l ks 0) K S U a b u)[j]? = some x → (w2.alloc (.cells #[.int .u8 k, .string T, .slice K m a, .slice S m b, .slice U n u, m1, m1] 59)).cell? ((⟨w2.heap.size, 0, none⟩ : Addr).add j) = some x) ∧ ∀ x ∈ ndC (mkN me k t l ks 0) K S U a b u, x.oneCell' = true from by
    rw [HND.out]
    refine ⟨fun j x hj => ?_, fun x hx => ?_⟩
    · have e := heap_alloc_new w2 (.cells #[.int .u8 k, .string T, .slice K m a, .slice S m b, .slice U n u, m1, m1] 59)
      rw [addAt, Nat.zero_add]
      simp only [World.cell?, e]
      rw [HTX.out]; simpa using hj
    · simp at hx
      rcases hx with rfl | rfl | rfl | rfl | rfl | rfl <;> rfl)
  go_upto_region 3 with (at_builtin; refine wpList_append_own_spare _ rfl (.tmp 10) (.tmp 13) 22 rfl w0.heap.size 59 ii 7 Tryz.underlying22 hi hz1 g me C xs rfl (HO.out.alloc _) ⟨w2.heap.size, 0, none⟩ 1 1 (ndC (mkN me k t l ks 0) K S U a b u) rfl rfl NDC.out.1 NDC.out.2 hmeC ?_; intro w3 hown3 hgr3)
  have hgr := gb_tr (gb_call g (below_new w2 (.cells #[.int .u8 k, .string T, .slice K m a, .slice S m b, .slice U n u, m1, m1] 59))) hgr3
  have hgw := gb_tr (gb_call g HB2.out) hgr
  have hx3 := (hgr.block h (Array.getElem?_eq_some_iff.1 HX2.out).1 (fun e => by injection e with e; have := HG.out.bg.2.1; have := HH.out; omega)).trans HX2.out
  have HG3 := Lib.hid (GR.push HG2.out HXS.out (by rw [← HME.out]; exact HO.out.1) hgr (by rw [← HME.out]; exact hown3) (by have := HG.out.high; have := HH.out; omega : B L.length ≤ h + 1) (by have := HS2.out; have := HB1.out.2.1; omega) HOW.out)
  have HS0 := Lib.hid (show ∃ B', GS w0 g C w L B k t l ks (vO (.int .u8 k) (.string T) (.slice A n c) (.slice B0 m d)) 0 w3 B' from ⟨_, by have e := HG3.out; rw [HME.out] at e; rw [List.take_zero, ndsL]; exact e, by rw [if_neg (Nat.lt_irrefl _), if_pos rfl, HH.out]; exact Nat.le_refl _, fun i hi => if_pos hi, hgw, by rw [← HH.out]; exact hx3, HB.out.trans (gb_below hgw HG.out.bg.1 HB.out.size)⟩)
  have x2 : w3.cell? ⟨h, 2, none⟩ = some (.slice A n c) := (by simp [World.cell?, hx3])
  clear hown3 hgr3 hgr hgw hx3 HG3 NDC HND HXS HO HOW HG2 HX2 HS2 HW02 HBW HB1 HB2
  go_wp2_with fail
  go_loopw [0, 6, 7, 18] (fun a0 _ _ b wx => ∃ (j q : Nat), j ≤ n ∧ q ≤ C ∧ b = .int .i64 j ∧ a0 = .slice (some ⟨g, 0, none⟩) q C ∧ Hid (q = L.length + 1 + Va.szL (l.take j)) ∧ Hid (∃ B', GS w0 g C w L B k t l ks (vO (.int .u8 k) (.string T) (.slice A n c) (.slice B0 m d)) j wx B')) (fun _ _ _ b _ => n - (intOf b).toNat)
  case atStart => exact ⟨0, me + 1, Nat.zero_le _, hmeC, rfl, by first | rfl | trivial, Lib.hid (by rw [List.take_zero, Va.szL, HME.out]), HS0⟩
  case round =>
    obtain ⟨j, q, hj, hqC, rfl, rfl, HQ, HS⟩ := hrel
    by_cases hlt : j < n
    · obtain ⟨y, hy⟩ := get_lt (l := l) (i := j) (by rw [← HN.out]; exact hlt)
      obtain ⟨B', GS0⟩ := HS.out
      have HGS := Lib.hid GS0
      obtain ⟨ga, oa, rfl, hga, hfa⟩ := HV.out (by rw [← HN.out]; omega)
      obtain ⟨a0, a1, a2, a3, d0, d1, d2, d3, hvm⟩ := hfa j y hy
      obtain ⟨uk, ut, uA, uB, un, uc, um, ud, rfl, rfl, rfl, rfl⟩ := Va.vshp hvm
      have c0 := (GS0.below.cell (p := ⟨ga, oa + j * 4, none⟩) hga).trans d0
      have c1 := (GS0.below.cell (p := ⟨ga, oa + j * 4 + 1, none⟩) hga).trans d1
      have c2 := (GS0.below.cell (p := ⟨ga, oa + j * 4 + 2, none⟩) hga).trans d2
      have c3 := (GS0.below.cell (p := ⟨ga, oa + j * 4 + 3, none⟩) hga).trans d3
      have HVY := Lib.hid hvm
      have HMORE := Lib.hid (ndsL_more (b := L.length + 1) hy)
      have hszl := szL_app (l.take j) (l.drop j)
      rw [List.take_append_drop, List.drop_eq_getElem_cons (by rw [← HN.out]; exact hlt : j < l.length), (List.getElem?_eq_some_iff.1 hy).2, Va.szL] at hszl
      have HZZ := Lib.hid (show q + Va.sz y ≤ C from by have := HLEN.out; have := HQ.out; omega)
      have CI := Lib.hid (HIH.out j y hy)
      obtain ⟨W5, hW5⟩ : ∃ W, W = wr.alloc (vO (.int .u8 uk) (.string ut) (.slice uA un uc) (.slice uB um ud)) := ⟨_, rfl⟩
      have hb5 : Below wr.heap.size wr W5 := by rw [hW5]; exact below_new ..
      have hx5 : W5.heap[wr.heap.size]? = some (vO (.int .u8 uk) (.string ut) (.slice uA un uc) (.slice uB um ud)) := by rw [hW5]; exact heap_alloc_new ..
      have hjl : j ≤ l.length := by rw [← HN.out]; exact hj
      have hsl : (subsAt (L.length + 1) l j).length = n := by rw [subsAt_len hjl, ← HN.out]
      have hmk : (L ++ mkN L.length k t l ks j :: ndsL (L.length + 1) (l.take j))[me]? = some (mkN L.length k t l ks j) := by rw [HME.out, List.getElem?_append_right (Nat.le_refl _), Nat.sub_self]; rfl
      obtain ⟨ub, cc, y0, e1, e2, e3, e4, e5, e6, e7, e8⟩ := (GS0.gr.on hb5).sub hmk (i := j) (by show j < (subsAt (L.length + 1) l j).length; rw [hsl]; exact hlt)
      have els : (mkN L.length k t l ks j).subs.length = n := hsl
      rw [els] at e1 e2
      have ubw : ub < wr.heap.size := by
        have h1 := GS0.gr.mono2 (i := me + 1) (j := (L ++ mkN L.length k t l ks j :: ndsL (L.length + 1) (l.take j)).length) (by rw [GS.len, HME.out]; omega) (Nat.le_refl _)
        have h2 := GS0.gr.high
        omega
      have ubl : w.heap.size + 1 ≤ ub := by have := GS0.lo; rw [← HME.out] at this; omega
      have HNEW := Lib.hid (e8 (q : Nat) (by unfold i64; omega))
      have hmeq : me < q := by have := HQ.out; have := HME.out; omega
      have HUB := Lib.hid (And.intro ubw (And.intro ubl e5))
      have HX5 := Lib.hid hx5
      have HB5 := Lib.hid hb5
      have HW5 := Lib.hid hW5
      clear hy hfa hga d0 d1 d2 d3 hvm hszl hmk hjl hsl e3 e4 e5 e8 ubw ubl GS0 els hx5 hb5 hW5
      go_upto_region 6 with fail
      rw [← HW5.out]
      go_upto_region 7 with fail
      obtain ⟨W6, hW6⟩ : ∃ W, W = W5.setCell ⟨ub, j, none⟩ (.int .i64 (q : Nat)) := ⟨_, rfl⟩
      rw [← hW6]
      have hoth : ∀ k, k ≠ ub → W6.heap[k]? = W5.heap[k]? := fun k hk => by rw [hW6]; exact Go.RowKit.Below.heap_setCell _ _ _ _ hk
      have HP6 := Lib.hid ((hoth wr.heap.size (by have := HUB.out.1; omega)).trans HX5.out)
      have hg6 : w.grownBy W6 (some g) := by rw [hW6]; exact gb_set (gb_tr HGS.out.gb (gb_call g HB5.out)) (by have := HUB.out.2.1; omega)
      have HGB6 := Lib.hid hg6
      have HBX6 := Lib.hid ((hoth w.heap.size (by have := HUB.out.2.1; omega)).trans ((HB5.out.block _ (Array.getElem?_eq_some_iff.1 HGS.out.box).1).trans HGS.out.box))
      have HBL6 := Lib.hid (HB.out.trans (gb_below hg6 HG.out.bg.1 HB.out.size))
      have HG6 := Lib.hid (show GR w0.heap.size g C W6 (L ++ mkN L.length k t l ks (j + 1) :: ndsL (L.length + 1) (l.take j)) B' from by
        have e := HNEW.out
        rw [← hW6, HME.out, set_mid] at e
        have e2 : ({ mkN L.length k t l ks j with subs := (mkN L.length k t l ks j).subs.set j ((q : Nat) : Int) } : Nd) = mkN L.length k t l ks (j + 1) := by
          show ({ mkN L.length k t l ks j with subs := (subsAt (L.length + 1) l j).set j ((q : Nat) : Int) } : Nd) = _
          rw [HQ.out, subsAt_set (by rw [← HN.out]; exact hlt)]; rfl
        rw [e2] at e
        exact e)
      have CI6 := Lib.hid (show Calls Tryz.prog 44 #[.slice (some ⟨g, 0, none⟩) q C, .agg #[.int .u8 uk, .string ut, .slice uA un uc, .slice uB um ud]] W6 fun e w' => e = .returned (.slice (some ⟨g, 0, none⟩) (q + Va.sz y : Nat) C) ∧ (∃ B', GR w0.heap.size g C w' ((L ++ mkN L.length k t l ks (j + 1) :: ndsL (L.length + 1) (l.take j)) ++ nds q y) B' ∧ ∀ i, i < q → B' i = _) ∧ W6.grownBy w' (some g) from by
        have e := CI.out W6 _ B' _ HVY.out HBL6.out HG6.out (by rw [GS.len, ← HQ.out]; exact HZZ.out)
        rw [GS.len, ← HQ.out] at e
        exact e)
      obtain ⟨⟨x0, x1, x2, x3⟩, _⟩ := vcells HP6.out
      clear hoth hg6 hW6 e1 e6 e7 c0 c1 c2 c3
      go_wp2_with fail
      refine CI6.out.mono ?_
      rintro e w7 ⟨rfl, ⟨B7, hG7, hold⟩, hgr7⟩
      have HS7 := Lib.hid (show GS w0 g C w L B k t l ks (vO (.int .u8 k) (.string T) (.slice (some ⟨ga, oa, none⟩) n c) (.slice B0 m d)) (j + 1) w7 B7 from
        ⟨by
          have e := hG7
          rw [List.append_assoc, List.cons_append, HQ.out, ← HMORE.out.1] at e
          exact e, by rw [hold L.length (by have := HQ.out; omega)]; exact HGS.out.lo, fun i hi => (hold i (by have := HQ.out; omega)).trans (HGS.out.old i hi), gb_tr HGB6.out hgr7, (hgr7.block _ (Array.getElem?_eq_some_iff.1 HBX6.out).1 (fun e => by injection e with e; have := HG.out.bg.2.1; omega)).trans HBX6.out, HBL6.out.trans (gb_below hgr7 HG.out.bg.1 HBL6.out.size)⟩)
      have HQ7 := Lib.hid (show q + Va.sz y = L.length + 1 + Va.szL (l.take (j + 1)) from by rw [HMORE.out.2, HQ.out]; omega)
      have hq7 := HZZ.out
      clear hG7 hold hgr7 x0 x1 x2 x3
      go_wp2_with fail
      go_roundw
      case rel => exact ⟨j + 1, q + Va.sz y, by omega, hq7, by go_num, by first | rfl | trivial, HQ7, Lib.hid ⟨B7, HS7.out⟩⟩
      case measure => simp [intOf]; omega
    · obtain rfl : j = n := by omega
      obtain ⟨B', GS0⟩ := HS.out
      have HGS := Lib.hid GS0
      clear GS0
      have HTK := Lib.hid (show l.take j = l from List.take_of_length_le (by rw [← HN.out]; omega))
      go_wp2_with fail
      go_ret
      refine ⟨?_, ⟨B', ?_, fun i hi => HGS.out.old i (by rw [← HME.out]; exact hi)⟩, HGS.out.gb⟩
      · have : R = q := by rw [HR.out, HSZ.out, HQ.out, HTK.out]; omega
        rw [this]; rfl
      · have e := HGS.out.gr
        rw [HTK.out] at e
        rw [nds, ← subsAt_all]
        have e2 : mkN L.length k t l ks j = ⟨k, t, ks, List.replicate ks.length (-1, -1), subsAt (L.length + 1) l l.length, (-1, -1)⟩ := by rw [← HN.out]; rfl
        rw [e2] at e
        rw [HME.out]
        exact e
theorem grow_any {g C : Nat} (w0 : World) (hC : C ≤ 1000000) : ∀ (N : Nat) (x : V), Va.wt x ≤ N → N ≤ 1000000 → ∀ (w : World) (L : List Nd) (B : Nat → Nat) (v : Value), Vm w0 v x → Below w0.heap.size w0 w → GR w0.heap.size g C w L B → L.length + Va.sz x ≤ C →
    Calls Tryz.prog 44 #[.slice (some ⟨g, 0, none⟩) L.length C, v] w fun e w' => e = .returned (.slice (some ⟨g, 0, none⟩) (L.length + Va.sz x : Nat) C) ∧ (∃ B', GR w0.heap.size g C w' (L ++ nds L.length x) B' ∧ ∀ i, i < L.length → B' i = B i) ∧ w.grownBy w' (some g)
  | 0, x, hx, _, _, _, _, _, _, _, _, _ => by have := Va.wt_pos x; omega
  | N + 1, .mk k t l ks, hx, hN, w, L, B, v, hv, hb, hG, hl => grow_step w0 w hv (by omega) hC hb hG hl (fun j y hy w L B u hu hb hG hl => grow_any w0 hC N y (by have := Va.wt_sub (k := k) (t := t) (ks := ks) hy; omega) (by omega) w L B u hu hb hG hl)
end Tt
end Go.Proofs.YtggeiajbcehkjaaGreatDoor
/- What landed of trees: Make. -/
namespace Go.Proofs.YtggeiajbcehkjaaGreatDoor
open Go.RowKit
open Va (Bs V v0 Tx Vm Vk Vr vO below_tr below_new heap_alloc_new get_lt vcells own_on cell_eq own_cells gb_tr gb_call gb_below lmay_any lsize_any)
namespace Tt
set_option maxRecDepth 100000

mutual
theorem szw : ∀ x : V, Va.sz x ≤ Va.wt x
  | .mk k t l ks => by rw [Va.sz, Va.wt]; have := szwL l; omega
theorem szwL : ∀ l : List V, Va.szL l ≤ Va.wtL l
  | [] => Nat.le_refl _
  | x :: r => by rw [Va.szL, Va.wtL]; have := szw x; have := szwL r; omega
end
theorem sz_pos : ∀ x : V, 0 < Va.sz x
  | .mk k t l ks => by rw [Va.sz]; omega
/-- A value's tree, just made. -/
def MkT (lo : Nat) (w : World) (u : Value) (x : V) : Prop :=
  (Va.may x = true ∧ ∃ g B, u = .agg #[.slice (some ⟨g, 0, none⟩) (Va.sz x) (Va.sz x), .int .i64 0] ∧ GR lo g (Va.sz x) w (nds 0 x) B) ∨ (Va.may x = false ∧ u = .agg #[.slice none 0 0, .int .i64 0])
/-- A value's tree; an empty one, if it may not be. -/
def mkT (x : V) : Tr := bif Va.may x then ⟨nds 0 x, 0⟩ else ⟨[], 0⟩
theorem MkT.tm {lo : Nat} {w : World} {u : Value} {x : V} (h : MkT lo w u x) : Tm w u (mkT x) := by
  rcases h with ⟨h1, g, B, rfl, h2⟩ | ⟨h1, rfl⟩
  · rw [show mkT x = ⟨nds 0 x, 0⟩ from by unfold mkT; rw [h1]; rfl]
    refine ⟨some ⟨g, 0, none⟩, Va.sz x, by rw [nds_len], by rw [nds_len]; exact Nat.le_refl _, ?_, fun h => (by cases h), (show i64 0 from by unfold i64; omega), h2.nx⟩
    have := h2.bg.2.2.2; exact this
  · rw [show mkT x = ⟨[], 0⟩ from by unfold mkT; rw [h1]; rfl]
    exact ⟨none, 0, rfl, Nat.le_refl _, Nat.zero_le _, fun _ => rfl, (show i64 0 from by unfold i64; omega), fun h => absurd h (by simp)⟩
theorem tcells {w : World} {g : Nat} {a b : Value} (e : w.heap[g]? = some (tO a b)) : (w.cell? ⟨g, 0, none⟩ = some a ∧ w.cell? ⟨g, 1, none⟩ = some b) ∧ w.frozen? ⟨g, 0, none⟩ = false ∧ w.frozen? ⟨g, 1, none⟩ = false := by
  simp [World.cell?, World.frozen?, e]
set_option maxHeartbeats 16000000 in
theorem tMake_any {x : V} {v : Value} (w : World) (hv : Vm w v x) (hx : Va.wt x ≤ 1000000) :
    Calls Tryz.prog 21 #[v] w fun e w' => (∃ u, e = .returned (.tuple #[u, .bool (Va.may x)]) ∧ MkT w.heap.size w' u x) ∧ Below w.heap.size w w' := by
  obtain ⟨ii, hi, hz0, hz1, hz2⟩ := info_parts (show (Tryz.prog.info? 59).map (fun i => (i.zero, i.size, i.bytes)) = some (some (.agg #[.int .u8 0, .string ⟨#[]⟩, .slice none 0 0, .slice none 0 0, .slice none 0 0, .int .i64 0, .int .i64 0]), 7, 112) by kernel_rfl)
  obtain ⟨p, hp⟩ : ∃ p, p = Va.may x := ⟨_, rfl⟩
  obtain ⟨n, hn⟩ : ∃ n, n = Va.sz x := ⟨_, rfl⟩
  have hn9 : n ≤ 1000000 := by have := szw x; omega
  have CM := Lib.hid (fun (X : World) (h : Below w.heap.size w X) => lmay_any X (hv.on h) hx)
  have CS := Lib.hid (fun (X : World) (h : Below w.heap.size w X) => lsize_any X (hv.on h) hx)
  have CG := Lib.hid (fun (X : World) (g : Nat) (B : Nat → Nat) (h : Below w.heap.size w X) (hG : GR w.heap.size g n X [] B) => grow_any (C := n) w hn9 1000000 x hx (Nat.le_refl _) X [] B v hv h hG (by rw [hn]; simp))
  have HMKT := Lib.hid (fun (X : World) (u : Value) => show (p = true ∧ ∃ g B, u = .agg #[.slice (some ⟨g, 0, none⟩) n n, .int .i64 0] ∧ GR w.heap.size g n X (nds 0 x) B) ∨ (p = false ∧ u = .agg #[.slice none 0 0, .int .i64 0]) → MkT w.heap.size X u x from fun h => by unfold MkT; rw [← hp, ← hn]; exact h)
  rw [← hp] at CM CS
  rw [← hn] at CS
  rw [← hp]
  have CG2 := Lib.hid (fun (X : World) (g : Nat) (B : Nat → Nat) (h : Below w.heap.size w X) (hG : GR w.heap.size g n X [] B) => show Calls Tryz.prog 44 #[.slice (some ⟨g, 0, none⟩) 0 n, v] X fun e w' => e = .returned (.slice (some ⟨g, 0, none⟩) n n) ∧ (∃ B', GR w.heap.size g n w' (nds 0 x) B') ∧ X.grownBy w' (some g) from by
    have e := CG.out X g B h hG
    rw [List.length_nil, Nat.zero_add, ← hn] at e
    refine e.mono ?_
    rintro e w9 ⟨h1, ⟨B', h2, _⟩, h3⟩
    exact ⟨h1, ⟨B', by simpa using h2⟩, h3⟩)
  clear CG hp hn
  obtain ⟨k, t, l, ks⟩ := x
  obtain ⟨A, B0, c, d, rfl, _⟩ := hv.inv
  obtain ⟨T, hT⟩ : ∃ T, T = txt t := ⟨_, rfl⟩
  obtain ⟨nl, hnl⟩ : ∃ n, n = l.length := ⟨_, rfl⟩
  obtain ⟨m, hm⟩ : ∃ n, n = ks.length := ⟨_, rfl⟩
  rw [← hT, ← hnl, ← hm] at CM CS CG2 ⊢
  clear hv hT hnl hm hx
  obtain ⟨h, hh⟩ : ∃ h, h = w.heap.size := ⟨_, rfl⟩
  obtain ⟨W1, hW1⟩ : ∃ W, W = w.alloc (vO (.int .u8 k) (.string T) (.slice A nl c) (.slice B0 m d)) := ⟨_, rfl⟩
  obtain ⟨W2, hW2⟩ : ∃ W, W = W1.alloc (tO (.slice none 0 0) (.int .i64 0)) := ⟨_, rfl⟩
  have hb1 : Below w.heap.size w W1 := by rw [hW1]; exact below_new ..
  have hb2 : Below W1.heap.size W1 W2 := by rw [hW2]; exact below_new ..
  have z1 : W1.heap.size = h + 1 := by rw [hW1, s1, hh]
  have z2 : W2.heap.size = h + 2 := by rw [hW2, s1, z1]
  have b0 : W2.heap[h]? = some (vO (.int .u8 k) (.string T) (.slice A nl c) (.slice B0 m d)) := (hb2.block _ (by omega)).trans (by rw [hW1, hh]; exact heap_alloc_new ..)
  have b1 : W2.heap[h + 1]? = some (tO (.slice none 0 0) (.int .i64 0)) := by rw [← z1, hW2]; exact heap_alloc_new ..
  have HB2 := Lib.hid (below_tr hb1 hb2)
  have HW1 := Lib.hid hW1
  have HW2 := Lib.hid hW2
  have HZ := Lib.hid z2
  have HO := Lib.hid b0
  have HP := Lib.hid b1
  clear hW1 hW2 hb1 hb2 z1 z2 b0 b1
  go_enter Tryz.func21, Tryz.ntmps21
  go_upto_region 1 with fail
  rw [← HW1.out, ← HW2.out, ← hh]
  have HH := Lib.hid hh
  clear HW1 HW2 hh
  obtain ⟨⟨x0, x1, x2, x3⟩, _⟩ := vcells HO.out
  go_wp2_with fail
  refine (CM.out _ HB2.out).mono ?_
  rintro e w3 ⟨rfl, hb⟩
  have HB3 := Lib.hid (below_tr HB2.out hb)
  have HO3 := Lib.hid ((hb.block h (Array.getElem?_eq_some_iff.1 HO.out).1).trans HO.out)
  have HP3 := Lib.hid ((hb.block (h + 1) (Array.getElem?_eq_some_iff.1 HP.out).1).trans HP.out)
  clear hb x0 x1 x2 x3 CM
  have FIN := Lib.hid (fun (X : World) (hX : Below w.heap.size w X) (a b : Value) => show Below w.heap.size w ((X.setCell ⟨h + 1, 0, none⟩ a).setCell ⟨h + 1, 1, none⟩ b) from by
    have hle : w.heap.size ≤ h + 1 := by have := HH.out; omega
    exact (hX.setCell (p := ⟨h + 1, 0, none⟩) hle _).setCell (p := ⟨h + 1, 1, none⟩) hle _)
  cases p with
  | false =>
    clear CS CG2
    obtain ⟨⟨r0, r1⟩, f0, f1⟩ := tcells HP3.out
    go_wp2_with fail
    refine bodyPost_ret (v := .tuple #[.agg #[.slice none 0 0, .int .i64 0], .bool false]) (by simp [results, Tryz.results21, go_sem, *]) rfl ?_
    exact ⟨⟨_, rfl, HMKT.out _ _ (.inr ⟨by first | rfl | trivial, rfl⟩)⟩, FIN.out _ HB3.out _ _⟩
  | true =>
    obtain ⟨O, HOO⟩ : ∃ O, Hid (O = Obj.cells (madeCells #[.int .u8 0, .string ⟨#[]⟩, .slice none 0 0, .slice none 0 0, .slice none 0 0, .int .i64 0, .int .i64 0] (n * 7)) 59) := ⟨_, Lib.hid rfl⟩
    have HMK : ∀ w', (Instr.makeSlice 22 (.int .i64 0) (.int .i64 (n : Int))).run Tryz.prog w' = .ok (.slice (some ⟨w'.heap.size, 0, none⟩) 0 n) (w'.alloc O) := fun w' => by
      have := run_make (P := Tryz.prog) w' 22 59 ii _ Tryz.underlying22 hi hz0 .i64 .i64 0 (n : Int) (by omega) (by omega) (by rw [hz2]; omega) (by omega)
      rw [this, hz1, HOO.out]; rfl
    have HNEW := Lib.hid (fun (X : World) (h : w.heap.size ≤ X.heap.size) => show GR w.heap.size X.heap.size n (X.alloc O) [] (fun _ => X.heap.size + 1) from by
      have e := World.ownsRow_made (base := w.heap.size) (e := 59) (size := 7) X (madeCells #[.int .u8 0, .string ⟨#[]⟩, .slice none 0 0, .slice none 0 0, .slice none 0 0, .int .i64 0, .int .i64 0] (n * 7)) n h (by unfold maxLen; omega) (by rw [size_madeCells])
      rw [← HOO.out] at e
      exact ⟨⟨[], e, fun i x hi => by simp at hi⟩, fun i hi => by simp at hi, Nat.lt_succ_self _, by rw [s1]; exact Nat.le_refl _⟩)
    have CS3 := Lib.hid (fun (X : World) (h : Below w.heap.size w X) => show Calls Tryz.prog 31 #[.agg #[.int .u8 k, .string T, .slice A nl c, .slice B0 m d]] X fun e w' => e = .returned (.int .i64 (n : Int)) ∧ Below X.heap.size X w' from CS.out X h)
    have SC := Lib.hid (fun (X : World) (h1 : X.heap[h]? = some (vO (.int .u8 k) (.string T) (.slice A nl c) (.slice B0 m d))) => (vcells h1).1)
    have HB3d := Lib.hid (show Below w.heap.size w w3.drew from HB3.out.drew)
    clear CS
    have HO3d := Lib.hid (show w3.drew.heap[h]? = some (vO (.int .u8 k) (.string T) (.slice A nl c) (.slice B0 m d)) from HO3.out)
    have ALO := Lib.hid (fun (X : World) (h1 : X.heap[h]? = some (vO (.int .u8 k) (.string T) (.slice A nl c) (.slice B0 m d))) => show (X.alloc O).heap[h]? = some (vO (.int .u8 k) (.string T) (.slice A nl c) (.slice B0 m d)) from ((below_new X O).block h (Array.getElem?_eq_some_iff.1 h1).1).trans h1)
    have SET := Lib.hid (fun (X : World) (a b : Value) (h1 : X.heap[h]? = some (vO (.int .u8 k) (.string T) (.slice A nl c) (.slice B0 m d))) => show ((X.setCell ⟨h + 1, 0, none⟩ a).setCell ⟨h + 1, 1, none⟩ b).heap[h]? = some (vO (.int .u8 k) (.string T) (.slice A nl c) (.slice B0 m d)) from by
      rw [Go.RowKit.Below.heap_setCell _ _ _ _ (show h ≠ h + 1 by omega), Go.RowKit.Below.heap_setCell _ _ _ _ (show h ≠ h + 1 by omega)]; exact h1)
    go_upto_region 3 with fail
    go_region_held_law (fun X => X.cell? ⟨h, 0, none⟩ = some (.int .u8 k) ∧ X.cell? ⟨h, 1, none⟩ = some (.string T) ∧ X.cell? ⟨h, 2, none⟩ = some (.slice A nl c) ∧ X.cell? ⟨h, 3, none⟩ = some (.slice B0 m d))
      (first | with_reducible exact SC.out _ HO3d.out | with_reducible exact SC.out _ HO4.out | with_reducible exact SC.out _ (ALO.out _ HO4.out) | with_reducible exact SC.out _ HO5.out | exact SC.out _ (SET.out _ _ _ HO5.out))
      (first
        | (go_simp; go_at_call 31; refine (CS3.out _ HB3d.out).mono ?_; rintro e w4 ⟨rfl, hb4⟩; have HB4 := Lib.hid (below_tr HB3d.out hb4); have HO4 := Lib.hid ((hb4.block h (Array.getElem?_eq_some_iff.1 HO3d.out).1).trans HO3d.out); have HP4 := Lib.hid ((hb4.block (h + 1) (Array.getElem?_eq_some_iff.1 HP3.out).1).trans HP3.out); clear hb4)
        | (go_simp; go_at_call 44; refine (CG2.out _ _ _ (HB4.out.alloc HB4.out.size O) (HNEW.out w4 HB4.out.size)).mono ?_; rintro e w5 ⟨rfl, ⟨B5, hG5⟩, hgr5⟩; have HB5 := Lib.hid ((HB4.out.alloc HB4.out.size O).trans (gb_below hgr5 HB4.out.size (HB4.out.alloc HB4.out.size O).size)); have HO5 := Lib.hid ((hgr5.block h (Array.getElem?_eq_some_iff.1 (ALO.out _ HO4.out)).1 (fun e => by injection e with e; have := (Array.getElem?_eq_some_iff.1 HO4.out).1; omega)).trans (ALO.out _ HO4.out)); have HP5 := Lib.hid ((hgr5.block (h + 1) (by rw [s1]; have := (Array.getElem?_eq_some_iff.1 HP4.out).1; omega) (fun e => by injection e with e; have := (Array.getElem?_eq_some_iff.1 HP4.out).1; omega)).trans (((below_new w4 O).block (h + 1) (Array.getElem?_eq_some_iff.1 HP4.out).1).trans HP4.out)); have HG5 := Lib.hid hG5; have HL4 := Lib.hid (Array.getElem?_eq_some_iff.1 HP4.out).1; clear hG5 hgr5; obtain ⟨⟨r0, r1⟩, f0, f1⟩ := tcells HP5.out))
    all_goals
      have HF := Lib.hid (FIN.out w5 HB5.out (.slice (some ⟨w4.heap.size, 0, none⟩) n n) (.int .i64 0))
      have HGF := Lib.hid (show GR w.heap.size w4.heap.size n ((w5.setCell ⟨h + 1, 0, none⟩ (.slice (some ⟨w4.heap.size, 0, none⟩) n n)).setCell ⟨h + 1, 1, none⟩ (.int .i64 0)) (nds 0 (.mk k t l ks)) B5 from HG5.out.keep (fun q hq _ => by
        have h1 := HL4.out
        have h2 := HG5.out.low
        rw [Go.RowKit.Below.heap_setCell _ _ _ _ (show q ≠ h + 1 by omega), Go.RowKit.Below.heap_setCell _ _ _ _ (show q ≠ h + 1 by omega)]) (by simp))
      clear CS3 CG2 HNEW ALO SET SC FIN HG5 HL4
      go_wp2_with fail
      refine bodyPost_ret (v := .tuple #[.agg #[.slice (some ⟨w4.heap.size, 0, none⟩) n n, .int .i64 0], .bool true]) (by simp [results, Tryz.results21, go_sem, *]) rfl ?_
      exact ⟨⟨_, rfl, HMKT.out _ _ (.inl ⟨by first | rfl | trivial, _, _, rfl, HGF.out⟩)⟩, HF.out⟩
end Tt
end Go.Proofs.YtggeiajbcehkjaaGreatDoor
