/- The reader's lists clipped. -/
import Derived.Test.YtbeefjhcbphiaaaGreatDoorHs
import Derived.Test.YtbeefjhcbphiaaaGreatDoorHu
import Derived.Test.YtbeefjhcbphiaaaGreatDoorGo
import Derived.Test.YtbeefjhcbphiaaaGreatDoorTygm
namespace Go.Proofs.YtbeefjhcbphiaaaGreatDoor
open Go.RowKit
namespace Tv
open Ty (WR1 KR Ky Bs blK endP endP_on endP_no endP_far)

section
variable {A : Option Addr} {N c : Nat}
theorem clip_str (w : World) (hNc : N ≤ c) (hcm : c ≤ maxLen) : Calls Tryz.prog 49 #[.slice A N c] w fun e w' => e = .returned (.slice A N N) ∧ w = w' := Ty.clipT_any A N c w hNc hcm
theorem clip_span (w : World) (hNc : N ≤ c) (hcm : c ≤ maxLen) : Calls Tryz.prog 50 #[.slice A N c] w fun e w' => e = .returned (.slice A N N) ∧ w = w' := Ty.clipS_any A N c w hNc hcm
theorem clip_int (w : World) (hNc : N ≤ c) (_hcm : c ≤ maxLen) : Calls Tryz.prog 51 #[.slice A N c] w fun e w' => e = .returned (.slice A N N) ∧ w = w' := by
  unfold maxLen at _hcm
  go_enter Tryz.func51, Tryz.ntmps51
  go_wp2_with fail
  go_ret
  exact ⟨rfl, rfl⟩
theorem clip_node (w : World) (hNc : N ≤ c) (_hcm : c ≤ maxLen) : Calls Tryz.prog 48 #[.slice A N c] w fun e w' => e = .returned (.slice A N N) ∧ w = w' := by
  unfold maxLen at _hcm
  go_enter Tryz.func48, Tryz.ntmps48
  go_wp2_with fail
  go_ret
  exact ⟨rfl, rfl⟩
end
/-- The reader when all is read, and its row of nodes is clipped. -/
structure CP (W w : World) (B P M : Nat) (S : ByteArray) (s : St) (tv : Value) (lab : Nat → Own) (X : List Nx) : Prop where
  obj : w.heap[P]? = some (rdO (clipV tv) S s.a M 0 0)
  nt : NT w W.heap.size lab (fun _ => False) tv X
  nds : X.map Nx.nd = s.X
  below : Below B W w
  lt : B ≤ P ∧ P < W.heap.size
section
variable {G : List (Nat × Obj)} {W w w' : World} {B P M : Nat} {S : ByteArray} {s : St} {tv : Value} {lab : Nat → Own} {X : List Nx} {p b : Nat} {x : Nx} {i : Nat}
theorem VP.clip (h : VP G W w B P M S s tv 0 0 lab X p b) : CP W (w.setCell ⟨P, 0, none⟩ (clipV tv)) B P M S s tv lab X :=
  ⟨heap_setCell_same w P 0 #[tv, .int .i64 0, .string S, .int .i64 (s.a : Nat), .map (some M), .int .i64 ((0 : Nat) : Int), .int .i64 ((0 : Nat) : Int)] _ (clipV tv) h.obj,
    h.nt.keep (fun k hk _ _ => heap_setCell_other _ _ _ _ (show k ≠ P by have := h.lt.2.1; omega)) (fun _ _ => rfl) (fun _ q => q.elim), h.nds, h.below.setCell (show B ≤ P from h.lt.1) _, h.lt.1, h.lt.2.1⟩
theorem CP.drew (h : CP W w B P M S s tv lab X) : CP W w.drew B P M S s tv lab X := ⟨h.obj, h.nt.keep (fun _ _ _ _ => rfl) (fun _ _ => rfl) fun _ h => h, h.nds, h.below.drew, h.lt⟩
theorem CP.plt (h : CP W w B P M S s tv lab X) : P < w.heap.size := lt_blk h.obj
theorem map_same {v : Nat → Value} (hx : X[i]? = some x) : (X.set i ⟨x.nd, v⟩).map Nx.nd = X.map Nx.nd := by
  rw [map_set (f := fun y => y) hx]
  exact List.modify_id _ _
theorem CP.clip1 {j g : Nat} (h : CP W w B P M S s tv lab X) (hx : X[i]? = some x) (hj : j < 3) (hvb : tv.ownBlock = some g) :
    CP W (w.setCell ⟨g, i * 7 + (2 + j), none⟩ (clipV (x.v j))) B P M S s tv lab (X.set i ⟨x.nd, upV x.v j (clipV (x.v j))⟩) := by
  have hgl := (h.nt.row.lt g hvb).1
  have hlt := h.lt
  refine ⟨by rw [heap_setCell_other _ _ _ _ (show P ≠ g by omega)]; exact h.obj, h.nt.cell hx (by omega) ?_ (fun _ => ⟨rfl, rfl⟩) (fun k _ => ?_) hvb, (map_same hx).trans h.nds, h.below.setCell (show B ≤ g by omega) _, h.lt⟩
  · have : j = 0 ∨ j = 1 ∨ j = 2 := by omega
    rcases this with rfl | rfl | rfl <;> simp [ndC, upV]
  · by_cases e : k = j
    · subst e; exact .inr ⟨fun q => q, upV_same _ _ _⟩
    · exact .inl (upV_ne _ _ _ e)
theorem CP.clip3 {g n0 n1 n2 c0 c1 c2 : Nat} {A0 A1 A2 : Option Addr} (h : CP W w B P M S s tv lab X) (hx : X[i]? = some x) (hvb : tv.ownBlock = some g) (e0 : x.v 0 = .slice A0 n0 c0) (e1 : x.v 1 = .slice A1 n1 c1) (e2 : x.v 2 = .slice A2 n2 c2) :
    ∃ X8, X8.length = X.length ∧ CP W ((((w.setCell ⟨g, i * 7 + 2, none⟩ (.slice A0 n0 n0)).setCell ⟨g, i * 7 + 3, none⟩ (.slice A1 n1 n1)).setCell ⟨g, i * 7 + 4, none⟩ (.slice A2 n2 n2)).drew) B P M S s tv lab X8 := by
  have hi : i < X.length := (List.getElem?_eq_some_iff.1 hx).1
  have h0 := h.clip1 (j := 0) hx (by omega) hvb
  have hx0 : (X.set i ⟨x.nd, upV x.v 0 (clipV (x.v 0))⟩)[i]? = some ⟨x.nd, upV x.v 0 (clipV (x.v 0))⟩ := by rw [List.getElem?_set, if_pos rfl, if_pos hi]
  obtain ⟨X0, hX0⟩ : ∃ X0, X0 = X.set i ⟨x.nd, upV x.v 0 (clipV (x.v 0))⟩ := ⟨_, rfl⟩
  have m0 : X0.length = X.length := by rw [hX0, List.length_set]
  rw [← hX0] at h0 hx0
  have hi0 : i < X0.length := (List.getElem?_eq_some_iff.1 hx0).1
  have h1 := h0.clip1 (j := 1) hx0 (by omega) hvb
  obtain ⟨v1, hv1⟩ : ∃ v1, v1 = upV (upV x.v 0 (clipV (x.v 0))) 1 (clipV (upV x.v 0 (clipV (x.v 0)) 1)) := ⟨_, rfl⟩
  have hx1 : (X0.set i ⟨x.nd, v1⟩)[i]? = some ⟨x.nd, v1⟩ := by rw [List.getElem?_set, if_pos rfl, if_pos hi0]
  have hv2 : clipV (v1 2) = .slice A2 n2 n2 := by rw [hv1]; show clipV (x.v 2) = _; rw [e2]; rfl
  have hv10 : clipV (upV x.v 0 (clipV (x.v 0)) 1) = .slice A1 n1 n1 := by show clipV (x.v 1) = _; rw [e1]; rfl
  have hv00 : clipV (x.v 0) = .slice A0 n0 n0 := by rw [e0]; rfl
  rw [← hv1] at h1
  have h2 := h1.clip1 (j := 2) hx1 (by omega) hvb
  refine ⟨(X0.set i ⟨x.nd, v1⟩).set i ⟨x.nd, upV v1 2 (.slice A2 n2 n2)⟩, by rw [List.length_set, List.length_set, m0], ?_⟩
  have h3 := h2.drew
  rw [show clipV (Nx.v ⟨x.nd, v1⟩ 2) = .slice A2 n2 n2 from hv2, show clipV (Nx.v ⟨x.nd, upV x.v 0 (clipV (x.v 0))⟩ 1) = .slice A1 n1 n1 from hv10, hv00] at h3
  exact h3
set_option maxHeartbeats 16000000 in
set_option maxRecDepth 100000 in
theorem clip_any (h : VP G W w B P M S s tv 0 0 lab X p b) (hb : b ≤ 1000000) :
    Calls Tryz.prog 27 #[.pointer (some ⟨P, 0, none⟩)] w fun e w' => e = .returned (.tuple #[]) ∧ ∃ X', CP W w' B P M S s tv lab X' := by
  have hX6 : X.length ≤ 1000000 := by have := h.ok.len; have := h.xlen; omega
  obtain ⟨A, c, et, hc1, hc2, _⟩ := (Rr.of_own h.nt.row).shape
  obtain ⟨n, hn⟩ : ∃ n, n = X.length := ⟨_, rfl⟩
  rw [← hn] at et hX6 hc1
  have c0 := h.cells.1
  have f0 := h.free 0
  rw [et] at c0
  have CN := Lib.hid (fun w => clip_node (A := A) (N := n) (c := c) w hc1 hc2)
  have HCP := Lib.hid (h.clip)
  have hcv : clipV tv = .slice A n n := by rw [et]; rfl
  rw [hcv] at HCP
  have HET := Lib.hid et
  have HN := Lib.hid hn
  clear h hn et hc1 hc2 hb hcv
  go_enter Tryz.func27, Tryz.ntmps27
  go_wp2_with fail
  refine (CN.out _).mono ?_
  rintro e w1 ⟨rfl, rfl⟩
  go_wp2_with fail
  go_loopw [20] (fun a20 wr => ∃ (i : Nat) (X' : List Nx), a20 = .int .i64 (i : Nat) ∧ i ≤ n ∧ Hid (X'.length = n) ∧ Hid (CP W wr B P M S s tv lab X')) (fun a20 _ => n - (intOf a20).toNat)
  case atStart => exact ⟨0, X, rfl, Nat.zero_le _, Lib.hid HN.out.symm, HCP⟩
  case round =>
    obtain ⟨i, X', rfl, hin, HL, HC⟩ := hrel
    have c0 : wr.cell? ⟨P, 0, none⟩ = some (.slice A n n) := by
      have h1 := HC.out.obj
      rw [HET.out] at h1
      simp [World.cell?, h1, clipV]
    by_cases hlt : i < n
    · obtain ⟨x, hx⟩ : ∃ x, X'[i]? = some x := ⟨_, List.getElem?_eq_getElem (by rw [HL.out]; exact hlt)⟩
      obtain ⟨g, c', et, hgb, _, _⟩ : ∃ g c, tv = .slice (some ⟨g, 0, none⟩) X'.length c ∧ tv.ownBlock = some g ∧ X'.length ≤ c ∧ c ≤ maxLen := by
        obtain ⟨g, c, e, _, _, h1, h2, _⟩ := HC.out.nt.shape (by rw [HL.out]; omega)
        exact ⟨g, c, e, by rw [e]; rfl, h1, h2⟩
      obtain ⟨g', c'', e', _, _, _, _, hfree, hcells⟩ := HC.out.nt.shape (by rw [HL.out]; omega)
      rw [et] at e'
      injection e' with e1 _ _
      injection e1 with e1
      injection e1 with e1
      subst e1
      have hA : A = some ⟨g, 0, none⟩ := by
        have := HET.out.symm.trans et
        injection this
      subst hA
      obtain ⟨A0, k0, e0, h01, h02, _⟩ := (HC.out.nt.e i x hx 0 (by omega)).r.shape
      obtain ⟨A1, k1, e1, h11, h12, _⟩ := (HC.out.nt.e i x hx 1 (by omega)).r.shape
      obtain ⟨A2, k2, e2, h21, h22, _⟩ := (HC.out.nt.e i x hx 2 (by omega)).r.shape
      obtain ⟨n0, hn0⟩ : ∃ n, n = ecn x.nd 0 := ⟨_, rfl⟩
      obtain ⟨n1, hn1⟩ : ∃ n, n = ecn x.nd 1 := ⟨_, rfl⟩
      obtain ⟨n2, hn2⟩ : ∃ n, n = ecn x.nd 2 := ⟨_, rfl⟩
      rw [← hn0] at e0 h01
      rw [← hn1] at e1 h11
      rw [← hn2] at e2 h21
      have z0 := hcells i x hx 2 (.slice A0 n0 k0) (by rw [← e0]; rfl)
      have z1 := hcells i x hx 3 (.slice A1 n1 k1) (by rw [← e1]; rfl)
      have z2 := hcells i x hx 4 (.slice A2 n2 k2) (by rw [← e2]; rfl)
      have f0 := hfree (i * 7 + 2)
      have f1 := hfree (i * 7 + 3)
      have f2 := hfree (i * 7 + 4)
      have CL0 := Lib.hid (fun w => clip_str (A := A0) (N := n0) (c := k0) w h01 h02)
      have CL1 := Lib.hid (fun w => clip_span (A := A1) (N := n1) (c := k1) w h11 h12)
      have CL2 := Lib.hid (fun w => clip_int (A := A2) (N := n2) (c := k2) w h21 h22)
      have HXS := Lib.hid hx
      have HGB := Lib.hid hgb
      have E0 := Lib.hid e0
      have E1 := Lib.hid e1
      have E2 := Lib.hid e2
      clear hcells hfree h01 h02 h11 h12 h21 h22 hn0 hn1 hn2 hx e0 e1 e2 et hgb
      go_upto_region 5 with fail
      go_region_with (first
        | (go_at_call 49; refine (CL0.out _).mono ?_; rintro e w' ⟨rfl, rfl⟩)
        | (go_at_call 50; refine (CL1.out _).mono ?_; rintro e w' ⟨rfl, rfl⟩)
        | (go_at_call 51; refine (CL2.out _).mono ?_; rintro e w' ⟨rfl, rfl⟩))
      all_goals
        obtain ⟨X8, hX8, h8⟩ := HC.out.clip3 HXS.out HGB.out E0.out E1.out E2.out
        have H8 := Lib.hid h8
        have HX8 := Lib.hid (hX8.trans HL.out)
        clear h8 hX8 z0 z1 z2 f0 f1 f2 c0
        obtain ⟨w8, hw8⟩ : ∃ w8, w8 = (((wr.setCell ⟨g, i * 7 + 2, none⟩ (.slice A0 n0 n0)).setCell ⟨g, i * 7 + 3, none⟩ (.slice A1 n1 n1)).setCell ⟨g, i * 7 + 4, none⟩ (.slice A2 n2 n2)).drew := ⟨_, rfl⟩
        rw [← hw8] at H8 ⊢
        clear hw8
        go_wp2_with fail
        go_roundw
        case rel => exact ⟨i + 1, X8, by go_num, by omega, HX8, H8⟩
        case measure => simp [intOf]; omega
    · obtain rfl : i = n := by omega
      go_wp2_with fail
      refine bodyPost_end (results_none rfl _ _ _) rfl ?_
      exact ⟨rfl, _, HC.out⟩
end
end Tv
end Go.Proofs.YtbeefjhcbphiaaaGreatDoor
/- What landed: Read, round what tells of strings, keys and tokens. -/
namespace Go.Proofs.YtbeefjhcbphiaaaGreatDoor
open Go.RowKit
namespace Tv
open Ty (WR1 KR Ky Bs blK endP endP_on endP_no endP_far)

/-- A tree to read: its row of nodes, and theirs, above a place. -/
structure TreeM (w : World) (base : Nat) (A : Option Addr) (n : Nat) (X : List Nx) : Prop where
  len : X.length = n
  row : Rr w base 42 7 (.slice A n n) n (ndL X)
  e : ∀ (i : Nat) (x : Nx), X[i]? = some x → ∀ j, j < 3 → Rr w base (ety j) (esz j) (x.v j) (ecn x.nd j) (ecs x.nd j)
/-- What Read leaves. -/
def RdP (w : World) (r : Rs) (e : Ending) (w' : World) : Prop := Below w.heap.size w w' ∧ match r with
  | .ok s => ∃ (A : Option Addr) (n : Nat) (X : List Nx), e = .returned (.tuple #[.agg #[.slice A n n, .int .i64 0], .int .i64 (s.a : Nat), .agg #[.int .i64 0, .int .i64 0]]) ∧ TreeM w' w.heap.size A n X ∧ X.map Nx.nd = s.X ∧ s.X.length ≤ s.a
  | .bad c a => e = .returned (.tuple #[.agg #[.slice none 0 0, .int .i64 0], .int .i64 0, .agg #[.int .i64 (c : Nat), .int .i64 (a : Nat)]])
  | .out => False
theorem CP.tree {W w : World} {B P M : Nat} {S : ByteArray} {s : St} {tv : Value} {lab : Nat → Own} {X : List Nx} (h : CP W w B P M S s tv lab X) (hB : B ≤ W.heap.size) : ∃ A n, clipV tv = .slice A n n ∧ TreeM w B A n X := by
  obtain ⟨A, c, et, _⟩ := (Rr.of_own h.nt.row).shape
  refine ⟨A, X.length, by rw [et]; rfl, rfl, ?_, fun i x hx j hj => ?_⟩
  · have h1 := (Rr.of_own h.nt.row).clip
    rw [et] at h1
    have h2 : Rr w W.heap.size 42 7 (.slice A X.length X.length) X.length (ndL X) := h1
    exact ⟨h2.1, h2.2.imp id fun ⟨g, cap, cur, e, hb, r⟩ => ⟨g, cap, cur, e, Nat.le_trans hB hb, r⟩⟩
  · have h2 := (h.nt.e i x hx j hj).r
    exact ⟨h2.1, h2.2.imp id fun ⟨g, cap, cur, e, hb, r⟩ => ⟨g, cap, cur, e, Nat.le_trans hB hb, r⟩⟩
theorem TreeM.on {w w' : World} {base : Nat} {A : Option Addr} {n : Nat} {X : List Nx} (h : TreeM w base A n X) (hb : Below w.heap.size w w') : TreeM w' base A n X :=
  ⟨h.len, h.row.keep fun k hk => hb.block k (h.row.lt k hk).2, fun i x hx j hj => (h.e i x hx j hj).keep fun k hk => hb.block k ((h.e i x hx j hj).lt k hk).2⟩
theorem TreeM.keep2 {w w' : World} {base base' : Nat} {A : Option Addr} {n : Nat} {X : List Nx} (h : TreeM w base A n X) (hb : base' ≤ base) (hk : ∀ k, base ≤ k → w'.heap[k]? = w.heap[k]?) : TreeM w' base' A n X := by
  have lo : ∀ {e : TypeId} {size : Nat} {v : Value} {m : Nat} {xs : List Value}, Rr w base e size v m xs → Rr w' base' e size v m xs := fun h => by
    have h2 := h.keep fun k hk2 => hk k (h.lt k hk2).1
    exact ⟨h2.1, h2.2.imp id fun ⟨g, cap, cur, e, hb2, r⟩ => ⟨g, cap, cur, e, Nat.le_trans hb hb2, r⟩⟩
  exact ⟨h.len, lo h.row, fun i x hx j hj => lo (h.e i x hx j hj)⟩
theorem k4 {W : World} {n k : Nat} (u v x y : Value) (hk : n + 2 ≤ k) : ((((W.setCell ⟨n, 0, none⟩ u).setCell ⟨n, 1, none⟩ v).setCell ⟨n + 1, 0, none⟩ x).setCell ⟨n + 1, 1, none⟩ y).heap[k]? = W.heap[k]? := by
  rw [heap_setCell_other _ _ _ _ (show k ≠ n + 1 by omega), heap_setCell_other _ _ _ _ (show k ≠ n + 1 by omega), heap_setCell_other _ _ _ _ (show k ≠ n by omega), heap_setCell_other _ _ _ _ (show k ≠ n by omega)]
abbrev trO : Obj := .cells #[.slice none 0 0, .int .i64 0] 25
theorem EnvC.up {w W : World} {B : Nat} {E : Env} {S : ByteArray} (H : EnvC w w.heap.size E S) (hb : Below w.heap.size w W) (hB : w.heap.size ≤ B) : EnvC W B E S :=
  ⟨H.hs, H.hl, fun p h1 h2 wx hx => H.str p h1 h2 wx (hb.trans (hx.mono hB)), H.strOk, H.strBad, fun p h1 wx hx => H.key p h1 wx (hb.trans (hx.mono hB)), H.keyOk, H.keyOut, H.keyBad, fun p h1 wx hx => H.tok p h1 wx (hb.trans (hx.mono hB)), H.tokOk⟩
/-- The result's cells. -/
structure RC (w W : World) : Prop where
  below : Below w.heap.size w W
  t : W.heap[w.heap.size]? = some trO
  f : W.heap[w.heap.size + 1]? = some ftO
theorem RC.start (w : World) : RC w ((w.alloc trO).alloc ftO) :=
  ⟨bal (bal (Below.refl _ _) _) _, (World.grownBy_alloc _ ftO none).block _ (by rw [alloc_size]; omega) (by simp) |>.trans (heap_alloc_new _ _), by rw [← alloc_size w trO]; exact heap_alloc_new _ _⟩
theorem RC.on {w W W' : World} {B : Nat} (h : RC w W) (hB : w.heap.size + 2 ≤ B) (hb : Below B W W') : RC w W' := ⟨h.below.trans (hb.mono (by omega)), (hb.block _ (by omega)).trans h.t, (hb.block _ (by omega)).trans h.f⟩
theorem RC.cells {w W : World} (h : RC w W) : (W.cell? ⟨w.heap.size, 0, none⟩ = some (.slice none 0 0) ∧ W.cell? ⟨w.heap.size, 1, none⟩ = some (.int .i64 0) ∧ W.cell? ⟨w.heap.size + 1, 0, none⟩ = some (.int .i64 0) ∧ W.cell? ⟨w.heap.size + 1, 1, none⟩ = some (.int .i64 0)) ∧
    W.frozen? ⟨w.heap.size, 0, none⟩ = false ∧ W.frozen? ⟨w.heap.size, 1, none⟩ = false ∧ W.frozen? ⟨w.heap.size + 1, 0, none⟩ = false ∧ W.frozen? ⟨w.heap.size + 1, 1, none⟩ = false := by
  have h1 := h.t
  have h2 := h.f
  refine ⟨⟨?_, ?_, ?_, ?_⟩, ?_, ?_, ?_, ?_⟩ <;> simp [World.cell?, World.frozen?, h1, h2]
theorem b4 {w W : World} (h : Below w.heap.size w W) (u v x y : Value) : Below w.heap.size w ((((W.setCell ⟨w.heap.size, 0, none⟩ u).setCell ⟨w.heap.size, 1, none⟩ v).setCell ⟨w.heap.size + 1, 0, none⟩ x).setCell ⟨w.heap.size + 1, 1, none⟩ y) :=
  (((h.setCell (Nat.le_refl _) _).setCell (Nat.le_refl _) _).setCell (Nat.le_succ _) _).setCell (Nat.le_succ _) _
set_option maxHeartbeats 16000000 in
set_option maxRecDepth 100000 in
theorem Read_out {S : ByteArray} {a ar : Int} (w : World) (hs : S.size ≤ 50000) (ha : a < 0 ∨ (S.size : Int) < a) :
    Calls Tryz.prog 9 #[.string S, .int .i64 a, .int .i64 ar] w (RdP w (.bad 3 0)) := by
  have HRC := Lib.hid (RC.start w)
  obtain ⟨W, hW⟩ : ∃ W, W = (w.alloc trO).alloc ftO := ⟨_, rfl⟩
  rw [← hW] at HRC
  obtain ⟨⟨c0, c1, c2, c3⟩, f0, f1, f2, f3⟩ := HRC.out.cells
  rcases ha with ha | ha
  · have g1 : a < 0 := ha
    clear ha
    go_enter Tryz.func9, Tryz.ntmps9
    go_upto_region 1 with fail
    rw [← hW]
    clear hW
    go_wp2_with fail
    refine bodyPost_ret (v := .tuple #[.agg #[.slice none 0 0, .int .i64 0], .int .i64 0, .agg #[.int .i64 3, .int .i64 0]]) (by simp [results, Tryz.results9, go_sem, *]) rfl ?_
    exact ⟨b4 HRC.out.below _ _ _ _, rfl⟩
  · have g1 : ¬ a < 0 := by omega
    have g2 : (S.size : Int) < a := ha
    clear ha
    go_enter Tryz.func9, Tryz.ntmps9
    go_upto_region 1 with fail
    rw [← hW]
    clear hW
    go_wp2_with fail
    refine bodyPost_ret (v := .tuple #[.agg #[.slice none 0 0, .int .i64 0], .int .i64 0, .agg #[.int .i64 3, .int .i64 0]]) (by simp [results, Tryz.results9, go_sem, *]) rfl ?_
    exact ⟨b4 HRC.out.below _ _ _ _, rfl⟩
theorem mkMap (w : World) : (Instr.makeMap 65 none).run Tryz.prog w = .ok (.map (some w.heap.size)) (w.alloc (.map #[] 0)) := by kernel_rfl
/-- The reader, made. -/
theorem VP.start {w W : World} {S : ByteArray} {a : Nat} (_h : RC w W) (hsz : W.heap.size = w.heap.size + 2) :
    VP [] ((W.alloc (.map #[] 0)).alloc (rdO (.slice none 0 0) S a W.heap.size 0 0)) ((W.alloc (.map #[] 0)).alloc (rdO (.slice none 0 0) S a W.heap.size 0 0)) W.heap.size (W.heap.size + 1) W.heap.size S ⟨a, [], []⟩ (.slice none 0 0) 0 0 (fun _ => .no) [] 0 0 := by
  have hs : ((W.alloc (.map #[] 0)).alloc (rdO (.slice none 0 0) S a W.heap.size 0 0)).heap.size = W.heap.size + 2 := by rw [alloc_size, alloc_size]
  refine ⟨by rw [← alloc_size W (.map #[] 0)]; exact heap_alloc_new _ _, NT.start, rfl, ?_, fun _ _ _ _ => rfl, Below.refl _ _, ⟨Nat.le_succ _, by omega, Nat.le_refl _, by omega, by omega⟩, OkS.start a, fun x hx => (by cases hx), fun q hq => (by cases hq)⟩
  exact (World.ownsMap_made W Tryz.prog 196 (plainElem Tryz.prog 3)).alloc _
set_option maxHeartbeats 16000000 in
set_option maxRecDepth 100000 in
theorem Read_in {E : Env} {S : ByteArray} {a N : Nat} {y1 y2 : Int} (w : World) (H : EnvC w w.heap.size E S) (ha : a ≤ E.l.length) (hy1 : y1 = a) (hN : max y2 0 = (N : Int)) :
    Calls Tryz.prog 9 #[.string S, .int .i64 y1, .int .i64 y2] w (RdP w (val E (2 * E.l.length + 1) ⟨a, [], []⟩ N)) := by
  subst hy1
  have HRC := Lib.hid (RC.start w)
  obtain ⟨W, hW⟩ : ∃ W, W = (w.alloc trO).alloc ftO := ⟨_, rfl⟩
  rw [← hW] at HRC
  have hWs : W.heap.size = w.heap.size + 2 := by rw [hW, alloc_size, alloc_size]
  have hps : (a : Int) ≤ S.size := by rw [H.hs, txt_size]; omega
  have hs5 : S.size ≤ 50000 := by rw [H.hs, txt_size]; exact H.hl
  have hal : a ≤ 50000 := by have := H.hl; omega
  obtain ⟨W1, hW1⟩ : ∃ W1, W1 = (W.alloc (.map #[] 0)).alloc (rdO (.slice none 0 0) S a W.heap.size 0 0) := ⟨_, rfl⟩
  have hv := VP.start (S := S) (a := a) HRC.out hWs
  rw [← hW1] at hv
  have hbW : Below W.heap.size W W1 := by rw [hW1]; exact bal (bal (Below.refl _ _) _) _
  have HE := Lib.hid (H.up (W := W1) (B := W.heap.size) (HRC.out.below.trans (hbW.mono (by omega))) (by omega))
  obtain ⟨R, hR⟩ : ∃ R, R = val E (2 * E.l.length + 1) ⟨a, [], []⟩ N := ⟨_, rfl⟩
  have HVAL := Lib.hid (value_any HE.out (2 * E.l.length + 1) [] W1 ⟨a, [], []⟩ _ _ _ 0 0 N (Nat.zero_le _) (Nat.zero_le _) ha (by show 2 * (E.l.length - a) + 1 ≤ _; omega) hv)
  rw [← hR] at HVAL ⊢
  have HLL := Lib.hid (And.intro H.hl ha)
  have HW1 := Lib.hid (HRC.out.on (by omega) hbW)
  have hmk := mkMap W
  have HW2 := Lib.hid (show ((W.alloc (.map #[] 0)).alloc (.cells #[.slice none 0 0, .int .i64 0, .string S, .int .i64 (a : Nat), .map (some W.heap.size), .int .i64 0, .int .i64 0] 67)) = W1 by rw [hW1]; rfl)
  have HW1S := Lib.hid (show W1.heap.size = w.heap.size + 4 by rw [hW1, alloc_size, alloc_size, hWs])
  have HWS := Lib.hid hWs
  have g1 : ¬ ((a : Nat) : Int) < 0 := by omega
  have g2 : ¬ (S.size : Int) < (a : Nat) := by omega
  clear H hv hbW ha hR hW1 hWs hps
  go_enter Tryz.func9, Tryz.ntmps9
  go_upto_region 1 with fail
  rw [← hW]
  clear hW
  go_upto_region 4 with fail
  rw [HW2.out]
  clear HW2 hmk
  go_wp2_with fail
  refine HVAL.out.mono ?_
  intro e w2 hvo
  cases R with
  | out => exact absurd hvo (by unfold VOut; exact fun h => h)
  | bad c k =>
    obtain ⟨rfl, s', tv', lab', X', p', b', V⟩ := hvo
    have hrc := HW1.out.on (B := W.heap.size) (by have := HWS.out; omega) V.below
    obtain ⟨⟨c0, c1, c2, c3⟩, f0, f1, f2, f3⟩ := hrc.cells
    obtain ⟨_, _, _, _, _, c5, c6⟩ := V.cells
    have HRC2 := Lib.hid hrc
    clear V hrc
    go_wp2_with fail
    go_upto_region 5 with fail
    go_region
    all_goals
      go_wp2_with fail
      refine bodyPost_ret (v := .tuple #[.agg #[.slice none 0 0, .int .i64 0], .int .i64 0, .agg #[.int .i64 (c : Nat), .int .i64 (k : Nat)]]) (by simp [results, Tryz.results9, go_sem, *]) rfl ?_
      refine ⟨?_, rfl⟩
      first
      | exact b4 HRC2.out.below _ _ _ _
      | exact (b4 HRC2.out.below _ _ _ _).drew
      | exact b4 HRC2.out.below.drew _ _ _ _
  | ok s' =>
    obtain ⟨rfl, ⟨tv', lab', X', V⟩, h5, h6⟩ := hvo
    have HCL := Lib.hid (clip_any V (by have := HLL.out; omega))
    have HXA := Lib.hid V.ok.len
    have hsa : s'.a ≤ 50000 := by have := HLL.out; omega
    clear V h5 h6
    go_wp2_with fail
    refine HCL.out.mono ?_
    rintro e w3 ⟨rfl, X3, C⟩
    obtain ⟨A, n, hcv, hT⟩ := C.tree (by have := C.lt; omega)
    have hrc := HW1.out.on (B := W.heap.size) (by have := HWS.out; omega) C.below
    obtain ⟨⟨c0, c1, c2, c3⟩, f0, f1, f2, f3⟩ := hrc.cells
    have ho := C.obj
    rw [hcv] at ho
    have q0 : w3.cell? ⟨W.heap.size + 1, 0, none⟩ = some (.slice A n n) := by simp [World.cell?, ho]
    have q1 : w3.cell? ⟨W.heap.size + 1, 1, none⟩ = some (.int .i64 0) := by simp [World.cell?, ho]
    have q3 : w3.cell? ⟨W.heap.size + 1, 3, none⟩ = some (.int .i64 (s'.a : Nat)) := by simp [World.cell?, ho]
    have HRC2 := Lib.hid hrc
    have HT := Lib.hid hT
    have HND := Lib.hid C.nds
    clear C hcv hT hrc ho
    go_wp2_with fail
    go_upto_region 7 with fail
    go_region
    all_goals
      go_wp2_with fail
      refine bodyPost_ret (v := .tuple #[.agg #[.slice A n n, .int .i64 0], .int .i64 (s'.a : Nat), .agg #[.int .i64 0, .int .i64 0]]) (by simp [results, Tryz.results9, go_sem, *]) rfl ?_
      refine ⟨?_, A, n, X3, rfl, ?_, HND.out, HXA.out⟩
      · first
        | exact b4 HRC2.out.below _ _ _ _
        | exact (b4 HRC2.out.below _ _ _ _).drew
        | exact b4 HRC2.out.below.drew _ _ _ _
      · refine HT.out.keep2 (by have := HWS.out; omega) fun k hk => ?_
        exact k4 _ _ _ _ (by have := HWS.out; omega)
end Tv
end Go.Proofs.YtbeefjhcbphiaaaGreatDoor
/- Texts without escapes: what tells of their strings, keys and tokens. -/
namespace Go.Proofs.YtbeefjhcbphiaaaGreatDoor
open Go.RowKit
namespace Tv
open Ty (WR1 KR Ky Bs blK plK endP endP_on endP_no endP_far krun nxt endP_ge endP_le)

/-- No escape, no literal string, no long one. -/
structure Simple (l : Bs) : Prop where
  nb : (92 : UInt8) ∉ l
  nq : (39 : UInt8) ∉ l
  n3 : ∀ p, hasP (l.drop p) [34, 34, 34] = false
theorem rs_bd : ∀ (m : Bs), (92 : UInt8) ∉ m → ∀ t k, Tq.rs 34 false m = .ok t k → 0 < k ∧ k ≤ m.length ∧ t.length ≤ m.length
  | [], _, t, k, h => by rw [Tq.rs_stop (r := .bad 0) rfl] at h; cases h
  | c :: r, hn, t, k, h => by
    have hc : c ≠ 92 := fun e => hn (by rw [e]; exact List.mem_cons_self ..)
    have hr : (92 : UInt8) ∉ r := fun e => hn (List.mem_cons_of_mem _ e)
    by_cases h1 : c = 34
    · have hst : Tq.st 34 false (c :: r) = .stop (.ok [] 1) := by rw [Tq.st, if_pos h1, if_neg (by decide)]
      rw [Tq.rs_stop hst] at h
      injection h with h2 h3
      subst h2; subst h3
      exact ⟨by omega, by simp, by simp⟩
    · by_cases h2 : Tq.pl c = true
      · have hst : Tq.st 34 false (c :: r) = .go 1 [c] := by rw [Tq.st, if_neg h1, if_neg (fun e => hc e.1), if_neg (fun e => absurd e.1 (by decide)), if_pos h2]
        rw [Tq.rs_go hst (by omega) (by simp)] at h
        cases hr2 : Tq.rs 34 false ((c :: r).drop 1) with
        | bad j => rw [hr2] at h; cases h
        | ok u j =>
          rw [hr2] at h
          injection h with h3 h4
          obtain ⟨i1, i2, i3⟩ := rs_bd r hr u j hr2
          subst h3; subst h4
          refine ⟨by omega, ?_, ?_⟩ <;> simp <;> omega
      · have hst : Tq.st 34 false (c :: r) = .stop (.bad 0) := by rw [Tq.st, if_neg h1, if_neg (fun e => hc e.1), if_neg (fun e => absurd e.1 (by decide)), if_neg h2]
        rw [Tq.rs_stop hst] at h; cases h
def sdF (l : Bs) (p : Nat) : WR1 := match Tq.rd (l.drop p) with
  | .ok t k => .ok t (p + k)
  | .bad k => .bad 3 (p + k)
def wdF (l : Bs) (p : Nat) : WR1 := if p < endP plK l p then .ok ((l.take (endP plK l p)).drop p) (endP plK l p) else sdF l p
def envF (l : Bs) : Env := ⟨l, sdF l, fun p => krun (wdF l) l (l.length + 1) p [], fun p => tellB (l.drop p)⟩
theorem sdF_val (l : Bs) (p : Nat) : Ty.wrv (sdF l p) = rvl p (Tq.rd (l.drop p)) := by
  unfold sdF
  cases Tq.rd (l.drop p) <;> rfl
section
variable {l : Bs} {p : Nat}
theorem Simple.no39 (h : Simple l) (p : Nat) : hasP (l.drop p) [39] = false := by
  rw [has1 (by decide)]
  refine decide_eq_false fun e => h.nq ?_
  have hl := bt_in e (by decide)
  unfold bt at e
  rw [List.getD_eq_getElem?_getD, List.getElem?_eq_getElem hl] at e
  have e2 : l[p] = 39 := UInt8.toNat_inj.1 (Int.ofNat.inj e)
  rw [← e2]; exact List.getElem_mem hl
theorem Simple.no393 (h : Simple l) (p : Nat) : hasP (l.drop p) [39, 39, 39] = false := by
  have h1 := h.no39 p
  unfold hasP at h1 ⊢
  have h1 := of_decide_eq_false h1
  refine decide_eq_false fun e => h1 ?_
  match hd : l.drop p with
  | [] => rw [hd] at e; simp at e
  | a :: r => rw [hd] at e; simp at e; simp [e.1]
theorem Simple.no92 (h : Simple l) (k : Nat) : Go.Proofs.YtbeefjhcbphiaaaGreatDoor.tkC l k 92 = false := by
  unfold Go.Proofs.YtbeefjhcbphiaaaGreatDoor.tkC
  refine decide_eq_false fun e => h.nb ?_
  obtain ⟨hl, e⟩ := e
  unfold bt at e
  rw [List.getD_eq_getElem?_getD, List.getElem?_eq_getElem hl] at e
  have e2 : l[k] = 92 := UInt8.toNat_inj.1 (Int.ofNat.inj e)
  rw [← e2]; exact List.getElem_mem hl
theorem sdF_ok (h : Simple l) (_hp : p ≤ l.length) {t : Bs} {e : Nat} (hs : sdF l p = .ok t e) : p < e ∧ e ≤ l.length ∧ t.length ≤ l.length := by
  unfold sdF at hs
  cases h34 : hasP (l.drop p) [34] with
  | false => rw [rd_none h34 (h.no39 p)] at hs; cases hs
  | true =>
    rw [rd_short (.inl rfl) (h.n3 p) h34] at hs
    have hlt := tkC_lt (hasP_at (q := 34) h34)
    cases hr : Tq.rs 34 false (l.drop (p + 1)) with
    | bad k => rw [hr] at hs; cases hs
    | ok u k =>
      rw [hr] at hs
      obtain ⟨i1, i2, i3⟩ := rs_bd _ (fun hm => h.nb (List.mem_of_mem_drop hm)) u k hr
      rw [List.length_drop] at i2 i3
      have e1 : Tq.R.pre 1 [] (.ok u k) = .ok ([] ++ u) (1 + k) := rfl
      rw [e1] at hs
      injection hs with h3 h4
      subst h3; subst h4
      refine ⟨by omega, by omega, by simp; omega⟩
theorem sdF_bad {c a : Nat} (hs : sdF l p = .bad c a) : c = 3 := by
  unfold sdF at hs
  split at hs
  · cases hs
  · injection hs with h1 _; exact h1.symm
theorem wdF_ok (h : Simple l) (hp : p ≤ l.length) {t : Bs} {e : Nat} (hs : wdF l p = .ok t e) : p < e ∧ e ≤ l.length ∧ t.length ≤ l.length := by
  unfold wdF at hs
  split at hs
  · rename_i hlt
    injection hs with h1 h2
    have := endP_le plK l p hp
    subst h1; subst h2
    exact ⟨hlt, this, by rw [List.length_drop, List.length_take]; omega⟩
  · exact sdF_ok h hp hs
theorem wdF_bad {c a : Nat} (hs : wdF l p = .bad c a) : c = 3 := by
  unfold wdF at hs
  split at hs
  · cases hs
  · exact sdF_bad hs
theorem nxt_le {e q : Nat} (_he : e ≤ l.length) (h : nxt l e = some q) : e < q ∧ q ≤ l.length := by
  unfold nxt at h
  split at h
  · rename_i h1
    injection h with h
    have h2 := endP_ge blK l e
    have h3 := endP_ge blK l (endP blK l e + 1)
    have h4 := endP_le blK l (endP blK l e + 1) (by omega)
    omega
  · cases h
theorem krun_ok (h : Simple l) : ∀ (f p : Nat) (k0 : Ky), p ≤ l.length → (∀ x ∈ k0, x.1.length ≤ l.length) → ∀ k e, krun (wdF l) l f p k0 = .ok k e → k ≠ [] ∧ p + k.length ≤ e + k0.length ∧ e ≤ l.length ∧ ∀ x ∈ k, x.1.length ≤ l.length
  | 0, _, _, _, _, k, e, hr => by cases hr
  | f + 1, p, k0, hp, hk0, k, e, hr => by
    unfold krun at hr
    cases hw : wdF l p with
    | bad c a => rw [hw] at hr; cases hr
    | ok t e1 =>
      rw [hw] at hr
      obtain ⟨h1, h2, h3⟩ := wdF_ok h hp hw
      have hk1 : ∀ x ∈ k0 ++ [(t, (p, e1))], x.1.length ≤ l.length := fun x hx => by
        rcases List.mem_append.1 hx with h4 | h4
        · exact hk0 x h4
        · obtain rfl : x = (t, (p, e1)) := by simpa using h4
          exact h3
      cases hn : nxt l e1 with
      | none =>
        simp only [hn] at hr
        injection hr with h4 h5
        subst h4; subst h5
        exact ⟨by simp, by simp; omega, h2, hk1⟩
      | some q =>
        simp only [hn] at hr
        obtain ⟨h4, h5⟩ := nxt_le h2 hn
        obtain ⟨i1, i2, i3, i4⟩ := krun_ok h f q _ h5 hk1 k e hr
        refine ⟨i1, ?_, i3, i4⟩
        rw [List.length_append] at i2
        simp at i2; omega
theorem krun_out (h : Simple l) : ∀ (f p : Nat) (k0 : Ky), p ≤ l.length → l.length + 1 ≤ f + p → krun (wdF l) l f p k0 ≠ .out
  | 0, p, _, hp, hf, _ => by omega
  | f + 1, p, k0, hp, hf, hr => by
    unfold krun at hr
    cases hw : wdF l p with
    | bad c a => rw [hw] at hr; cases hr
    | ok t e1 =>
      rw [hw] at hr
      obtain ⟨h1, h2, _⟩ := wdF_ok h hp hw
      cases hn : nxt l e1 with
      | none => simp only [hn] at hr; cases hr
      | some q =>
        simp only [hn] at hr
        obtain ⟨h4, h5⟩ := nxt_le h2 hn
        exact krun_out h f q _ h5 (by omega) hr
theorem krun_bad (h : Simple l) : ∀ (f p : Nat) (k0 : Ky), ∀ c a, krun (wdF l) l f p k0 = .bad c a → c = 3
  | 0, _, _, c, a, hr => by cases hr
  | f + 1, p, k0, c, a, hr => by
    unfold krun at hr
    cases hw : wdF l p with
    | bad c' a' =>
      rw [hw] at hr
      injection hr with h1 _
      rw [← h1]; exact wdF_bad hw
    | ok t e1 =>
      rw [hw] at hr
      cases hn : nxt l e1 with
      | none => simp only [hn] at hr; cases hr
      | some q =>
        simp only [hn] at hr
        exact krun_bad h f q _ c a hr
theorem tread_s (w : World) (h : Simple l) {s : ByteArray} (hs : s = txt l) (hl : l.length ≤ 50000) (hp : p ≤ l.length) :
    Calls Tryz.prog 101 #[.string s, .int .i64 p] w fun e w' => e = .returned (Ty.wrv (sdF l p)) ∧ Below w.heap.size w w' := by
  rw [sdF_val]
  cases h34 : hasP (l.drop p) [34] with
  | true => exact tread_ba w hs (by omega) hp (h.n3 p) (h.no393 p) h34 (fun k hk => absurd hk (by rw [h.no92 k]; decide)) rfl
  | false =>
    rw [rd_none h34 (h.no39 p)]
    exact Ty.tread_none w hs (by omega) hp (h.n3 p) (h.no393 p) h34 (h.no39 p)
theorem word_s (w : World) (h : Simple l) {s : ByteArray} (hs : s = txt l) (hl : l.length ≤ 50000) (hp : p ≤ l.length) :
    Calls Tryz.prog 138 #[.string s, .int .i64 p] w fun e w' => e = .returned (Ty.wrv (wdF l p)) ∧ Below w.heap.size w w' := by
  unfold wdF
  split
  · rename_i hlt
    exact Ty.word_bare w hs (by omega) hp rfl hlt (endP_le plK l p hp) rfl
  · rename_i hlt
    have he : endP plK l p = p := by have := endP_ge plK l p; omega
    have hL : ∀ w, Calls Tryz.prog 148 #[.string s, .int .i64 p] w fun e w' => e = .returned (.bool false) ∧ Below w.heap.size w w' := fun w => by
      cases h34 : hasP (l.drop p) [34] with
      | true => exact Ty.tlong_ba w hs (by omega) hp (h.n3 p) (h.no393 p) h34
      | false => exact Ty.tlong_none w hs (by omega) hp (h.n3 p) (h.no393 p) h34 (h.no39 p)
    obtain ⟨t, k, c, a, hv⟩ : ∃ (t : ByteArray) (k c a : Int), Ty.wrv (sdF l p) = .tuple #[.string t, .int .i64 k, .agg #[.int .i64 c, .int .i64 a]] := by
      cases sdF l p with
      | ok t e => exact ⟨_, _, _, _, rfl⟩
      | bad c a => exact ⟨_, _, _, _, rfl⟩
    rw [hv]
    exact Ty.word_not w hs (by omega) hp he hL fun w1 _ => by rw [← hv]; exact tread_s w1 h hs hl hp
theorem key_s (w : World) (h : Simple l) {s : ByteArray} (hs : s = txt l) (hl : l.length ≤ 50000) (hp : p ≤ l.length) :
    Calls Tryz.prog 130 #[.string s, .int .i64 p] w (Ty.KPost w (krun (wdF l) l (l.length + 1) p [])) :=
  Ty.kread_any (l := l) (wd := wdF l) (V := fun p => p ≤ l.length) hs (by omega) (fun p hp wx _ => word_s wx h hs hl hp)
    (fun p t e hp hw => by
      obtain ⟨h1, h2, _⟩ := wdF_ok h hp hw
      exact ⟨h1, h2, fun q hq => (nxt_le h2 hq).2⟩) (fun p hp => hp) (fun p c a _ hw => by rw [wdF_bad hw]; decide) hp rfl
theorem endP_pos {f : Int → Bool} {l : Bs} (h : 0 < endP f l 0) : 0 < l.length := by
  rcases Nat.eq_zero_or_pos l.length with h0 | h0
  · rw [endP_far (by omega)] at h; omega
  · exact h0
theorem tellB_many (m : Bs) : (tellB m).many ≤ m.length := by
  unfold tellB
  split
  · exact Da.en_le m
  · exact endP_le tkC m 0 (Nat.zero_le _)
theorem tokB_nil : (tokB []).2.2 = 3 := by decide +kernel
theorem tellB_pos (m : Bs) (h : (tellB m).code = 0) : 0 < (tellB m).many := by
  unfold tellB at h ⊢
  split
  · rename_i h1; exact h1
  · rename_i h1
    rw [if_neg h1] at h
    simp only at h ⊢
    rcases Nat.eq_zero_or_pos (endP tkC m 0) with h0 | h0
    · rw [h0, List.take_zero, tokB_nil] at h; cases h
    · exact h0
/-- A text without escapes tells so in each world above one in which the tables are known. -/
theorem env_s {w : World} (h : Simple l) {s : ByteArray} (hs : s = txt l) (hl : l.length ≤ 50000) (hT : Fl.AllT w) : EnvC w w.heap.size (envF l) s where
  hs := hs
  hl := hl
  str p hp _ wx _ := tread_s wx h hs hl hp
  strOk p t e hp ho := ⟨(sdF_ok h hp ho).1, (sdF_ok h hp ho).2.1⟩
  strBad p c a hb := by rw [sdF_bad hb]; decide
  key p hp wx _ := key_s wx h hs hl hp
  keyOk p k e hp ho := by
    obtain ⟨h1, h2, h3, h4⟩ := krun_ok h _ _ _ hp (fun x hx => (by cases hx)) k e ho
    exact ⟨h1, h2, h3, fun x hx => Nat.le_trans (h4 x hx) (by show l.length ≤ _; omega)⟩
  keyOut p hp := krun_out h _ _ _ hp (by omega)
  keyBad p c a hb := by rw [krun_bad h _ _ _ c a hb]; decide
  tok p _ wx hb := tell_is wx rfl (by show (l.drop p).length ≤ 50000; rw [List.length_drop]; omega) (hT.below hb)
  tokOk p hp := ⟨by have := tellB_many (l.drop p); rw [List.length_drop] at this; have hp : p ≤ l.length := hp; show p + (tellB (l.drop p)).many ≤ l.length; omega, tellB_pos _⟩
end
end Tv
end Go.Proofs.YtbeefjhcbphiaaaGreatDoor
/- The chapter's examples of values: what is read of them. -/
namespace Go.Proofs.YtbeefjhcbphiaaaGreatDoor
open Go.RowKit
namespace Tv
open Ty (WR1 KR Ky Bs blK endP)

def lA : Bs := [91, 49, 44, 32, 34, 97, 34, 44, 32, 93, 32, 35, 32, 120]
def lB : Bs := [123, 97, 46, 98, 32, 61, 32, 49, 44, 32, 97, 46, 99, 32, 61, 32, 50, 125]
def lC : Bs := [123, 97, 32, 61, 32, 49, 44, 32, 97, 32, 61, 32, 50, 125]
def lD : Bs := [123, 97, 32, 61, 32, 49, 44, 32, 125]
def lE : Bs := [48, 55]
def vl (l : Bs) : Rs := val (envF l) (2 * l.length + 1) ⟨0, [], []⟩ 0
def stO : Rs → St
  | .ok s => s
  | _ => ⟨0, [], []⟩
def nA : List Nd := [⟨7, [], [], [], [1, 2], (0, 10)⟩, ⟨4, [49], [], [], [], (1, 2)⟩, ⟨3, [97], [], [], [], (4, 7)⟩]
def nB : List Nd := [⟨8, [], [[97]], [(1, 2)], [1], (0, 18)⟩, ⟨8, [], [[98], [99]], [(3, 4), (12, 13)], [2, 3], (-1, -1)⟩, ⟨4, [49], [], [], [], (7, 8)⟩, ⟨4, [50], [], [], [], (16, 17)⟩]
theorem vA : vl lA = .ok ⟨10, nA, (stO (vl lA)).m⟩ := by decide +kernel
theorem vB : vl lB = .ok ⟨18, nB, (stO (vl lB)).m⟩ := by decide +kernel
theorem vC : vl lC = .bad 5 8 := by decide +kernel
theorem vD : vl lD = .bad 3 8 := by decide +kernel
theorem vE : vl lE = .bad 3 0 := by decide +kernel
/-- Simple, by trying. -/
theorem simple_of {l : Bs} (h1 : (92 : UInt8) ∉ l) (h2 : (39 : UInt8) ∉ l) (h3 : ∀ p, p < l.length → hasP (l.drop p) [34, 34, 34] = false) : Simple l :=
  ⟨h1, h2, fun p => by
    rcases Nat.lt_or_ge p l.length with h | h
    · exact h3 p h
    · rw [List.drop_eq_nil_of_le h]; rfl⟩
theorem sA : Simple lA := simple_of (by decide) (by decide) (by decide)
theorem sB : Simple lB := simple_of (by decide) (by decide) (by decide)
theorem sC : Simple lC := simple_of (by decide) (by decide) (by decide)
theorem sD : Simple lD := simple_of (by decide) (by decide) (by decide)
theorem sE : Simple lE := simple_of (by decide) (by decide) (by decide)
theorem lit_read {l : Bs} {r : Rs} {s : ByteArray} (w : World) (hT : Fl.AllT w) (h : Simple l) (hs : s = txt l) (hl : l.length ≤ 50000) (hr : vl l = r) :
    Calls Tryz.prog 9 #[.string s, .int .i64 0, .int .i64 0] w (RdP w r) := by
  rw [← hr]
  exact Read_in (N := 0) w (env_s h hs hl hT) (Nat.zero_le _) rfl rfl
/-- A literal, read. -/
theorem lit_ok {l : Bs} {a n : Nat} {X0 : List Nd} {m : Nm} {s : ByteArray} (w : World) (hT : Fl.AllT w) (h : Simple l) (hs : s = txt l) (hl : l.length ≤ 50000) (hr : vl l = .ok ⟨a, X0, m⟩) (hn : n = X0.length) {y : Int} (hy : y = a) :
    Calls Tryz.prog 9 #[.string s, .int .i64 0, .int .i64 0] w fun e w' => ∃ A X, e = .returned (.tuple #[.agg #[.slice A n n, .int .i64 0], .int .i64 y, .agg #[.int .i64 0, .int .i64 0]]) ∧ TreeM w' w.heap.size A n X ∧ X.map Nx.nd = X0 ∧ Below w.heap.size w w' := by
  refine (lit_read w hT h hs hl hr).mono ?_
  rintro e w' ⟨hb, A, k, X, he, ht, hx, _⟩
  obtain rfl : k = n := by rw [← ht.len, hn]; have := congrArg List.length hx; rwa [List.length_map] at this
  exact ⟨A, X, by rw [he, hy], ht, hx, hb⟩
end Tv
end Go.Proofs.YtbeefjhcbphiaaaGreatDoor
