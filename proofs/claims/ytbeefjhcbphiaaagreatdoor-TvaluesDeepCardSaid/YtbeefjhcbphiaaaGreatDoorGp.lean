/- The law's own questions of values: fails, root, scalar. -/
import Derived.Test.YtbeefjhcbphiaaaGreatDoorHw
import Derived.Deep.CutRange
import Derived.Test.YtbeefjhcbphiaaaGreatDoorHm
import Derived.BigQuiet
namespace Go.Proofs.YtbeefjhcbphiaaaGreatDoor
open Go.RowKit
namespace Tv
open Ty (WR1 KR Ky Bs blK endP)

/-- A row's cells. -/
theorem Rr.cells {w : World} {base : Nat} {e : TypeId} {size : Nat} {v : Value} {n : Nat} {xs : List Value} (h : Rr w base e size v n xs) (h0 : 0 < n) :
    ∃ g c, v = .slice (some ⟨g, 0, none⟩) n c ∧ base ≤ g ∧ g < w.heap.size ∧ n ≤ c ∧ c ≤ maxLen ∧ ∀ k u, xs[k]? = some u → w.cell? ⟨g, k, none⟩ = some u := by
  rcases h.2 with ⟨_, e⟩ | ⟨g, cap, cur, rfl, hb, hg, h1, h2, h3, h4⟩
  · omega
  · refine ⟨g, cap, rfl, hb, lt_blk hg, h1, h2, fun k u hu => ?_⟩
    rw [cell_of_row w g _ cur _ (0, 0) hg, ← Array.getElem?_toList]
    rw [← h4, List.getElem?_take] at hu
    split at hu
    · exact hu
    · cases hu
theorem TreeM.cells {w : World} {base : Nat} {A : Option Addr} {n : Nat} {X : List Nx} (h : TreeM w base A n X) (h0 : 0 < n) :
    ∃ g, A = some ⟨g, 0, none⟩ ∧ base ≤ g ∧ g < w.heap.size ∧ n ≤ maxLen ∧ ∀ i x, X[i]? = some x → ∀ r u, (ndC x)[r]? = some u → w.cell? ⟨g, i * 7 + r, none⟩ = some u := by
  obtain ⟨g, c, e, h1, h2, h3, h4, h5⟩ := h.row.cells h0
  injection e with e _ ec
  refine ⟨g, e, h1, h2, by omega, fun i x hx r u hu => h5 _ _ ?_⟩
  have hr : r < 7 := (List.getElem?_eq_some_iff.1 hu).1
  rw [ndL_at X i x r hx hr]; exact hu
theorem nd_in {X : List Nx} {nd : List Nd} (h : X.map Nx.nd = nd) {i : Nat} {n : Nd} (hi : nd[i]? = some n) : ∃ x, X[i]? = some x ∧ x.nd = n := by
  subst h
  rw [List.getElem?_map] at hi
  cases hx : X[i]? with
  | none => rw [hx] at hi; cases hi
  | some x => rw [hx] at hi; exact ⟨x, rfl, by injection hi⟩
/-- What a law keeps of an answer: the tree, the fault. -/
abbrev tgO (_sv : Value) (c a : Int) : Obj := .cells #[.int .i64 c, .int .i64 a] 28
abbrev trV (sv : Value) : Obj := .cells #[sv, .int .i64 0] 25
structure PB (w wx : World) (sv : Value) (c a : Int) : Prop where
  below : Below w.heap.size w wx
  t : wx.heap[w.heap.size]? = some (trV sv)
  f : wx.heap[w.heap.size + 1]? = some (tgO sv c a)
section
variable {w wx wy : World} {sv : Value} {c a : Int}
theorem PB.start : PB w ((w.alloc (trV sv)).alloc (tgO sv c a)) sv c a := by
  refine ⟨((Below.refl _ _).alloc (Nat.le_refl _) _).alloc (by rw [alloc_size]; omega) _, ?_, ?_⟩
  · show ((w.heap.push _).push _)[w.heap.size]? = _
    rw [Array.getElem?_push_lt (by simp)]; simp
  · show ((w.heap.push _).push _)[w.heap.size + 1]? = _
    rw [Array.getElem?_push, if_pos (by simp)]
theorem PB.on (H : PB w wx sv c a) (hb : Below wx.heap.size wx wy) : PB w wy sv c a :=
  ⟨below_tr H.below hb, by rw [hb.block _ (lt_blk H.t)]; exact H.t, by rw [hb.block _ (lt_blk H.f)]; exact H.f⟩
theorem PB.cells (H : PB w wx sv c a) : wx.cell? ⟨w.heap.size, 0, none⟩ = some sv ∧ wx.cell? ⟨w.heap.size, 1, none⟩ = some (.int .i64 0) ∧ wx.cell? ⟨w.heap.size + 1, 0, none⟩ = some (.int .i64 c) ∧ wx.cell? ⟨w.heap.size + 1, 1, none⟩ = some (.int .i64 a) := by
  simp [World.cell?, H.t, H.f]
end
set_option maxHeartbeats 4000000 in
set_option maxRecDepth 100000 in
theorem fails_of {s : ByteArray} {c k : Nat} {x y : Int} (w : World) (hC : Calls Tryz.prog 9 #[.string s, .int .i64 0, .int .i64 0] w (RdP w (.bad c k))) (hx : x = c) (hy : y = k) :
    Calls Tryz.prog 20 #[.string s, .int .i64 0, .int .i64 0, .int .i64 x, .int .i64 y] w fun e w' => e = .returned (.bool true) ∧ Below w.heap.size w w' := by
  subst hx hy
  have HC := Lib.hid hC
  clear hC
  go_enter Tryz.func20, Tryz.ntmps20
  go_wp2_with fail
  refine HC.out.mono ?_
  rintro e w1 ⟨hb1, rfl⟩
  have HB1 := Lib.hid hb1
  clear hb1
  go_upto_region 2 with fail
  have HP := Lib.hid (PB.start (w := w1) (sv := .slice none 0 0) (c := (c : Int)) (a := (k : Int)))
  obtain ⟨W, hW⟩ : ∃ W, W = (w1.alloc (trV (.slice none 0 0))).alloc (tgO (.slice none 0 0) c k) := ⟨_, rfl⟩
  rw [← hW] at HP ⊢
  obtain ⟨c0, c1, c2, c3⟩ := HP.out.cells
  have HBW := Lib.hid (below_tr HB1.out HP.out.below)
  clear hW
  go_wp2_with fail
  go_ret
  exact ⟨rfl, HBW.out⟩
/-- A node's value. -/
def ndV (x : Nx) : Value := .agg #[.int .u8 (x.nd.kind : Nat), .string (txt x.nd.text), x.v 0, x.v 1, x.v 2, .int .i64 x.nd.span.1, .int .i64 x.nd.span.2]
abbrev nd0 : Obj := .cells #[.int .u8 0, .string ⟨#[]⟩, .slice none 0 0, .slice none 0 0, .slice none 0 0, .int .i64 0, .int .i64 0] 42
end Tv
end Go.Proofs.YtbeefjhcbphiaaaGreatDoor
/- The law's own questions of values: root, scalar. -/
namespace Go.Proofs.YtbeefjhcbphiaaaGreatDoor
open Go.RowKit
namespace Tv
open Ty (WR1 KR Ky Bs blK endP)

/-- A node's seven cells, wherever it lies. -/
structure ND (w : World) (g o : Nat) (x : Nx) : Prop where
  lt : g < w.heap.size
  c0 : w.cell? ⟨g, o, none⟩ = some (.int .u8 (x.nd.kind : Nat))
  c1 : w.cell? ⟨g, o + 1, none⟩ = some (.string (txt x.nd.text))
  c2 : w.cell? ⟨g, o + 2, none⟩ = some (x.v 0)
  c3 : w.cell? ⟨g, o + 3, none⟩ = some (x.v 1)
  c4 : w.cell? ⟨g, o + 4, none⟩ = some (x.v 2)
  c5 : w.cell? ⟨g, o + 5, none⟩ = some (.int .i64 x.nd.span.1)
  c6 : w.cell? ⟨g, o + 6, none⟩ = some (.int .i64 x.nd.span.2)
  sh : ∀ j, j < 3 → ∃ A c, x.v j = .slice A (ecn x.nd j) c
theorem ND.on {w w' : World} {g o : Nat} {x : Nx} (h : ND w g o x) (hb : Below w.heap.size w w') : ND w' g o x :=
  have f : ∀ {k : Nat} {v : Value}, w.cell? ⟨g, k, none⟩ = some v → w'.cell? ⟨g, k, none⟩ = some v := fun hc => cell_old hb h.lt hc
  ⟨Nat.lt_of_lt_of_le h.lt hb.size, f h.c0, f h.c1, f h.c2, f h.c3, f h.c4, f h.c5, f h.c6, h.sh⟩
theorem TreeM.nd {w : World} {base : Nat} {A : Option Addr} {n : Nat} {X : List Nx} (h : TreeM w base A n X) (h0 : 0 < n) :
    ∃ g, A = some ⟨g, 0, none⟩ ∧ base ≤ g ∧ n ≤ maxLen ∧ ∀ i x, X[i]? = some x → ND w g (i * 7) x := by
  obtain ⟨g, e, h1, h2, h3, h4⟩ := h.cells h0
  exact ⟨g, e, h1, h3, fun i x hx => ⟨h2, h4 i x hx 0 _ rfl, h4 i x hx 1 _ rfl, h4 i x hx 2 _ rfl, h4 i x hx 3 _ rfl, h4 i x hx 4 _ rfl, h4 i x hx 5 _ rfl, h4 i x hx 6 _ rfl, fun j hj => by obtain ⟨B, c, e, _⟩ := (h.e i x hx j hj).shape; exact ⟨B, c, e⟩⟩⟩
set_option maxHeartbeats 8000000 in
set_option maxRecDepth 100000 in
theorem root_of {w : World} {g n : Nat} {x : Nx} {k : Nat} {y : Int} (h : ND w g 0 x) (h0 : 0 < n) (hn : n ≤ maxLen) (hk : x.nd.kind = k) (hy : y = k) :
    Calls Tryz.prog 17 #[.agg #[.slice (some ⟨g, 0, none⟩) n n, .int .i64 0], .int .u8 y] w fun e w' => e = .returned (ndV x) ∧ Below w.heap.size w w' := by
  subst hy
  obtain ⟨W, hW⟩ : ∃ W, W = (w.alloc (trV (.slice (some ⟨g, 0, none⟩) n n))).alloc nd0 := ⟨_, rfl⟩
  have hbW : Below w.heap.size w W := by rw [hW]; exact ((Below.refl _ _).alloc (Nat.le_refl _) _).alloc (by rw [alloc_size]; omega) _
  have hN := h.on hbW
  have ht : W.heap[w.heap.size]? = some (trV (.slice (some ⟨g, 0, none⟩) n n)) := by
    rw [hW]; show ((w.heap.push _).push _)[w.heap.size]? = _
    rw [Array.getElem?_push_lt (by simp)]; simp
  have hr : W.heap[w.heap.size + 1]? = some nd0 := by
    rw [hW]; show ((w.heap.push _).push _)[w.heap.size + 1]? = _
    rw [Array.getElem?_push, if_pos (by simp)]
  have t0 : W.cell? ⟨w.heap.size, 0, none⟩ = some (.slice (some ⟨g, 0, none⟩) n n) := by simp [World.cell?, ht]
  have t1 : W.cell? ⟨w.heap.size, 1, none⟩ = some (.int .i64 0) := by simp [World.cell?, ht]
  have r0 : W.cell? ⟨w.heap.size + 1, 0, none⟩ = some (.int .u8 0) := by simp [World.cell?, hr]
  have r1 : W.cell? ⟨w.heap.size + 1, 1, none⟩ = some (.string ⟨#[]⟩) := by simp [World.cell?, hr]
  have r2 : W.cell? ⟨w.heap.size + 1, 2, none⟩ = some (.slice none 0 0) := by simp [World.cell?, hr]
  have r3 : W.cell? ⟨w.heap.size + 1, 3, none⟩ = some (.slice none 0 0) := by simp [World.cell?, hr]
  have r4 : W.cell? ⟨w.heap.size + 1, 4, none⟩ = some (.slice none 0 0) := by simp [World.cell?, hr]
  have r5 : W.cell? ⟨w.heap.size + 1, 5, none⟩ = some (.int .i64 0) := by simp [World.cell?, hr]
  have r6 : W.cell? ⟨w.heap.size + 1, 6, none⟩ = some (.int .i64 0) := by simp [World.cell?, hr]
  have f0 : ∀ j, W.frozen? ⟨w.heap.size + 1, j, none⟩ = false := fun j => by simp [World.frozen?, hr]
  obtain ⟨_, q0, q1, q2, q3, q4, q5, q6, sh⟩ := hN
  have HB := Lib.hid hbW
  obtain ⟨kd, hkd⟩ : ∃ kd : Int, kd = (x.nd.kind : Nat) := ⟨_, rfl⟩
  obtain ⟨tx, htx⟩ : ∃ tx, tx = txt x.nd.text := ⟨_, rfl⟩
  obtain ⟨A0, b0, hv0⟩ := sh 0 (by decide)
  obtain ⟨m0, hm0⟩ : ∃ m, m = ecn x.nd 0 := ⟨_, rfl⟩
  rw [← hm0] at hv0
  obtain ⟨A1, b1, hv1⟩ := sh 1 (by decide)
  obtain ⟨m1, hm1⟩ : ∃ m, m = ecn x.nd 1 := ⟨_, rfl⟩
  rw [← hm1] at hv1
  obtain ⟨A2, b2, hv2⟩ := sh 2 (by decide)
  obtain ⟨m2, hm2⟩ : ∃ m, m = ecn x.nd 2 := ⟨_, rfl⟩
  rw [← hm2] at hv2
  obtain ⟨s1, hs1⟩ : ∃ s : Int, s = x.nd.span.1 := ⟨_, rfl⟩
  obtain ⟨s2, hs2⟩ : ∃ s : Int, s = x.nd.span.2 := ⟨_, rfl⟩
  have HV := Lib.hid (show ndV x = .agg #[.int .u8 kd, .string tx, .slice A0 m0 b0, .slice A1 m1 b1, .slice A2 m2 b2, .int .i64 s1, .int .i64 s2] by rw [hkd, htx, ← hv0, ← hv1, ← hv2, hs1, hs2]; rfl)
  have hkk : (k : Int) = kd := by rw [hkd, hk]
  rw [← hkd] at q0
  rw [← htx] at q1
  rw [hv0] at q2
  rw [hv1] at q3
  rw [hv2] at q4
  rw [← hs1] at q5
  rw [← hs2] at q6
  rw [hkk]
  unfold maxLen at hn
  simp only [Nat.zero_add] at q1 q2 q3 q4 q5 q6
  clear hkd htx hv0 hv1 hv2 hm0 hm1 hm2 sh hs1 hs2 hkk hk h ht hr hbW
  go_enter Tryz.func17, Tryz.ntmps17
  go_upto_region 1 with fail
  rw [← hW]
  clear hW
  go_wp2_with fail
  refine bodyPost_ret (v := .agg #[.int .u8 kd, .string tx, .slice A0 m0 b0, .slice A1 m1 b1, .slice A2 m2 b2, .int .i64 s1, .int .i64 s2]) (by simp [results, Tryz.results17, go_sem, *]) rfl ?_
  exact ⟨by rw [HV.out], ((((((HB.out.setCell (Nat.le_succ _) _).setCell (Nat.le_succ _) _).setCell (Nat.le_succ _) _).setCell (Nat.le_succ _) _).setCell (Nat.le_succ _) _).setCell (Nat.le_succ _) _).setCell (Nat.le_succ _) _⟩
set_option maxHeartbeats 8000000 in
set_option maxRecDepth 100000 in
theorem scalar_of {w : World} {g n i : Nat} {x : Nx} {A : Option Addr} {c : Nat} {t : ByteArray} {y z : Int} (h : ND w g (i * 7) x) (h0 : i < n) (_hn : n ≤ 1000) (hk : z = (x.nd.kind : Nat)) (ht : t = txt x.nd.text) (hv : x.v 2 = .slice A 0 c) (hy : y = i) :
    Calls Tryz.prog 25 #[.agg #[.slice (some ⟨g, 0, none⟩) n n, .int .i64 0], .int .i64 y, .int .u8 z, .string t] w fun e w' => e = .returned (.bool true) ∧ Below w.heap.size w w' := by
  subst hy
  obtain ⟨W, hW⟩ : ∃ W, W = w.alloc (trV (.slice (some ⟨g, 0, none⟩) n n)) := ⟨_, rfl⟩
  have hbW : Below w.heap.size w W := by rw [hW]; exact (Below.refl _ _).alloc (Nat.le_refl _) _
  have hN := h.on hbW
  have hh : W.heap[w.heap.size]? = some (trV (.slice (some ⟨g, 0, none⟩) n n)) := by rw [hW]; exact heap_alloc_new _ _
  have t0 : W.cell? ⟨w.heap.size, 0, none⟩ = some (.slice (some ⟨g, 0, none⟩) n n) := by simp [World.cell?, hh]
  have t1 : W.cell? ⟨w.heap.size, 1, none⟩ = some (.int .i64 0) := by simp [World.cell?, hh]
  obtain ⟨_, q0, q1, _, _, q4, _, _, _⟩ := hN
  rw [← hk] at q0
  rw [← ht] at q1
  rw [hv] at q4
  have hq : (t.toList == t.toList) = true := by simp
  have HB := Lib.hid hbW
  clear hk ht hv h hh hbW
  go_enter Tryz.func25, Tryz.ntmps25
  go_upto_region 1 with fail
  rw [← hW]
  clear hW
  go_wp2_with fail
  go_ret
  exact ⟨rfl, HB.out⟩
end Tv
end Go.Proofs.YtbeefjhcbphiaaaGreatDoor
/- The law's own questions of TOML's keys, and 'lives' walked. -/
namespace Go.Proofs.YtbeefjhcbphiaaaGreatDoor
open Go.RowKit
namespace Ty

theorem below_dn {B : Nat} {a w : World} (h : Below B a w) (k : Nat) : Below B a (w.drewN k) := ⟨h.os, h.tape, h.output, h.size, h.block⟩
/-- Words laid by a call, and a key's words: are they the same? -/
theorem same_yes {L : List Bs} {A B : Option Addr} {n c d : Nat} {w : World} (_hn : n = L.length) (hn6 : n ≤ 1000)
    (hA : ∀ k, k < n → ∃ b off, A = some ⟨b, off, none⟩ ∧ ∀ j, j < n → w.cell? ⟨b, off + j, none⟩ = some (.string (txt (L.getD j []))))
    (hB : ∀ k, k < n → ∃ b off, B = some ⟨b, off, none⟩ ∧ ∀ j, j < n → w.cell? ⟨b, off + j, none⟩ = some (.string (txt (L.getD j [])))) :
    Calls Tryz.prog 21 #[.slice A n c, .slice B n d] w fun e w' => e = .returned (.bool true) ∧ Below w.heap.size w w' := by
  have HA := Lib.hid hA
  have HB := Lib.hid hB
  clear hA hB _hn
  go_enter Tryz.func21, Tryz.ntmps21
  go_wp2_with fail
  go_loopw [5] (fun i wr => ∃ k : Nat, k ≤ n ∧ i = .int .i64 k ∧ Hid (Below w.heap.size w wr)) (fun i _ => n - (intOf i).toNat)
  case atStart => exact ⟨0, Nat.zero_le _, rfl, Lib.hid (Below.refl _ _)⟩
  case round =>
    obtain ⟨k, hk, rfl, HW⟩ := hrel
    by_cases hlt : k < n
    · obtain ⟨b, off, rfl, hb⟩ := HA.out k hlt
      obtain ⟨b2, off2, rfl, hb2⟩ := HB.out k hlt
      obtain ⟨x, hx⟩ : ∃ x, x = txt (L.getD k []) := ⟨_, rfl⟩
      have c1 := hb k hlt
      have c2 := hb2 k hlt
      rw [← hx] at c1 c2
      have d1 := (HW.out.cell (p := ⟨b, off + k, none⟩) (World.block_lt_of_cell? _ _ c1)).trans c1
      have d2 := (HW.out.cell (p := ⟨b2, off2 + k, none⟩) (World.block_lt_of_cell? _ _ c2)).trans c2
      have hq : (x.toList == x.toList) = true := by simp
      clear hb hb2 c1 c2 hx
      go_upto_region 6 with fail
      go_cut [25] from 11 to 25 (fun v wx => v = .bool false ∧ ∃ nq, wx = wr.drewN nq)
      case first =>
        go_quiet (fail)
        go_wp2_with fail
        go_meet
        exact ⟨rfl, _, rfl⟩
      case rest =>
        obtain ⟨rfl, nq, hwx⟩ := hcut
        have HN := Lib.hid (below_dn HW.out nq)
        rw [← hwx] at HN
        clear hwx d1 d2 hq
        go_wp2_with fail
        refine ⟨⟨k + 1, by omega, by go_num, HN⟩, ?_⟩
        simp [intOf] <;> omega
    · obtain rfl : k = n := by omega
      go_wp2_with fail
      go_ret
      exact ⟨rfl, HW.out⟩
end Ty
end Go.Proofs.YtbeefjhcbphiaaaGreatDoor
/- The chapter's examples of values, which each law asks: they come out true. -/
namespace Go.Proofs.YtbeefjhcbphiaaaGreatDoor
open Go.RowKit
namespace Tv
open Ty (WR1 KR Ky Bs blK endP)

/-- The first example: a list of two. -/
structure TA (w : World) (g gs cs : Nat) (x1 x2 : Nx) : Prop where
  n1 : ND w g (1 * 7) x1
  n2 : ND w g (2 * 7) x2
  k1 : x1.nd = ⟨4, [49], [], [], [], (1, 2)⟩
  k2 : x2.nd = ⟨3, [97], [], [], [], (4, 7)⟩
  s0 : w.cell? ⟨gs, 0, none⟩ = some (.int .i64 1)
  s1 : w.cell? ⟨gs, 1, none⟩ = some (.int .i64 2)
  lt : gs < w.heap.size
  cs : 2 ≤ cs ∧ cs ≤ maxLen
theorem TA.on {w w' : World} {g gs cs : Nat} {x1 x2 : Nx} (h : TA w g gs cs x1 x2) (hb : Below w.heap.size w w') : TA w' g gs cs x1 x2 :=
  ⟨h.n1.on hb, h.n2.on hb, h.k1, h.k2, cell_old hb h.lt h.s0, cell_old hb h.lt h.s1, Nat.lt_of_lt_of_le h.lt hb.size, h.cs⟩
theorem readA (w : World) (hT : Fl.AllT w) : Calls Tryz.prog 9 #[.string ⟨#[91, 49, 44, 32, 34, 97, 34, 44, 32, 93, 32, 35, 32, 120]⟩, .int .i64 0, .int .i64 0] w fun e w' => ∃ g gs cs A0 b0 A1 b1 x x1 x2, e = .returned (.tuple #[.agg #[.slice (some ⟨g, 0, none⟩) 3 3, .int .i64 0], .int .i64 10, .agg #[.int .i64 0, .int .i64 0]]) ∧
    ND w' g 0 x ∧ x.nd.kind = 7 ∧ ndV x = .agg #[.int .u8 7, .string ⟨#[]⟩, .slice A0 0 b0, .slice A1 0 b1, .slice (some ⟨gs, 0, none⟩) 2 cs, .int .i64 0, .int .i64 10] ∧ TA w' g gs cs x1 x2 ∧ Below w.heap.size w w' := by
  refine (lit_ok (n := 3) (y := 10) w hT sA rfl (by decide) vA rfl rfl).mono ?_
  rintro e w' ⟨A, X, he, ht, hx, hb⟩
  obtain ⟨x, hx0, e0⟩ := nd_in hx (i := 0) rfl
  obtain ⟨x1, hx1, e1⟩ := nd_in hx (i := 1) rfl
  obtain ⟨x2, hx2, e2⟩ := nd_in hx (i := 2) rfl
  obtain ⟨g, rfl, _, _, hn⟩ := ht.nd (by decide)
  obtain ⟨A0, b0, h0⟩ := (hn 0 x hx0).sh 0 (by decide)
  obtain ⟨A1, b1, h1⟩ := (hn 0 x hx0).sh 1 (by decide)
  have hr := ht.e 0 x hx0 2 (by decide)
  rw [e0] at h0 h1 hr
  obtain ⟨gs, cs, h2, _, hl, hc, hm, hs⟩ := hr.cells (by decide)
  refine ⟨g, gs, cs, A0, b0, A1, b1, x, x1, x2, he, hn 0 x hx0, by rw [e0], ?_, ⟨hn 1 x1 hx1, hn 2 x2 hx2, e1, e2, hs 0 _ rfl, hs 1 _ rfl, hl, hc, hm⟩, hb⟩
  have h2 : x.v 2 = .slice (some ⟨gs, 0, none⟩) 2 cs := h2
  unfold ndV
  rw [h0, h1, h2, e0]
  rfl
/-- The second one: a table in a table. -/
structure TB (w : World) (B g gk ck gs cs gk1 ck1 : Nat) (x1 : Nx) : Prop where
  lo : B ≤ g ∧ B ≤ gs ∧ B ≤ gk ∧ B ≤ gk1
  n1 : ND w g (1 * 7) x1
  s0 : w.cell? ⟨gs, 0, none⟩ = some (.int .i64 1)
  k0 : w.cell? ⟨gk, 0, none⟩ = some (.string ⟨#[97]⟩)
  q0 : w.cell? ⟨gk1, 0, none⟩ = some (.string ⟨#[98]⟩)
  q1 : w.cell? ⟨gk1, 1, none⟩ = some (.string ⟨#[99]⟩)
  l0 : gs < w.heap.size
  l1 : gk < w.heap.size
  l2 : gk1 < w.heap.size
  cs : 1 ≤ cs ∧ cs ≤ maxLen
  ck : 1 ≤ ck ∧ ck ≤ maxLen
  c1 : 2 ≤ ck1 ∧ ck1 ≤ maxLen
theorem TB.on {w w' : World} {B g gk ck gs cs gk1 ck1 : Nat} {x1 : Nx} (h : TB w B g gk ck gs cs gk1 ck1 x1) (hb : Below w.heap.size w w') : TB w' B g gk ck gs cs gk1 ck1 x1 :=
  have f : ∀ {k : Nat}, k < w.heap.size → k < w'.heap.size := fun h => Nat.lt_of_lt_of_le h hb.size
  ⟨h.lo, h.n1.on hb, cell_old hb h.l0 h.s0, cell_old hb h.l1 h.k0, cell_old hb h.l2 h.q0, cell_old hb h.l2 h.q1, f h.l0, f h.l1, f h.l2, h.cs, h.ck, h.c1⟩
theorem readB (w : World) (hT : Fl.AllT w) : Calls Tryz.prog 9 #[.string ⟨#[123, 97, 46, 98, 32, 61, 32, 49, 44, 32, 97, 46, 99, 32, 61, 32, 50, 125]⟩, .int .i64 0, .int .i64 0] w fun e w' => ∃ g gk ck gs cs gk1 ck1 A1 b1 B1 d1 B2 d2 x x1, e = .returned (.tuple #[.agg #[.slice (some ⟨g, 0, none⟩) 4 4, .int .i64 0], .int .i64 18, .agg #[.int .i64 0, .int .i64 0]]) ∧
    ND w' g 0 x ∧ x.nd.kind = 8 ∧ ndV x = .agg #[.int .u8 8, .string ⟨#[]⟩, .slice (some ⟨gk, 0, none⟩) 1 ck, .slice A1 1 b1, .slice (some ⟨gs, 0, none⟩) 1 cs, .int .i64 0, .int .i64 18] ∧
    (txt x1.nd.text = ⟨#[]⟩ ∧ x1.nd.kind = 8 ∧ x1.v 0 = .slice (some ⟨gk1, 0, none⟩) 2 ck1 ∧ x1.v 1 = .slice B1 2 d1 ∧ x1.v 2 = .slice B2 2 d2 ∧ x1.nd.span.1 = -1 ∧ x1.nd.span.2 = -1) ∧ TB w' w.heap.size g gk ck gs cs gk1 ck1 x1 ∧ Below w.heap.size w w' := by
  refine (lit_ok (n := 4) (y := 18) w hT sB rfl (by decide) vB rfl rfl).mono ?_
  rintro e w' ⟨A, X, he, ht, hx, hb⟩
  obtain ⟨x, hx0, e0⟩ := nd_in hx (i := 0) rfl
  obtain ⟨x1, hx1, e1⟩ := nd_in hx (i := 1) rfl
  obtain ⟨g, rfl, og, _, hn⟩ := ht.nd (by decide)
  obtain ⟨A1, b1, h1⟩ := (hn 0 x hx0).sh 1 (by decide)
  obtain ⟨B1, d1, q1⟩ := (hn 1 x1 hx1).sh 1 (by decide)
  obtain ⟨B2, d2, q2⟩ := (hn 1 x1 hx1).sh 2 (by decide)
  have hk := ht.e 0 x hx0 0 (by decide)
  have hr := ht.e 0 x hx0 2 (by decide)
  have hq := ht.e 1 x1 hx1 0 (by decide)
  rw [e0] at h1 hr hk
  rw [e1] at q1 q2 hq
  obtain ⟨gk, ck, h0, ok, lk, hck, mk, sk⟩ := hk.cells (by decide)
  obtain ⟨gs, cs, h2, os, hl, hc, hm, hs⟩ := hr.cells (by decide)
  obtain ⟨gk1, ck1, q0, oq, lq, hcq, mq, sq⟩ := hq.cells (by decide)
  refine ⟨g, gk, ck, gs, cs, gk1, ck1, A1, b1, B1, d1, B2, d2, x, x1, he, hn 0 x hx0, by rw [e0], ?_, ⟨by rw [e1]; rfl, by rw [e1], q0, q1, q2, by rw [e1], by rw [e1]⟩, ⟨⟨og, os, ok, oq⟩, hn 1 x1 hx1, hs 0 _ rfl, sk 0 _ rfl, sq 0 _ rfl, sq 1 _ rfl, hl, lk, lq, ⟨hc, hm⟩, ⟨hck, mk⟩, ⟨hcq, mq⟩⟩, hb⟩
  have h2 : x.v 2 = .slice (some ⟨gs, 0, none⟩) 1 cs := h2
  have h0 : x.v 0 = .slice (some ⟨gk, 0, none⟩) 1 ck := h0
  unfold ndV
  rw [h0, h1, h2, e0]
  rfl
theorem cell_same {w w' : World} {b k : Nat} {v : Value} (h : w'.heap[b]? = w.heap[b]?) (hc : w.cell? ⟨b, k, none⟩ = some v) : w'.cell? ⟨b, k, none⟩ = some v := by
  simp only [World.cell?] at hc ⊢
  rw [h]; exact hc
theorem lt_same {w w' : World} {b : Nat} (h : w'.heap[b]? = w.heap[b]?) (hb : b < w.heap.size) : b < w'.heap.size := by
  rw [Array.getElem?_eq_getElem hb] at h
  exact (Array.getElem?_eq_some_iff.1 h).1
theorem ND.same {w w' : World} {g o : Nat} {x : Nx} (h : ND w g o x) (hb : w'.heap[g]? = w.heap[g]?) : ND w' g o x :=
  ⟨lt_same hb h.lt, cell_same hb h.c0, cell_same hb h.c1, cell_same hb h.c2, cell_same hb h.c3, cell_same hb h.c4, cell_same hb h.c5, cell_same hb h.c6, h.sh⟩
theorem TB.same {w w' : World} {B g gk ck gs cs gk1 ck1 : Nat} {x1 : Nx} (h : TB w B g gk ck gs cs gk1 ck1 x1) (hb : ∀ k, B ≤ k → k < w.heap.size → w'.heap[k]? = w.heap[k]?) : TB w' B g gk ck gs cs gk1 ck1 x1 :=
  ⟨h.lo, h.n1.same (hb _ h.lo.1 h.n1.lt), cell_same (hb _ h.lo.2.1 h.l0) h.s0, cell_same (hb _ h.lo.2.2.1 h.l1) h.k0, cell_same (hb _ h.lo.2.2.2 h.l2) h.q0, cell_same (hb _ h.lo.2.2.2 h.l2) h.q1, lt_same (hb _ h.lo.2.1 h.l0) h.l0, lt_same (hb _ h.lo.2.2.1 h.l1) h.l1, lt_same (hb _ h.lo.2.2.2 h.l2) h.l2, h.cs, h.ck, h.c1⟩
end Tv
end Go.Proofs.YtbeefjhcbphiaaaGreatDoor
