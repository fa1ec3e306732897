/- The laws' helper SameNode: it tells whether two nodes are the same. -/
import Derived.Test.YtdclhepjoifpiaaGreatDoorKrm
namespace Go.Proofs.YtdclhepjoifpiaaGreatDoor
open Go.RowKit
namespace Jt
open Jk (lt_blk below_tr fvO)

theorem txt_inj {a b : Bs} (h : txt a = txt b) : a = b := by
  have := congrArg (fun s : ByteArray => s.data.toList) h
  simpa [txt] using this
theorem lst_inj {a b : Bs} {s t : ByteArray} (h1 : s = txt a) (h2 : t = txt b) (h : s.toList = t.toList) : a = b := by rwa [h1, h2, De.txt_list, De.txt_list] at h
/-- A node whose rows can be read. -/
def Rd (w : World) (x : Nx) : Prop := ∀ j, j < 3 → ∃ base, Rr w base (ety j) (esz j) (x.v j) (ecn x.nd j) (ecs x.nd j)
theorem Rd.keep {w w' : World} {x : Nx} (h : Rd w x) (hb : Below w.heap.size w w') : Rd w' x := fun j hj => by
  obtain ⟨base, hr⟩ := h j hj
  exact ⟨base, hr.keep fun k hk => hb.block k (hr.lt k hk).2⟩
theorem Tr.rd {w : World} {base : Nat} {lab : Nat → Own} {v : Value} {X : List Nx} (h : Tr w base lab v X) {i : Nat} {x : Nx} (hx : X[i]? = some x) : Rd w x := fun j hj => ⟨base, (h.e i x hx j hj).1⟩
/-- A row of a node's, read: its cells. -/
theorem Rd.row {w : World} {x : Nx} (h : Rd w x) {j : Nat} (hj : j < 3) : ∃ A c, x.v j = .slice A (ecn x.nd j) c ∧ ecn x.nd j ≤ c ∧ c ≤ maxLen ∧ (0 < ecn x.nd j → ∃ g, A = some ⟨g, 0, none⟩ ∧ g < w.heap.size ∧ ∀ k u, (ecs x.nd j)[k]? = some u → w.cell? ⟨g, k, none⟩ = some u) := by
  obtain ⟨base, hr⟩ := h j hj
  obtain ⟨A, c, e, h1, h2, h3⟩ := hr.shape
  refine ⟨A, c, e, h1, h2, fun h0 => ?_⟩
  obtain ⟨g, c', e', q1, q2, q3, q4, q5⟩ := hr.cells h0
  rw [e] at e'
  injection e' with e1 _ _
  exact ⟨g, e1, q2, q5⟩
theorem spC_at : ∀ (L : List (Nat × Nat)) (k : Nat) (s : Nat × Nat), L[k]? = some s → (L.flatMap spC)[k * 2]? = some (.int .i64 (s.1 : Nat)) ∧ (L.flatMap spC)[k * 2 + 1]? = some (.int .i64 (s.2 : Nat))
  | [], _, _, h => by simp at h
  | y :: L, 0, s, h => by
    obtain rfl : y = s := by simpa using h
    exact ⟨rfl, rfl⟩
  | y :: L, k + 1, s, h => by
    have ih := spC_at L k s (by simpa using h)
    rw [List.flatMap_cons, show (k + 1) * 2 = 2 + k * 2 by omega, show 2 + k * 2 + 1 = 2 + (k * 2 + 1) by omega]
    show (_ :: _ :: _)[2 + k * 2]? = _ ∧ (_ :: _ :: _)[2 + (k * 2 + 1)]? = _
    rw [show 2 + k * 2 = k * 2 + 1 + 1 by omega, show 2 + (k * 2 + 1) = (k * 2 + 1) + 1 + 1 by omega, List.getElem?_cons_succ, List.getElem?_cons_succ, List.getElem?_cons_succ, List.getElem?_cons_succ]
    exact ih
theorem strC_at (L : List Bs) (k : Nat) (s : Bs) (h : L[k]? = some s) : (L.flatMap strC)[k]? = some (.string (txt s)) := by
  have : L.flatMap strC = L.map fun k => Value.string (txt k) := by
    clear h
    induction L with
    | nil => rfl
    | cons a L ih => rw [List.flatMap_cons, List.map_cons, ← ih]; rfl
  rw [this, List.getElem?_map, h]; rfl
theorem inC_at (L : List Nat) (k : Nat) (s : Nat) (h : L[k]? = some s) : (L.flatMap inC)[k]? = some (.int .i64 (s : Nat)) := by
  have : L.flatMap inC = L.map fun k : Nat => Value.int .i64 (k : Nat) := by
    clear h
    induction L with
    | nil => rfl
    | cons a L ih => rw [List.flatMap_cons, List.map_cons, ← ih]; rfl
  rw [this, List.getElem?_map, h]; rfl
/-- What the first test compares. -/
def headEq (x y : Nd) : Prop := x.kind = y.kind ∧ x.text = y.text ∧ x.span = y.span ∧ x.keys.length = y.keys.length ∧ x.spots.length = y.spots.length ∧ x.subs.length = y.subs.length
theorem no_of {x y : Nd} {p : Prop} (h : x = y → p) (hn : ¬ p) : decide (x = y) = false := decide_eq_false fun e => hn (h e)
abbrev trA (v : Value) (r : Int) : Obj := .cells #[v, .int .i64 r] 27
abbrev ndO (x : Nx) : Obj := .cells (ndC x).toArray 44
abbrev ndV (x : Nx) : Value := .agg (ndC x).toArray
set_option maxHeartbeats 8000000 in
set_option maxRecDepth 100000 in
theorem sameNode_any {x y : Nx} {w : World} (rx : Rd w x) (ry : Rd w y) :
    Calls Tryz.prog 17 #[ndV x, ndV y] w fun e w' => e = .returned (.bool (decide (x.nd = y.nd))) ∧ Below w.heap.size w w' := by
  obtain ⟨W, hW⟩ : ∃ W, W = (w.alloc (ndO x)).alloc (ndO y) := ⟨_, rfl⟩
  have hb : Below w.heap.size w W := by rw [hW]; exact ((Below.refl _ _).alloc (Nat.le_refl _) _).alloc (by rw [alloc_size]; omega) _
  obtain ⟨A0, c0, e0, n0, m0, C0⟩ := (rx.keep hb).row (show 0 < 3 by omega)
  obtain ⟨A1, c1, e1, n1, m1, C1⟩ := (rx.keep hb).row (show 1 < 3 by omega)
  obtain ⟨A2, c2, e2, n2, m2, C2⟩ := (rx.keep hb).row (show 2 < 3 by omega)
  obtain ⟨B0, d0, f0, p0, q0, D0⟩ := (ry.keep hb).row (show 0 < 3 by omega)
  obtain ⟨B1, d1, f1, p1, q1, D1⟩ := (ry.keep hb).row (show 1 < 3 by omega)
  obtain ⟨B2, d2, f2, p2, q2, D2⟩ := (ry.keep hb).row (show 2 < 3 by omega)
  have xl : W.heap[w.heap.size]? = some (ndO x) := by
    rw [hW]; show ((w.heap.push _).push _)[w.heap.size]? = _
    rw [Array.getElem?_push_lt (by simp)]; simp
  have yl : W.heap[w.heap.size + 1]? = some (ndO y) := by
    rw [hW]; show ((w.heap.push _).push _)[w.heap.size + 1]? = _
    rw [Array.getElem?_push, if_pos (by simp)]
  have xc : ∀ j u, (ndC x)[j]? = some u → W.cell? ⟨w.heap.size, j, none⟩ = some u := fun j u h => by rw [cell_of_row W _ _ _ _ _ xl]; simpa using h
  have yc : ∀ j u, (ndC y)[j]? = some u → W.cell? ⟨w.heap.size + 1, j, none⟩ = some u := fun j u h => by rw [cell_of_row W _ _ _ _ _ yl]; simpa using h
  have hx : ndV x = .agg #[.int .u8 (x.nd.kind : Nat), .string (txt x.nd.text), .slice A0 (ecn x.nd 0) c0, .slice A1 (ecn x.nd 1) c1, .slice A2 (ecn x.nd 2) c2, .int .i64 (x.nd.span.1 : Nat), .int .i64 (x.nd.span.2 : Nat)] := by
    unfold ndV ndC; rw [e0, e1, e2]
  have hy : ndV y = .agg #[.int .u8 (y.nd.kind : Nat), .string (txt y.nd.text), .slice B0 (ecn y.nd 0) d0, .slice B1 (ecn y.nd 1) d1, .slice B2 (ecn y.nd 2) d2, .int .i64 (y.nd.span.1 : Nat), .int .i64 (y.nd.span.2 : Nat)] := by
    unfold ndV ndC; rw [f0, f1, f2]
  have t0 := xc 0 _ rfl
  have t1 := xc 1 _ rfl
  have t2 : W.cell? ⟨w.heap.size, 2, none⟩ = some (.slice A0 (ecn x.nd 0) c0) := by rw [← e0]; exact xc 2 _ rfl
  have t3 : W.cell? ⟨w.heap.size, 3, none⟩ = some (.slice A1 (ecn x.nd 1) c1) := by rw [← e1]; exact xc 3 _ rfl
  have t4 : W.cell? ⟨w.heap.size, 4, none⟩ = some (.slice A2 (ecn x.nd 2) c2) := by rw [← e2]; exact xc 4 _ rfl
  have t5 := xc 5 _ rfl
  have t6 := xc 6 _ rfl
  have u0 := yc 0 _ rfl
  have u1 := yc 1 _ rfl
  have u2 : W.cell? ⟨w.heap.size + 1, 2, none⟩ = some (.slice B0 (ecn y.nd 0) d0) := by rw [← f0]; exact yc 2 _ rfl
  have u3 : W.cell? ⟨w.heap.size + 1, 3, none⟩ = some (.slice B1 (ecn y.nd 1) d1) := by rw [← f1]; exact yc 3 _ rfl
  have u4 : W.cell? ⟨w.heap.size + 1, 4, none⟩ = some (.slice B2 (ecn y.nd 2) d2) := by rw [← f2]; exact yc 4 _ rfl
  have u5 := yc 5 _ rfl
  have u6 := yc 6 _ rfl
  rw [hx, hy]
  have hW1 : W = (w.alloc (.cells #[.int .u8 (x.nd.kind : Nat), .string (txt x.nd.text), .slice A0 (ecn x.nd 0) c0, .slice A1 (ecn x.nd 1) c1, .slice A2 (ecn x.nd 2) c2, .int .i64 (x.nd.span.1 : Nat), .int .i64 (x.nd.span.2 : Nat)] 44)).alloc (.cells #[.int .u8 (y.nd.kind : Nat), .string (txt y.nd.text), .slice B0 (ecn y.nd 0) d0, .slice B1 (ecn y.nd 1) d1, .slice B2 (ecn y.nd 2) d2, .int .i64 (y.nd.span.1 : Nat), .int .i64 (y.nd.span.2 : Nat)] 44) := by
    rw [hW, ← e0, ← e1, ← e2, ← f0, ← f1, ← f2]; rfl
  -- letters
  obtain ⟨kx, hkx⟩ : ∃ k : Int, k = (x.nd.kind : Nat) := ⟨_, rfl⟩
  obtain ⟨ky, hky⟩ : ∃ k : Int, k = (y.nd.kind : Nat) := ⟨_, rfl⟩
  obtain ⟨tx, htx⟩ : ∃ k, k = txt x.nd.text := ⟨_, rfl⟩
  obtain ⟨ty, hty⟩ : ∃ k, k = txt y.nd.text := ⟨_, rfl⟩
  obtain ⟨px, hpx⟩ : ∃ k : Int, k = (x.nd.span.1 : Nat) := ⟨_, rfl⟩
  obtain ⟨py, hpy⟩ : ∃ k : Int, k = (y.nd.span.1 : Nat) := ⟨_, rfl⟩
  obtain ⟨qx, hqx⟩ : ∃ k : Int, k = (x.nd.span.2 : Nat) := ⟨_, rfl⟩
  obtain ⟨qy, hqy⟩ : ∃ k : Int, k = (y.nd.span.2 : Nat) := ⟨_, rfl⟩
  obtain ⟨a0, ha0⟩ : ∃ k, k = ecn x.nd 0 := ⟨_, rfl⟩
  obtain ⟨a1, ha1⟩ : ∃ k, k = ecn x.nd 1 := ⟨_, rfl⟩
  obtain ⟨a2, ha2⟩ : ∃ k, k = ecn x.nd 2 := ⟨_, rfl⟩
  obtain ⟨b0, hb0⟩ : ∃ k, k = ecn y.nd 0 := ⟨_, rfl⟩
  obtain ⟨b1, hb1⟩ : ∃ k, k = ecn y.nd 1 := ⟨_, rfl⟩
  obtain ⟨b2, hb2⟩ : ∃ k, k = ecn y.nd 2 := ⟨_, rfl⟩
  rw [← hkx] at t0 hW1 ⊢
  rw [← hky] at u0 hW1 ⊢
  rw [← htx] at t1 hW1 ⊢
  rw [← hty] at u1 hW1 ⊢
  rw [← hpx] at t5 hW1 ⊢
  rw [← hpy] at u5 hW1 ⊢
  rw [← hqx] at t6 hW1 ⊢
  rw [← hqy] at u6 hW1 ⊢
  rw [← ha0] at t2 hW1 C0 n0 ⊢
  rw [← ha1] at t3 hW1 C1 n1 ⊢
  rw [← ha2] at t4 hW1 C2 n2 ⊢
  rw [← hb0] at u2 hW1 D0 p0 ⊢
  rw [← hb1] at u3 hW1 D1 p1 ⊢
  rw [← hb2] at u4 hW1 D2 p2 ⊢
  have l0 : a0 ≤ 9223372036854775807 := by unfold maxLen at m0; omega
  have l1 : a1 ≤ 9223372036854775807 := by unfold maxLen at m1; omega
  have l2 : a2 ≤ 9223372036854775807 := by unfold maxLen at m2; omega
  have HD := Lib.hid (And.intro (And.intro C0 D0) (And.intro (And.intro C1 D1) (And.intro C2 D2)))
  have HB := Lib.hid hb
  have N1 := Lib.hid (show x.nd = y.nd → kx = ky from fun e => by rw [hkx, hky, e])
  have N2 := Lib.hid (show x.nd = y.nd → tx.toList = ty.toList from fun e => by rw [htx, hty, e])
  have N3 := Lib.hid (show x.nd = y.nd → px = py from fun e => by rw [hpx, hpy, e])
  have N4 := Lib.hid (show x.nd = y.nd → qx = qy from fun e => by rw [hqx, hqy, e])
  have N5 := Lib.hid (show x.nd = y.nd → a0 = b0 from fun e => by rw [ha0, hb0, e])
  have N6 := Lib.hid (show x.nd = y.nd → a1 = b1 from fun e => by rw [ha1, hb1, e])
  have N7 := Lib.hid (show x.nd = y.nd → a2 = b2 from fun e => by rw [ha2, hb2, e])
  have HK := Lib.hid (And.intro (And.intro (And.intro hkx hky) (And.intro htx hty)) (And.intro (And.intro hpx hpy) (And.intro hqx hqy)))
  have HA := Lib.hid (And.intro (And.intro ha0 hb0) (And.intro (And.intro ha1 hb1) (And.intro ha2 hb2)))
  obtain ⟨r, hr⟩ : ∃ r, r = decide (x.nd = y.nd) := ⟨_, rfl⟩
  rw [← hr]
  have HRR := Lib.hid hr
  clear hkx hky htx hty hpx hpy hqx hqy ha0 ha1 ha2 hb0 hb1 hb2 hW hb C0 C1 C2 D0 D1 D2 xl yl xc yc hx hy e0 e1 e2 f0 f1 f2 rx ry hr
  go_enter Tryz.func17, Tryz.ntmps17
  go_upto_region 1 with fail
  rw [← hW1]
  clear hW1
  by_cases h1 : kx = ky
  case neg =>
    obtain rfl := HRR.out.trans (no_of N1.out h1)
    go_wp2_with fail
    go_ret
    exact ⟨rfl, HB.out⟩
  subst h1
  by_cases h2 : tx.toList = ty.toList
  case neg =>
    obtain rfl := HRR.out.trans (no_of N2.out h2)
    go_wp2_with fail
    go_ret
    exact ⟨rfl, HB.out⟩
  obtain rfl : tx = ty := by have h := HK.out.1.2; rw [h.1, h.2, lst_inj h.1 h.2 h2]
  clear h2
  by_cases h3 : px = py
  case neg =>
    obtain rfl := HRR.out.trans (no_of N3.out h3)
    go_wp2_with fail
    go_ret
    exact ⟨rfl, HB.out⟩
  subst h3
  by_cases h4 : qx = qy
  case neg =>
    obtain rfl := HRR.out.trans (no_of N4.out h4)
    go_wp2_with fail
    go_ret
    exact ⟨rfl, HB.out⟩
  subst h4
  by_cases h5 : a0 = b0
  case neg =>
    obtain rfl := HRR.out.trans (no_of N5.out h5)
    go_wp2_with fail
    go_ret
    exact ⟨rfl, HB.out⟩
  subst h5
  by_cases h6 : a1 = b1
  case neg =>
    obtain rfl := HRR.out.trans (no_of N6.out h6)
    go_wp2_with fail
    go_ret
    exact ⟨rfl, HB.out⟩
  subst h6
  by_cases h7 : a2 = b2
  case neg =>
    obtain rfl := HRR.out.trans (no_of N7.out h7)
    go_wp2_with fail
    go_ret
    exact ⟨rfl, HB.out⟩
  subst h7
  have HW0 := Lib.hid (Below.refl W.heap.size W)
  have T := Lib.hid (And.intro (And.intro t2 u2) (And.intro (And.intro t3 u3) (And.intro t4 u4)))
  have hz : w.heap.size + 1 < W.heap.size := lt_cell u0
  go_wp2_with fail
  clear t0 t1 t2 t3 t4 t5 t6 u0 u1 u2 u3 u4 u5 u6
  go_loopw [5] (fun i wr => ∃ k : Nat, k ≤ a0 ∧ i = .int .i64 k ∧ Hid (Below W.heap.size W wr) ∧ ∀ j, j < k → x.nd.keys[j]? = y.nd.keys[j]?) (fun i _ => a0 - (intOf i).toNat)
  case atStart => exact ⟨0, Nat.zero_le _, rfl, HW0, fun j h => absurd h (by omega)⟩
  obtain ⟨k, hk, rfl, HW1, hsame⟩ := hrel
  have t2 := (HW1.out.cell (p := ⟨w.heap.size, 2, none⟩) (by show w.heap.size < _; omega)).trans T.out.1.1
  have u2 := (HW1.out.cell (p := ⟨w.heap.size + 1, 2, none⟩) (by exact hz)).trans T.out.1.2
  by_cases hlt : k < a0
  case pos =>
    obtain ⟨g, rfl, hg, hc⟩ := HD.out.1.1 (by omega)
    obtain ⟨g2, rfl, hg2, hc2⟩ := HD.out.1.2 (by omega)
    have HS := Lib.hid hsame
    clear hsame
    obtain ⟨sx, hsx⟩ : ∃ s, x.nd.keys[k]? = some s := ⟨_, List.getElem?_eq_getElem (by have h := HA.out.1.1; show k < ecn x.nd 0; omega)⟩
    obtain ⟨sy, hsy⟩ : ∃ s, y.nd.keys[k]? = some s := ⟨_, List.getElem?_eq_getElem (by have h := HA.out.1.2; show k < ecn y.nd 0; omega)⟩
    have k1 : wr.cell? ⟨g, k, none⟩ = some (.string (txt sx)) := (HW1.out.cell (p := ⟨g, k, none⟩) (by exact hg)).trans (hc k _ (strC_at _ _ _ hsx))
    have k2 : wr.cell? ⟨g2, k, none⟩ = some (.string (txt sy)) := (HW1.out.cell (p := ⟨g2, k, none⟩) (by exact hg2)).trans (hc2 k _ (strC_at _ _ _ hsy))
    obtain ⟨ux, hux⟩ : ∃ u, u = txt sx := ⟨_, rfl⟩
    obtain ⟨uy, huy⟩ : ∃ u, u = txt sy := ⟨_, rfl⟩
    rw [← hux] at k1
    rw [← huy] at k2
    have NN := Lib.hid (show x.nd = y.nd → ux.toList = uy.toList from fun e => by rw [hux, huy]; rw [e, hsy] at hsx; rw [Option.some.inj hsx])
    have FF := Lib.hid (show ux.toList = uy.toList → ux = uy ∧ x.nd.keys[k]? = y.nd.keys[k]? from fun e => by have h := lst_inj hux huy e; rw [hsx, hsy, hux, huy, h]; exact ⟨rfl, rfl⟩)
    clear hg hg2 hc hc2 hsx hsy hux huy
    by_cases hu : ux.toList = uy.toList
    case neg =>
      obtain rfl := HRR.out.trans (no_of NN.out hu)
      have hu2 : (ux.toList == uy.toList) = false := by simpa using hu
      go_wp2_with fail
      go_region
      all_goals
        go_wp2_with fail
        go_ret
        exact ⟨rfl, by first | exact below_tr HB.out HW1.out | exact (below_tr HB.out HW1.out).drew | exact (below_tr HB.out HW1.out).drew.drew⟩
    case pos =>
      obtain ⟨hu2, hfin⟩ := FF.out hu
      have FIN := Lib.hid hfin
      clear hu hfin
      subst hu2
      have hstep : ∀ j, j < k + 1 → x.nd.keys[j]? = y.nd.keys[j]? := fun j hj => by
        by_cases h : j < k
        · exact HS.out j h
        · obtain rfl : j = k := by omega
          exact FIN.out
      have HST := Lib.hid hstep
      clear hstep
      go_wp2_with fail
      go_region
      all_goals
        go_wp2_with fail
        refine ⟨⟨k + 1, by omega, by go_num, Lib.hid (by first | exact HW1.out | exact HW1.out.drew | exact HW1.out.drew.drew), HST.out⟩, ?_⟩
        simp [intOf] <;> omega
  obtain rfl : a0 = k := by omega
  have E0 := Lib.hid (show x.nd.keys = y.nd.keys from by
    apply List.ext_getElem?
    intro j
    by_cases hj : j < a0
    · exact hsame j hj
    · rw [List.getElem?_eq_none, List.getElem?_eq_none]
      · have h := HA.out.1.2; have h2 : ecn y.nd 0 = y.nd.keys.length := rfl; omega
      · have h := HA.out.1.1; have h2 : ecn x.nd 0 = x.nd.keys.length := rfl; omega)
  clear hsame
  go_wp2_with fail
  go_loopw [6] (fun i wr => ∃ k : Nat, k ≤ a1 ∧ i = .int .i64 k ∧ Hid (Below W.heap.size W wr) ∧ ∀ j, j < k → x.nd.spots[j]? = y.nd.spots[j]?) (fun i _ => a1 - (intOf i).toNat)
  case atStart => exact ⟨0, Nat.zero_le _, rfl, HW1, fun j h => absurd h (by omega)⟩
  obtain ⟨k, hk, rfl, HW2, hsame⟩ := hrel
  have t3 := (HW2.out.cell (p := ⟨w.heap.size, 3, none⟩) (by show w.heap.size < _; omega)).trans T.out.2.1.1
  have u3 := (HW2.out.cell (p := ⟨w.heap.size + 1, 3, none⟩) (by exact hz)).trans T.out.2.1.2
  by_cases hlt : k < a1
  case pos =>
    obtain ⟨g, rfl, hg, hc⟩ := HD.out.2.1.1 (by omega)
    obtain ⟨g2, rfl, hg2, hc2⟩ := HD.out.2.1.2 (by omega)
    have HS := Lib.hid hsame
    clear hsame
    obtain ⟨sx, hsx⟩ : ∃ s, x.nd.spots[k]? = some s := ⟨_, List.getElem?_eq_getElem (by have h := HA.out.2.1.1; show k < ecn x.nd 1; omega)⟩
    obtain ⟨sy, hsy⟩ : ∃ s, y.nd.spots[k]? = some s := ⟨_, List.getElem?_eq_getElem (by have h := HA.out.2.1.2; show k < ecn y.nd 1; omega)⟩
    have k1 : wr.cell? ⟨g, k * 2, none⟩ = some (.int .i64 (sx.1 : Nat)) := (HW2.out.cell (p := ⟨g, k * 2, none⟩) (by exact hg)).trans (hc _ _ (spC_at _ _ _ hsx).1)
    have k2 : wr.cell? ⟨g, k * 2 + 1, none⟩ = some (.int .i64 (sx.2 : Nat)) := (HW2.out.cell (p := ⟨g, k * 2 + 1, none⟩) (by exact hg)).trans (hc _ _ (spC_at _ _ _ hsx).2)
    have k3 : wr.cell? ⟨g2, k * 2, none⟩ = some (.int .i64 (sy.1 : Nat)) := (HW2.out.cell (p := ⟨g2, k * 2, none⟩) (by exact hg2)).trans (hc2 _ _ (spC_at _ _ _ hsy).1)
    have k4 : wr.cell? ⟨g2, k * 2 + 1, none⟩ = some (.int .i64 (sy.2 : Nat)) := (HW2.out.cell (p := ⟨g2, k * 2 + 1, none⟩) (by exact hg2)).trans (hc2 _ _ (spC_at _ _ _ hsy).2)
    obtain ⟨ux, hux⟩ : ∃ u : Int, u = (sx.1 : Nat) := ⟨_, rfl⟩
    obtain ⟨uy, huy⟩ : ∃ u : Int, u = (sy.1 : Nat) := ⟨_, rfl⟩
    obtain ⟨vx, hvx⟩ : ∃ u : Int, u = (sx.2 : Nat) := ⟨_, rfl⟩
    obtain ⟨vy, hvy⟩ : ∃ u : Int, u = (sy.2 : Nat) := ⟨_, rfl⟩
    rw [← hux] at k1
    rw [← hvx] at k2
    rw [← huy] at k3
    rw [← hvy] at k4
    have NN := Lib.hid (show x.nd = y.nd → ux = uy ∧ vx = vy from fun e => by rw [e, hsy] at hsx; rw [hux, huy, hvx, hvy, Option.some.inj hsx]; exact ⟨rfl, rfl⟩)
    have FF := Lib.hid (show ux = uy → vx = vy → x.nd.spots[k]? = y.nd.spots[k]? from fun e e2 => by
      rw [hsx, hsy]
      have h1 : sx.1 = sy.1 := by omega
      have h2 : sx.2 = sy.2 := by omega
      rw [Prod.ext h1 h2])
    clear hg hg2 hc hc2 hsx hsy hux huy hvx hvy
    by_cases hu : ux = uy
    case neg =>
      obtain rfl := HRR.out.trans (no_of (fun e => (NN.out e).1) hu)
      have hu2 : (ux == uy) = false := by simpa using hu
      go_wp2_with fail
      go_region
      all_goals
        go_wp2_with fail
        go_ret
        exact ⟨rfl, by first | exact below_tr HB.out HW2.out | exact (below_tr HB.out HW2.out).drew | exact (below_tr HB.out HW2.out).drew.drew⟩
    by_cases hv : vx = vy
    case neg =>
      obtain rfl := HRR.out.trans (no_of (fun e => (NN.out e).2) hv)
      have hv2 : (vx == vy) = false := by simpa using hv
      go_wp2_with fail
      go_region
      all_goals
        go_wp2_with fail
        go_ret
        exact ⟨rfl, by first | exact below_tr HB.out HW2.out | exact (below_tr HB.out HW2.out).drew | exact (below_tr HB.out HW2.out).drew.drew⟩
    have FIN := Lib.hid (FF.out hu hv)
    subst hu
    subst hv
    have hstep : ∀ j, j < k + 1 → x.nd.spots[j]? = y.nd.spots[j]? := fun j hj => by
      by_cases h : j < k
      · exact HS.out j h
      · obtain rfl : j = k := by omega
        exact FIN.out
    have HST := Lib.hid hstep
    clear hstep
    go_wp2_with fail
    go_region
    all_goals
      go_wp2_with fail
      refine ⟨⟨k + 1, by omega, by go_num, Lib.hid (by first | exact HW2.out | exact HW2.out.drew | exact HW2.out.drew.drew), HST.out⟩, ?_⟩
      simp [intOf] <;> omega
  obtain rfl : a1 = k := by omega
  have E1 := Lib.hid (show x.nd.spots = y.nd.spots from by
    apply List.ext_getElem?
    intro j
    by_cases hj : j < a1
    · exact hsame j hj
    · rw [List.getElem?_eq_none, List.getElem?_eq_none]
      · have h := HA.out.2.1.2; have h2 : ecn y.nd 1 = y.nd.spots.length := rfl; omega
      · have h := HA.out.2.1.1; have h2 : ecn x.nd 1 = x.nd.spots.length := rfl; omega)
  clear hsame
  go_wp2_with fail
  go_loopw [7] (fun i wr => ∃ k : Nat, k ≤ a2 ∧ i = .int .i64 k ∧ Hid (Below W.heap.size W wr) ∧ ∀ j, j < k → x.nd.subs[j]? = y.nd.subs[j]?) (fun i _ => a2 - (intOf i).toNat)
  case atStart => exact ⟨0, Nat.zero_le _, rfl, HW2, fun j h => absurd h (by omega)⟩
  obtain ⟨k, hk, rfl, HW3, hsame⟩ := hrel
  have t4 := (HW3.out.cell (p := ⟨w.heap.size, 4, none⟩) (by show w.heap.size < _; omega)).trans T.out.2.2.1
  have u4 := (HW3.out.cell (p := ⟨w.heap.size + 1, 4, none⟩) (by exact hz)).trans T.out.2.2.2
  by_cases hlt : k < a2
  case pos =>
    obtain ⟨g, rfl, hg, hc⟩ := HD.out.2.2.1 (by omega)
    obtain ⟨g2, rfl, hg2, hc2⟩ := HD.out.2.2.2 (by omega)
    have HS := Lib.hid hsame
    clear hsame
    obtain ⟨sx, hsx⟩ : ∃ s, x.nd.subs[k]? = some s := ⟨_, List.getElem?_eq_getElem (by have h := HA.out.2.2.1; show k < ecn x.nd 2; omega)⟩
    obtain ⟨sy, hsy⟩ : ∃ s, y.nd.subs[k]? = some s := ⟨_, List.getElem?_eq_getElem (by have h := HA.out.2.2.2; show k < ecn y.nd 2; omega)⟩
    have k1 : wr.cell? ⟨g, k, none⟩ = some (.int .i64 (sx : Nat)) := (HW3.out.cell (p := ⟨g, k, none⟩) (by exact hg)).trans (hc k _ (inC_at _ _ _ hsx))
    have k2 : wr.cell? ⟨g2, k, none⟩ = some (.int .i64 (sy : Nat)) := (HW3.out.cell (p := ⟨g2, k, none⟩) (by exact hg2)).trans (hc2 k _ (inC_at _ _ _ hsy))
    obtain ⟨ux, hux⟩ : ∃ u : Int, u = (sx : Nat) := ⟨_, rfl⟩
    obtain ⟨uy, huy⟩ : ∃ u : Int, u = (sy : Nat) := ⟨_, rfl⟩
    rw [← hux] at k1
    rw [← huy] at k2
    have NN := Lib.hid (show x.nd = y.nd → ux = uy from fun e => by rw [e, hsy] at hsx; rw [hux, huy, Option.some.inj hsx])
    have FF := Lib.hid (show ux = uy → x.nd.subs[k]? = y.nd.subs[k]? from fun e => by rw [hsx, hsy, show sx = sy by omega])
    clear hg hg2 hc hc2 hsx hsy hux huy
    by_cases hu : ux = uy
    case neg =>
      obtain rfl := HRR.out.trans (no_of NN.out hu)
      have hu2 : (ux == uy) = false := by simpa using hu
      go_wp2_with fail
      go_region
      all_goals
        go_wp2_with fail
        go_ret
        exact ⟨rfl, by first | exact below_tr HB.out HW3.out | exact (below_tr HB.out HW3.out).drew | exact (below_tr HB.out HW3.out).drew.drew⟩
    case pos =>
      have FIN := Lib.hid (FF.out hu)
      subst hu
      have hstep : ∀ j, j < k + 1 → x.nd.subs[j]? = y.nd.subs[j]? := fun j hj => by
        by_cases h : j < k
        · exact HS.out j h
        · obtain rfl : j = k := by omega
          exact FIN.out
      have HST := Lib.hid hstep
      clear hstep
      go_wp2_with fail
      go_region
      all_goals
        go_wp2_with fail
        refine ⟨⟨k + 1, by omega, by go_num, Lib.hid (by first | exact HW3.out | exact HW3.out.drew | exact HW3.out.drew.drew), HST.out⟩, ?_⟩
        simp [intOf] <;> omega
  obtain rfl : a2 = k := by omega
  have E2 := Lib.hid (show x.nd.subs = y.nd.subs from by
    apply List.ext_getElem?
    intro j
    by_cases hj : j < a2
    · exact hsame j hj
    · rw [List.getElem?_eq_none, List.getElem?_eq_none]
      · have h := HA.out.2.2.2; have h2 : ecn y.nd 2 = y.nd.subs.length := rfl; omega
      · have h := HA.out.2.2.1; have h2 : ecn x.nd 2 = x.nd.subs.length := rfl; omega)
  clear hsame
  have hyes : x.nd = y.nd := by
    obtain ⟨⟨⟨h1, h2⟩, h3, h4⟩, ⟨h5, h6⟩, h7, h8⟩ := HK.out
    have hk : x.nd.kind = y.nd.kind := by omega
    have ht : x.nd.text = y.nd.text := txt_inj (h3.symm.trans h4)
    have hp : x.nd.span = y.nd.span := Prod.ext (by omega) (by omega)
    have := E0.out
    have := E1.out
    have := E2.out
    cases hx : x.nd
    cases hy : y.nd
    simp_all
  obtain rfl := HRR.out.trans (decide_eq_true hyes)
  go_wp2_with fail
  go_ret
  exact ⟨rfl, below_tr HB.out HW3.out⟩
end Jt
end Go.Proofs.YtdclhepjoifpiaaGreatDoor
