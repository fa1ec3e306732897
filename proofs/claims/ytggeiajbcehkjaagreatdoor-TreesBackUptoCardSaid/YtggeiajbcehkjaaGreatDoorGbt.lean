/- What the law TreesBack asks of what landed, for the tree of a value that may be; its nodes copied, with one more, with a Sub twice. -/
import Derived.Test.YtggeiajbcehkjaaGreatDoorHbb
import Derived.Test.YtggeiajbcehkjaaGreatDoorGbs
import Derived.Test.YtggeiajbcehkjaaGreatDoorGbr
import Derived.Test.YtggeiajbcehkjaaGreatDoorGbg
import Derived.Test.YtggeiajbcehkjaaGreatDoorGax
import Derived.Test.YtggeiajbcehkjaaGreatDoorGay
import Derived.Deep.AppendLies
import Derived.Laws.OwnMore
namespace Go.Proofs.YtggeiajbcehkjaaGreatDoor
open Go.RowKit
open Va (Bs V v0 Tx Vm Vk vO below_tr below_new heap_alloc_new get_lt vcells iM)
namespace Tt
set_option maxRecDepth 100000

theorem one_sum : ∀ l : List Nat, (l.map fun _ => 1).sum = l.length
  | [] => rfl
  | _ :: r => by rw [List.map_cons, List.sum_cons, one_sum r, List.length_cons]; omega
theorem wNs_app : ∀ (a b : List Nd), wNs (a ++ b) = wNs a + wNs b
  | [], b => by rw [List.nil_append, wNs, Nat.zero_add]
  | x :: r, b => by rw [List.cons_append, wNs, wNs, wNs_app r b]; omega
theorem wNs_set : ∀ {l : List Nd} {i : Nat} {x y : Nd}, l[i]? = some x → wN y ≤ wN x → wNs (l.set i y) ≤ wNs l
  | [], _, _, _, h, _ => by simp at h
  | z :: r, 0, x, y, h, hy => by
    obtain rfl : z = x := by simpa using h
    rw [List.set_cons_zero, wNs, wNs]; omega
  | z :: r, i + 1, x, y, h, hy => by
    have := wNs_set (l := r) (i := i) (x := x) (y := y) (by simpa using h) hy
    rw [List.set_cons_succ, wNs, wNs]; omega
mutual
theorem wNs_nds : ∀ (b : Nat) (x : V), wNs (nds b x) + 1 ≤ 3 * Va.wt x
  | b, .mk k t l ks => by
    have := wNs_ndsL (b + 1) l
    rw [nds, wNs, Va.wt]
    unfold wN
    simp only [List.length_map, posL_len, List.length_replicate]
    omega
theorem wNs_ndsL : ∀ (b : Nat) (l : List V), wNs (ndsL b l) + l.length ≤ 3 * Va.wtL l
  | _, [] => Nat.le_refl _
  | b, x :: r => by
    have := wNs_nds b x
    have := wNs_ndsL (b + Va.sz x) r
    rw [ndsL, wNs_app, Va.wtL, List.length_cons]; omega
end
theorem mk_wn {x : V} (hm : Va.may x = true) (hx : Va.wt x ≤ 1500) : wNs (mkT x).nodes ≤ 4500 := by
  have := wNs_nds 0 x
  rw [mkT_yes hm]
  show wNs (nds 0 x) ≤ 4500
  omega
/-- The cells of a row of nodes. -/
theorem nx_from {w : World} {g : Nat} : ∀ (L : List Nd) (o : Nat), (∀ i x, L[i]? = some x → ∃ K S U a b c, (∀ (j : Nat) (u : Value), (ndC x K S U a b c)[j]? = some u → w.cell? ⟨g, o + i * 7 + j, none⟩ = some u) ∧ Nr w x K S U a b c) →
    ∃ ys : List Value, ys.length = L.length * 7 ∧ (∀ u ∈ ys, u.oneCell' = true) ∧ (∀ (j : Nat) (u : Value), ys[j]? = some u → w.cell? ⟨g, o + j, none⟩ = some u) ∧
      ∀ i x, L[i]? = some x → ∃ K S U a b c, (∀ (j : Nat) (u : Value), (ndC x K S U a b c)[j]? = some u → ys[i * 7 + j]? = some u) ∧ Nr w x K S U a b c
  | [], o, _ => ⟨[], rfl, fun u h => (by cases h), fun j u h => (by simp at h), fun i x h => (by simp at h)⟩
  | x :: r, o, h => by
    obtain ⟨K, S, U, a, b, c, h1, h2⟩ := h 0 x rfl
    obtain ⟨ys, y1, y2, y3, y4⟩ := nx_from r (o + 7) fun i y hy => by
      obtain ⟨K, S, U, a, b, c, e1, e2⟩ := h (i + 1) y (by simpa using hy)
      exact ⟨K, S, U, a, b, c, fun j u hu => by rw [show o + 7 + i * 7 + j = o + (i + 1) * 7 + j by omega]; exact e1 j u hu, e2⟩
    have hl : (ndC x K S U a b c).length = 7 := rfl
    refine ⟨ndC x K S U a b c ++ ys, by rw [List.length_append, hl, y1, List.length_cons]; omega, fun u hu => ?_, fun j u hu => ?_, fun i y hy => ?_⟩
    · rcases List.mem_append.1 hu with hu | hu
      · simp only [ndC, List.mem_cons, List.not_mem_nil, or_false] at hu
        rcases hu with rfl | rfl | rfl | rfl | rfl | rfl | rfl <;> rfl
      · exact y2 u hu
    · by_cases hj : j < 7
      · rw [List.getElem?_append_left (by rw [hl]; exact hj)] at hu
        have := h1 j u hu
        rwa [Nat.zero_mul, Nat.add_zero] at this
      · rw [List.getElem?_append_right (by rw [hl]; omega), hl] at hu
        have := y3 _ u hu
        rwa [show o + 7 + (j - 7) = o + j by omega] at this
    · cases i with
      | zero =>
        obtain rfl : x = y := by simpa using hy
        refine ⟨K, S, U, a, b, c, fun j u hu => ?_, h2⟩
        have hj := (List.getElem?_eq_some_iff.1 hu).1
        rw [Nat.zero_mul, Nat.zero_add, List.getElem?_append_left hj]; exact hu
      | succ i =>
        obtain ⟨K, S, U, a, b, c, e1, e2⟩ := y4 i y (by simpa using hy)
        refine ⟨K, S, U, a, b, c, fun j u hu => ?_, e2⟩
        rw [List.getElem?_append_right (by rw [hl]; omega), hl, show (i + 1) * 7 + j - 7 = i * 7 + j by omega]; exact e1 j u hu
/-- What a list of cells says of nodes. -/
def Nc7 (w : World) (ys : List Value) (L : List Nd) : Prop := ∀ i x, L[i]? = some x → ∃ K S U a b c, (∀ (j : Nat) (u : Value), (ndC x K S U a b c)[j]? = some u → ys[i * 7 + j]? = some u) ∧ Nr w x K S U a b c
theorem Nc7.on {w w' : World} {ys : List Value} {L : List Nd} (h : Nc7 w ys L) (hb : Below w.heap.size w w') : Nc7 w' ys L := fun i x hi => by
  obtain ⟨K, S, U, a, b, c, e1, e2⟩ := h i x hi
  exact ⟨K, S, U, a, b, c, e1, e2.on hb⟩
theorem nx_cells {w : World} {g o : Nat} {L : List Nd} (h : Nx w (some ⟨g, o, none⟩) L) (h0 : 0 < L.length) :
    g < w.heap.size ∧ ∃ ys : List Value, ys.length = L.length * 7 ∧ (∀ u ∈ ys, u.oneCell' = true) ∧ (∀ (j : Nat) (u : Value), ys[j]? = some u → w.cell? ((⟨g, o, none⟩ : Addr).add j) = some u) ∧ Nc7 w ys L := by
  obtain ⟨g', o', e, hg, hf⟩ := h h0
  injection e with e
  injection e with e1 e2 _
  subst e1 e2
  obtain ⟨ys, y1, y2, y3, y4⟩ := nx_from L o hf
  exact ⟨hg, ys, y1, y2, fun j u hu => by rw [addAt]; exact y3 j u hu, y4⟩
theorem cells_nx {w : World} {g : Nat} {ys : List Value} {L : List Nd} (hg : g < w.heap.size) (hc : ∀ (j : Nat) (u : Value), ys[j]? = some u → w.cell? ⟨g, j, none⟩ = some u) (h : Nc7 w ys L) : Nx w (some ⟨g, 0, none⟩) L := fun _ =>
  ⟨g, 0, rfl, hg, fun i x hi => by
    obtain ⟨K, S, U, a, b, c, e1, e2⟩ := h i x hi
    exact ⟨K, S, U, a, b, c, fun j u hu => by rw [Nat.zero_add]; exact hc _ u (e1 j u hu), e2⟩⟩
/-- A node of nothing. -/
def zN : Nd := ⟨0, [], [], [], [], (0, 0)⟩
abbrev zC : List Value := [.int .u8 0, .string ⟨#[]⟩, .slice none 0 0, .slice none 0 0, .slice none 0 0, .int .i64 0, .int .i64 0]
theorem zN_nr (w : World) : Nr w zN none none none 0 0 0 :=
  ⟨(by show 0 < 256; omega), ⟨Nat.le_refl _, Nat.zero_le _, fun _ => rfl⟩, ⟨Nat.le_refl _, Nat.zero_le _, fun _ => rfl⟩, ⟨Nat.le_refl _, Nat.zero_le _, fun _ => rfl⟩, fun h => absurd h (by show ¬ 0 < 0; omega), fun h => absurd h (by show ¬ 0 < 0; omega), fun h => absurd h (by show ¬ 0 < 0; omega), by show i64 0 ∧ i64 0; unfold i64; omega⟩
theorem zN_cells : ndC zN none none none 0 0 0 = zC := rfl
/-- With a node of nothing more. -/
theorem Nc7.more {w : World} {ys : List Value} {L : List Nd} (h : Nc7 w ys L) (hl : ys.length = L.length * 7) : Nc7 w (ys ++ zC) (L ++ [zN]) := fun i x hi => by
  by_cases h1 : i < L.length
  · rw [List.getElem?_append_left h1] at hi
    obtain ⟨K, S, U, a, b, c, e1, e2⟩ := h i x hi
    refine ⟨K, S, U, a, b, c, fun j u hu => ?_, e2⟩
    have := e1 j u hu
    rw [List.getElem?_append_left (List.getElem?_eq_some_iff.1 this).1]; exact this
  · have h2 : i = L.length := by
      have := (List.getElem?_eq_some_iff.1 hi).1
      rw [List.length_append, List.length_singleton] at this; omega
    subst h2
    rw [List.getElem?_append_right (Nat.le_refl _), Nat.sub_self] at hi
    obtain rfl : zN = x := by simpa using hi
    refine ⟨none, none, none, 0, 0, 0, fun j u hu => ?_, zN_nr w⟩
    rw [List.getElem?_append_right (by omega), hl, show L.length * 7 + j - L.length * 7 = j by omega, ← zN_cells]; exact hu
/-- With another row of Subs at one of them. -/
theorem Nc7.field {w : World} {ys : List Value} {L : List Nd} {n : Nat} {x : Nd} {U : Option Addr} {c : Nat} {r : List Int} (h : Nc7 w ys L) (hx : L[n]? = some x) (hr : r.length ≤ c ∧ c ≤ maxLen ∧ (U = none → c = 0)) (hU : Ix w U r) (hl : ys.length = L.length * 7) :
    Nc7 w (ys.set (n * 7 + 4) (.slice U r.length c)) (L.set n { x with subs := r }) := fun i y hi => by
  have hn := (List.getElem?_eq_some_iff.1 hx).1
  by_cases h1 : i = n
  · subst h1
    rw [List.getElem?_set_self hn] at hi
    obtain rfl : { x with subs := r } = y := by simpa using hi
    obtain ⟨K, S, U0, a, b, c0, e1, e2⟩ := h i x hx
    refine ⟨K, S, U, a, b, c, fun j u hu => ?_, ⟨e2.k, e2.ka, e2.sb, hr, e2.keys, e2.spots, hU, e2.span⟩⟩
    by_cases h4 : j = 4
    · subst h4
      obtain rfl : Value.slice U r.length c = u := by simpa [ndC] using hu
      rw [List.getElem?_set_self (by omega)]
    · rw [List.getElem?_set_ne (by omega)]
      refine e1 j u ?_
      have hj : j < 7 := (List.getElem?_eq_some_iff.1 hu).1
      rw [← hu]
      match j, h4, hj with
      | 0, _, _ => rfl
      | 1, _, _ => rfl
      | 2, _, _ => rfl
      | 3, _, _ => rfl
      | 5, _, _ => rfl
      | 6, _, _ => rfl
  · rw [List.getElem?_set_ne (by omega)] at hi
    obtain ⟨K, S, U0, a, b, c0, e1, e2⟩ := h i y hi
    refine ⟨K, S, U0, a, b, c0, fun j u hu => ?_, e2⟩
    have hj : j < 7 := (List.getElem?_eq_some_iff.1 hu).1
    rw [List.getElem?_set_ne (by omega)]; exact e1 j u hu

section
variable {x : V}
theorem part_facts (hm : Va.may x = true) {n : Nat} (hn : n < Va.sz x) : hasV (mkT x) n = true ∧ Va.may (VT (mkT x) n) = true ∧ Va.sz (VT (mkT x) n) = (pre (mkT x).sub 256 n).length ∧ okD (mkT x).sub (mkT x).leaf 256 n := by
  have hf := mk_fit hm
  have hl := mk_len hm
  have h1 : hasV (mkT x) n = true := by
    classical
    unfold hasV
    exact decide_eq_true ⟨hf, by omega, by omega⟩
  refine ⟨h1, VT_may h1, ?_, hf.okD (by omega)⟩
  rw [(VT_yes h1).1]
  exact valT_sz hf.ins (by omega)
theorem law_make {v : Value} (w : World) (hv : Vm w v x) (hm : Va.may x = true) (hx : Va.wt x ≤ 1500) :
    Calls Tryz.prog 21 #[v] w fun e w' => (∃ g, e = .returned (.tuple #[.agg #[.slice (some ⟨g, 0, none⟩) (Va.sz x) (Va.sz x), .int .i64 0], .bool true]) ∧ Tm w' (.agg #[.slice (some ⟨g, 0, none⟩) (Va.sz x) (Va.sz x), .int .i64 0]) (mkT x)) ∧ Below w.heap.size w w' := by
  refine (tMake_any w hv (by omega)).mono ?_
  rintro e w' ⟨⟨u, rfl, h⟩, hb⟩
  refine ⟨?_, hb⟩
  have ht := h.tm
  rcases h with ⟨_, g, B, rfl, _⟩ | ⟨h0, _⟩
  · exact ⟨g, by rw [hm], ht⟩
  · rw [hm] at h0; cases h0
theorem law_val {n : Nat} {v : Value} (w : World) (hv : Tm w v (mkT x)) (hm : Va.may x = true) (hx : Va.wt x ≤ 1500) (hn : n < Va.sz x) :
    Calls Tryz.prog 10 #[v, .int .i64 (n : Nat)] w fun e w' => (∃ u, e = .returned (.tuple #[u, .bool true]) ∧ Vm w' u (VT (mkT x) n)) ∧ Below w.heap.size w w' := by
  have h1 := mk_wn hm hx
  have h2 := szw x
  refine (tValue_any w hv (by omega) (show i64 ((n : Nat) : Int) by unfold i64; omega)).mono ?_
  rintro e w' ⟨⟨u, rfl, ok, h, _⟩, hb⟩
  exact ⟨⟨u, by rw [(part_facts hm hn).1], h.vm⟩, hb⟩
theorem law_may {v : Value} (w : World) (hv : Tm w v (mkT x)) (hm : Va.may x = true) (hx : Va.wt x ≤ 1500) :
    Calls Tryz.prog 12 #[v] w fun e w' => e = .returned (.bool true) ∧ Below w.heap.size w w' :=
  tmay_any w hv (by have := mk_wn hm hx; omega) ⟨fun _ => mk_fit hm, fun _ => rfl⟩
theorem law_size {n : Nat} {v : Value} (w : World) (hv : Tm w v (mkT x)) (hm : Va.may x = true) (hx : Va.wt x ≤ 1500) (hn : n < Va.sz x) :
    Calls Tryz.prog 32 #[v, .int .i64 (n : Nat), .int .i64 300] w fun e w' => e = .returned (.int .i64 (Va.sz (VT (mkT x) n) : Nat)) ∧ Below w.heap.size w w' := by
  have hf := mk_fit hm
  have hw := mk_wn hm hx
  have hl := mk_len hm
  obtain ⟨p1, p2, p3, p4⟩ := part_facts hm hn
  have hsz := szw x
  have hle : (pre (mkT x).sub 256 n).length ≤ 2000 := by
    have ho := (ref_fit.2 hf).onep
    have hn2 : n < (mkT x).nodes.length := by omega
    obtain ⟨a, ha⟩ := pre_rch (hf.per.mem_iff.2 (List.mem_range.2 hn2))
    have h2 := nodup_sum (fun _ => 1) (mkT x).nodes.length _ (ho.nodup (f := 256) ha) (pre_lt (sub_lt hf.ins) hn2)
    rw [one_sum, one_sum, List.length_range] at h2
    omega
  rw [p3]
  exact size_any (t := mkT x) ⟨by omega, fun y hy => by
    have h1 := wNs_subs hy
    have h2 : wN y ≤ wNs (mkT x).nodes := by
      obtain ⟨i, hi⟩ := List.getElem?_of_mem hy
      exact wNs_get hi
    unfold wN at h2
    omega⟩ hf.shp hf.ins 256 n 300 (by omega) (Nat.le_refl _) (by omega) p4 hle w v hv
theorem law_vsize {n : Nat} {v : Value} (w : World) (hv : Vm w v (VT (mkT x) n)) (hm : Va.may x = true) (hx : Va.wt x ≤ 1500) (hn : n < Va.sz x) :
    Calls Tryz.prog 31 #[v] w fun e w' => e = .returned (.int .i64 (Va.sz (VT (mkT x) n) : Nat)) ∧ Below w.heap.size w w' := by
  have h := Va.lsize_any w hv (VT_wt (by have := mk_wn hm hx; omega))
  rw [(part_facts hm hn).2.1] at h
  exact h
theorem law_same {n : Nat} {v : Value} (w : World) (hv : Tm w v (mkT x)) (hm : Va.may x = true) (hx : Va.wt x ≤ 1500) (hn : n < Va.sz x) :
    Calls Tryz.prog 15 #[v, .int .i64 (n : Nat), v, .int .i64 (n : Nat)] w fun e w' => e = .returned (.bool true) ∧ Below w.heap.size w w' := by
  have h1 := mk_wn hm hx
  have h2 := szw x
  have hi : i64 ((n : Nat) : Int) := by unfold i64; omega
  have h := tSame_any w hv hv (by omega) (by omega) hi hi
  rw [(part_facts hm hn).1, Va.sm_self] at h
  exact h
theorem law_more {v : Value} (w : World) (hv : Tm w v ⟨(mkT x).nodes ++ [zN], 0⟩) (hm : Va.may x = true) (hx : Va.wt x ≤ 1500) :
    Calls Tryz.prog 12 #[v] w fun e w' => e = .returned (.bool false) ∧ Below w.heap.size w w' := by
  refine tmay_any w hv ?_ ⟨fun h => (by cases h), fun h => ?_⟩
  · have h1 := mk_wn hm hx
    show wNs ((mkT x).nodes ++ [zN]) ≤ 1000000
    rw [wNs_app]
    have h2 : wNs [zN] = 1 := by decide
    omega
  · have h0 : (mkT x).root = 0 := by rw [mkT_yes hm]
    have := more_no (x := zN) (mk_fit hm)
    rw [h0] at this
    exact absurd h this
theorem law_twice {n : Nat} {y : Nd} {a b : Int} {r : List Int} {v : Value} (w : World) (hy : (mkT x).nodes[n]? = some y) (hs : y.subs = b :: a :: r) (hv : Tm w v ⟨(mkT x).nodes.set n { y with subs := y.subs.set 0 a }, 0⟩) (hm : Va.may x = true) (hx : Va.wt x ≤ 1500) :
    Calls Tryz.prog 12 #[v] w fun e w' => e = .returned (.bool false) ∧ Below w.heap.size w w' := by
  refine tmay_any w hv ?_ ⟨fun h => (by cases h), fun h => ?_⟩
  · have h1 := mk_wn hm hx
    have h2 := wNs_set (y := { y with subs := y.subs.set 0 a }) hy (by unfold wN; simp)
    show wNs ((mkT x).nodes.set n { y with subs := y.subs.set 0 a }) ≤ 1000000
    omega
  · have hn := (List.getElem?_eq_some_iff.1 hy).1
    exact absurd h (twice_no (n := n) (x := { y with subs := y.subs.set 0 a }) (a := a) (r := r) (List.getElem?_set_self hn) (by show y.subs.set 0 a = _; rw [hs]; rfl))
end
end Tt
end Go.Proofs.YtggeiajbcehkjaaGreatDoor
/- A row of nodes put together in a region that draws; the blocks beside it. -/
namespace Go.Proofs.YtggeiajbcehkjaaGreatDoor
open Go.RowKit
open Va (Bs V v0 below_tr below_new heap_alloc_new own_on own_cells)
namespace Tt
set_option maxRecDepth 100000

/-- A tree's block, just made; a row of one node of nothing. -/
abbrev t0O : Obj := tO (.slice none 0 0) (.int .i64 0)
abbrev zO : Obj := .cells #[.int .u8 0, .string ⟨#[]⟩, .slice none 0 0, .slice none 0 0, .slice none 0 0, .int .i64 0, .int .i64 0] 59
/-- A row of nodes of one's own, midway; a tree's block that is made for it, a node's, if they are. -/
structure NvS (B W : World) (v : Value) (n : Nat) (xs : List Value) (gt gz : Option Nat) : Prop where
  below : Below B.heap.size B W
  own : W.ownsRow B.heap.size 59 7 v n xs
  ap : ∀ g, gt = some g → W.heap[g]? = some t0O ∧ B.heap.size ≤ g ∧ v.ownBlock ≠ some g
  az : ∀ g, gz = some g → W.heap[g]? = some zO ∧ v.ownBlock ≠ some g
theorem NvS.start (B : World) : NvS B B (.slice none 0 0) 0 [] none none :=
  ⟨Below.refl _ _, World.ownsRow_nil .., fun g h => (by cases h), fun g h => (by cases h)⟩
section
variable {B W W5 : World} {v v' : Value} {n n' : Nat} {xs xs' : List Value} {gt gz : Option Nat}
theorem NvS.dr (H : NvS B W v n xs gt gz) : NvS B W.drew v n xs gt gz := ⟨H.below.drew, H.own, H.ap, H.az⟩
theorem NvS.grow (H : NvS B W v n xs gt gz) (own : W5.ownsRow B.heap.size 59 7 v' n' xs') (hg : W.grownBy W5 v.ownBlock) (hb : v'.ownBlock = v.ownBlock ∨ v'.ownBlock = some W.heap.size) : NvS B W5 v' n' xs' gt gz where
  below := Below.grown H.below hg H.below.size (fun g e => (H.own.lt g e).1)
  own := own
  ap := fun g e => by
    obtain ⟨h1, h2, h3⟩ := H.ap g e
    have hlt : g < W.heap.size := (Array.getElem?_eq_some_iff.1 h1).1
    refine ⟨(hg.block g hlt (fun e2 => h3 e2.symm)).trans h1, h2, ?_⟩
    rcases hb with hb | hb
    · rw [hb]; exact h3
    · rw [hb]; intro e2; injection e2 with e2; omega
  az := fun g e => by
    obtain ⟨h1, h3⟩ := H.az g e
    have hlt : g < W.heap.size := (Array.getElem?_eq_some_iff.1 h1).1
    refine ⟨(hg.block g hlt (fun e2 => h3 e2.symm)).trans h1, ?_⟩
    rcases hb with hb | hb
    · rw [hb]; exact h3
    · rw [hb]; intro e2; injection e2 with e2; omega
theorem NvS.grow2 {g5 c5 : Nat} (H : NvS B W v n xs gt gz) (own : W5.ownsRow B.heap.size 59 7 (.slice (some ⟨g5, 0, none⟩) n' c5) n' xs') (hg : W.grownBy W5 v.ownBlock) (hb : v.ownBlock = some g5 ∨ g5 = W.heap.size) : NvS B W5 (.slice (some ⟨g5, 0, none⟩) n' c5) n' xs' gt gz :=
  H.grow own hg (hb.elim (fun e => .inl ((show (Value.slice (some ⟨g5, 0, none⟩) n' c5).ownBlock = some g5 from rfl).trans e.symm)) (fun e => .inr (show some g5 = some W.heap.size from congrArg some e)))
/-- More behind a row of nodes, in a region that draws. -/
theorem step_nodes {ops : Array Oper} {o : Oper} {a : Act} {K : Act → World → Prop} {Q : Exit → Act → World → Prop} {E : Prop} (hgd : o.guard = none) (s x : Operand)
    (ho : o.op = .call { callee := .builtin .append, args := #[s, x], argTypes := #[22, 22] }) (H : NvS B W v n xs gt gz) (hs : a.eval s = v)
    (ad : Addr) (m c : Nat) (news : List Value) (hx : a.eval x = .slice (some ad) m c) (hl : news.length = m * 7) (hnews : ∀ (j : Nat) (u : Value), news[j]? = some u → W.cell? (ad.add j) = some u) (h1 : ∀ u ∈ news, u.oneCell' = true)
    (hm : 0 < m) (n1 : Nat) (hn1 : n + m = n1) (h63 : n1 ≤ 1000000)
    (h : ∀ g5 c5 w5, NvS B w5 (.slice (some ⟨g5, 0, none⟩) n1 c5) n1 (xs ++ news) gt gz → K (a.put o.dst (.slice (some ⟨g5, 0, none⟩) n1 c5)) w5) :
    if Region.wanted o (yielded ops a.tmps) = true then Oper.wp Tryz.prog o a W K Q else E := by
  obtain ⟨ii, hi, hz0, hz1, hz2⟩ := info_parts (show (Tryz.prog.info? 59).map (fun i => (i.zero, i.size, i.bytes)) = some (some (.agg #[.int .u8 0, .string ⟨#[]⟩, .slice none 0 0, .slice none 0 0, .slice none 0 0, .int .i64 0, .int .i64 0]), 7, 112) by kernel_rfl)
  subst hn1
  exact step_append_lies W hgd s x _ ho B.heap.size _ ii _ 7 112 Tryz.underlying22 hi hz0 hz1 hz2 rfl (by decide) v n xs hs H.own ad m c news hx hl hnews h1 hm (by unfold maxLen; omega) (by omega) H.below.size _ rfl fun g5 c5 w5 o5 hg hb _ => h g5 c5 w5 (H.grow2 o5 hg hb)
theorem zC_one : ∀ u ∈ zC, u.oneCell' = true := by
  intro u hu
  simp only [zC, List.mem_cons, List.not_mem_nil, or_false] at hu
  rcases hu with rfl | rfl | rfl | rfl | rfl | rfl | rfl <;> rfl
theorem al_old {W : World} {g : Nat} {o p : Obj} (h : W.heap[g]? = some o) : (W.alloc p).heap[g]? = some o := ((below_new W p).block g (Array.getElem?_eq_some_iff.1 h).1).trans h
theorem NvS.alT (H : NvS B W v n xs none gz) : NvS B (W.alloc t0O) v n xs (some W.heap.size) gz where
  below := H.below.alloc H.below.size _
  own := H.own.alloc _
  ap := fun g e => by
    injection e with e; subst e
    exact ⟨heap_alloc_new _ _, H.below.size, fun e => by have := (H.own.lt _ e).2; omega⟩
  az := fun g e => ⟨al_old (H.az g e).1, (H.az g e).2⟩
theorem NvS.alZ (H : NvS B W v n xs gt none) : NvS B (W.alloc zO) v n xs gt (some W.heap.size) where
  below := H.below.alloc H.below.size _
  own := H.own.alloc _
  ap := fun g e => ⟨al_old (H.ap g e).1, (H.ap g e).2⟩
  az := fun g e => by
    injection e with e; subst e
    exact ⟨heap_alloc_new _ _, fun e => by have := (H.own.lt _ e).2; omega⟩
theorem zC_len : zC.length = 1 * 7 := rfl
theorem NvS.zcells {B W : World} {v : Value} {n : Nat} {xs : List Value} {gt : Option Nat} {g : Nat} (H : NvS B W v n xs gt (some g)) : ∀ (j : Nat) (u : Value), zC[j]? = some u → W.cell? ((⟨g, 0, none⟩ : Addr).add j) = some u := World.news_of_block (H.az g rfl).1
/-- The tree's block and its row. -/
structure NvR (B W : World) (g : Nat) (v : Value) (n : Nat) (xs : List Value) : Prop where
  below : Below B.heap.size B W
  blk : W.heap[g]? = some (tO v (.int .i64 0))
  lo : B.heap.size ≤ g
  own : W.ownsRow B.heap.size 59 7 v n xs
  ne : v.ownBlock ≠ some g
theorem NvS.finL (H : NvS B W v n xs none gz) : NvR B (W.alloc (tO v (.int .i64 0))) W.heap.size v n xs where
  below := H.below.alloc H.below.size _
  blk := heap_alloc_new _ _
  lo := H.below.size
  own := H.own.alloc _
  ne := fun e => by have := (H.own.lt _ e).2; omega
theorem NvS.fin {g : Nat} (H : NvS B W v n xs (some g) gz) : NvR B ((W.setCell ⟨g, 0, none⟩ v).setCell ⟨g, 1, none⟩ (.int .i64 0)) g v n xs := by
  obtain ⟨h1, h2, h3⟩ := H.ap g rfl
  have o0 : ∀ q, q ≠ g → ((W.setCell ⟨g, 0, none⟩ v).setCell ⟨g, 1, none⟩ (.int .i64 0)).heap[q]? = W.heap[q]? := fun q hq => by
    rw [Go.RowKit.Below.heap_setCell _ _ _ _ hq, Go.RowKit.Below.heap_setCell _ _ _ _ hq]
  refine ⟨(H.below.setCell (p := ⟨g, 0, none⟩) h2 _).setCell (p := ⟨g, 1, none⟩) h2 _, ?_, h2, own_on H.own fun q e => o0 q (fun e2 => h3 (e2 ▸ e)), h3⟩
  have e1 : (W.setCell ⟨g, 0, none⟩ v).heap[g]? = some (tO v (.int .i64 0)) := Go.heap_setCell_same W g 0 _ _ v h1
  exact Go.heap_setCell_same _ g 1 _ _ (.int .i64 0) e1
end
/-- A tree's row of nodes. -/
theorem tm_nx {W : World} {g n c : Nat} {t : Tr} (h : Tm W (.agg #[.slice (some ⟨g, 0, none⟩) n c, .int .i64 0]) t) : n = t.nodes.length ∧ t.root = 0 ∧ Nx W (some ⟨g, 0, none⟩) t.nodes := by
  obtain ⟨A1, c1, e, _, _, _, _, hN⟩ := h
  injection e with e
  injection e with e
  injection e with e1 e2
  injection e2 with e2 _
  injection e1 with e1 e3 _
  injection e2 with _ e2
  subst e1
  exact ⟨e3, e2.symm, hN⟩
/-- A tree that was put together so. -/
theorem row_tm {W : World} {base A0 cap n : Nat} {xs : List Value} {L : List Nd} (own : W.ownsRow base 59 7 (.slice (some ⟨A0, 0, none⟩) n cap) n xs) (hn : n = L.length) (h0 : 0 < n) (hc : Nc7 W xs L) : Tm W (.agg #[.slice (some ⟨A0, 0, none⟩) n cap, .int .i64 0]) ⟨L, 0⟩ := by
  obtain ⟨A, c, e, h1, h2, h3⟩ := Va.own_shape own
  obtain ⟨g, e', hb, hlt, hf⟩ := own_cells own h0
  injection e' with e'
  injection e' with e' _ _
  subst e'
  injection e with e1 _ e2
  subst e1 e2 hn
  exact ⟨_, cap, rfl, h1, h2, h3, (show i64 0 from by unfold i64; omega), cells_nx hlt hf hc⟩
/-- A row of one's own with another cell. -/
theorem row_set {W : World} {base A0 cap n : Nat} {xs : List Value} {j : Nat} {u : Value} (own : W.ownsRow base 59 7 (.slice (some ⟨A0, 0, none⟩) n cap) n xs) (h0 : 0 < n) (hj : j < xs.length) :
    A0 < (W.setCell ⟨A0, j, none⟩ u).heap.size ∧ ∀ (i : Nat) (y : Value), (xs.set j u)[i]? = some y → (W.setCell ⟨A0, j, none⟩ u).cell? ⟨A0, i, none⟩ = some y := by
  obtain ⟨g, e', hb, hlt, hf⟩ := own_cells own h0
  injection e' with e'
  injection e' with e' _ _
  subst e'
  refine ⟨Nat.lt_of_lt_of_le hlt ((Below.refl base W).setCell (p := ⟨A0, j, none⟩) hb u).size, fun i y hy => ?_⟩
  by_cases hi : i = j
  · subst hi
    rw [List.getElem?_set_self hj] at hy
    injection hy with hy
    subst hy
    exact World.cell?_setCell_same _ _ _ (hf i _ (List.getElem?_eq_getElem hj))
  · rw [List.getElem?_set_ne (by omega)] at hy
    rw [World.cell?_setCell_other _ _ _ _ (by intro h; simp only [Addr.mk.injEq] at h; omega)]
    exact hf i y hy
end Tt
end Go.Proofs.YtggeiajbcehkjaaGreatDoor
/- A row of ints copied, and one of them turned; another row of Subs at a node of a tree's copy. -/
namespace Go.Proofs.YtggeiajbcehkjaaGreatDoor
open Go.RowKit
open Va (Bs V v0 below_tr below_new heap_alloc_new own_on own_cells)
namespace Tt
set_option maxRecDepth 100000

theorem inC_one (L : List Int) : ∀ u ∈ inC L, u.oneCell' = true := by
  intro u hu
  obtain ⟨z, _, rfl⟩ := List.mem_map.1 hu
  rfl
/-- A row of ints, copied behind nothing. -/
theorem wpList_ints {W : World} {ops : Array Oper} {rest : List Oper} {o : Oper} {a : Act} {Q : Exit → Act → World → Prop} (hgd : o.guard = none) (x : Operand)
    (ho : o.op = .call { callee := .builtin .append, args := #[.const (.slice none 0 0), x], argTypes := #[57, 57] })
    (ad : Addr) (m c : Nat) (L : List Int) (hx : a.eval x = .slice (some ad) m c) (hl : m = L.length) (hnews : ∀ (j : Nat) (z : Int), L[j]? = some z → W.cell? (ad.add j) = some (.int .i64 z)) (hm : 0 < m) (h63 : m ≤ 1000000)
    (h : ∀ g cap w', w'.ownsRow W.heap.size 3 1 (.slice (some ⟨g, 0, none⟩) m cap) m (inC L) → Below W.heap.size W w' → wpList Tryz.prog ops Q rest (a.put o.dst (.slice (some ⟨g, 0, none⟩) m cap)) w') : wpList Tryz.prog ops Q (o :: rest) a W := by
  obtain ⟨ii, hi, hz0, hz1, hz2⟩ := info_parts (show (Tryz.prog.info? 3).map (fun i => (i.zero, i.size, i.bytes)) = some (some (.int .i64 0), 1, 8) by kernel_rfl)
  refine wpList_append_lies W hgd (.const (.slice none 0 0)) x _ ho W.heap.size 3 ii (.int .i64 0) 1 8 Tryz.underlying57 hi hz0 hz1 hz2 rfl (by decide) (.slice none 0 0) 0 [] rfl (World.ownsRow_nil ..) ad m c (inC L) hx (by unfold inC; rw [List.length_map, hl, Nat.mul_one]) (fun j u hu => ?_) (inC_one L) hm (by unfold maxLen; omega) (by omega) (Nat.le_refl _) _ rfl fun g cap w' own hg _ _ => ?_
  · unfold inC at hu
    rw [List.getElem?_map] at hu
    obtain ⟨z, hz, rfl⟩ := Option.map_eq_some_iff.1 hu
    exact hnews j z hz
  · rw [Nat.zero_add, List.nil_append] at own
    rw [Nat.zero_add]
    exact h g cap w' own (Below.grown (Below.refl _ W) hg (Nat.le_refl _) (fun g e => by cases e))
/-- Such a row, to be read. -/
theorem ints_ix {W : World} {base g n cap : Nat} {L : List Int} (own : W.ownsRow base 3 1 (.slice (some ⟨g, 0, none⟩) n cap) n (inC L)) (h0 : 0 < n) (hL : ∀ z ∈ L, i64 z) : Ix W (some ⟨g, 0, none⟩) L ∧ n ≤ cap ∧ cap ≤ maxLen := by
  obtain ⟨g', e, hb, hlt, hf⟩ := own_cells own h0
  injection e with e
  injection e with e _ _
  subst e
  obtain ⟨A, c, e, h1, h2, h3⟩ := Va.own_shape own
  injection e with _ _ e
  subst e
  exact ⟨fun _ => ⟨g, 0, rfl, hlt, fun i s hs => by rw [Nat.zero_add]; exact ⟨hf i _ (by unfold inC; rw [List.getElem?_map, hs]; rfl), hL s (List.mem_of_getElem? hs)⟩⟩, h1, h2⟩
theorem ints_set {W : World} {base g n cap : Nat} {L : List Int} (own : W.ownsRow base 3 1 (.slice (some ⟨g, 0, none⟩) n cap) n (inC L)) (j : Nat) (z : Int) : (W.setCell ⟨g, j, none⟩ (.int .i64 z)).ownsRow base 3 1 (.slice (some ⟨g, 0, none⟩) n cap) n (inC (L.set j z)) := by
  have h := (own.stored j (.int .i64 z)).1
  have e : (inC L).set j (.int .i64 z) = inC (L.set j z) := by unfold inC; rw [List.map_set]
  rwa [e] at h
/-- Another row of Subs at a node of a tree's copy. -/
theorem NvR.store {B W : World} {g A0 cap n r cu : Nat} {xs : List Value} {L : List Nd} {y : Nd} {U : Option Addr} {r' : List Int} (H : NvR B W g (.slice (some ⟨A0, 0, none⟩) n cap) n xs) (hn : n = L.length) (hxl : xs.length = n * 7)
    (hc : Nc7 B xs L) (hy : L[r]? = some y) (hcap : r'.length ≤ cu ∧ cu ≤ maxLen ∧ (U = none → cu = 0)) (hU : Ix B U r') :
    Below B.heap.size B (W.setCell ⟨A0, r * 7 + 4, none⟩ (.slice U r'.length cu)) ∧ (W.setCell ⟨A0, r * 7 + 4, none⟩ (.slice U r'.length cu)).heap[g]? = some (tO (.slice (some ⟨A0, 0, none⟩) n cap) (.int .i64 0)) ∧
      Tm (W.setCell ⟨A0, r * 7 + 4, none⟩ (.slice U r'.length cu)) (.agg #[.slice (some ⟨A0, 0, none⟩) n cap, .int .i64 0]) ⟨L.set r { y with subs := r' }, 0⟩ := by
  have hr := (List.getElem?_eq_some_iff.1 hy).1
  have hlt := H.own.lt A0 rfl
  have hne : g ≠ A0 := fun e => H.ne (by rw [e]; rfl)
  have hb := H.below.setCell (p := ⟨A0, r * 7 + 4, none⟩) hlt.1 (.slice U r'.length cu)
  refine ⟨hb, (Go.RowKit.Below.heap_setCell _ _ _ _ hne).trans H.blk, ?_⟩
  exact row_tm (H.own.stored (r * 7 + 4) (.slice U r'.length cu)).1 (by rw [List.length_set]; exact hn) (by omega) ((hc.on hb).field hy hcap (hU.on hb) (by rw [hxl, hn]))
theorem NvR.cells {B W : World} {g A0 cap n : Nat} {xs : List Value} (H : NvR B W g (.slice (some ⟨A0, 0, none⟩) n cap) n xs) : W.cell? ⟨g, 0, none⟩ = some (.slice (some ⟨A0, 0, none⟩) n cap) ∧ W.cell? ⟨g, 1, none⟩ = some (.int .i64 0) := (tcells H.blk).1
end Tt
end Go.Proofs.YtggeiajbcehkjaaGreatDoor
