/- Trees, as lists: the value of a node: it may be; as big as nodes are reached; a value's own tree. -/
import Derived.Test.YtggeiajbcehkjaaGreatDoorGbh
import Derived.Test.YtggeiajbcehkjaaGreatDoorGax
import Derived.Test.YtggeiajbcehkjaaGreatDoorGay
import Derived.Deep.AppendLies
import Derived.Deep.RegionHeldLaw
import Derived.Deep.CutRange
namespace Go.Proofs.YtggeiajbcehkjaaGreatDoor
open Va (Bs V v0)
namespace Tt
/-- A node's value. -/
def valT (t : Tr) : Nat → Nat → V
  | 0, i => match t.nodes[i]? with
    | some x => .mk x.kind x.text [] x.keys
    | none => v0
  | f + 1, i => match t.nodes[i]? with
    | some x => .mk x.kind x.text ((t.sub i).map (valT t f)) x.keys
    | none => v0
theorem valT_zero {t : Tr} {i : Nat} {x : Nd} (h : t.nodes[i]? = some x) : valT t 0 i = .mk x.kind x.text [] x.keys := by rw [valT, h]
theorem valT_succ {t : Tr} {f i : Nat} {x : Nd} (h : t.nodes[i]? = some x) : valT t (f + 1) i = .mk x.kind x.text ((t.sub i).map (valT t f)) x.keys := by rw [valT, h]
theorem plL_of {l : List V} (h : ∀ x ∈ l, Va.pl x = true) : Va.plL l = true := by
  induction l with
  | nil => rw [Va.plL]
  | cons x r ih => rw [Va.plL, h x (List.mem_cons_self ..), ih fun y hy => h y (List.mem_cons_of_mem _ hy)]; rfl
theorem dpL_of {l : List V} {m : Nat} (h : ∀ x ∈ l, Va.dp x ≤ m) : Va.dpL l ≤ m := by
  induction l with
  | nil => rw [Va.dpL]; omega
  | cons x r ih =>
    have := h x (List.mem_cons_self ..)
    have := ih fun y hy => h y (List.mem_cons_of_mem _ hy)
    rw [Va.dpL]; omega
theorem shp_plH {x : Nd} (h : x.shp = true) : Va.plH x.kind x.text x.subs.length x.keys = true := by
  unfold Nd.shp at h
  rw [Bool.and_eq_true] at h
  have hp := Va.may_pl h.2
  unfold Nd.self at hp
  rw [Va.pl, Bool.and_eq_true, List.length_replicate] at hp
  exact hp.1
theorem sub_len {t : Tr} {i : Nat} {x : Nd} (h : t.nodes[i]? = some x) : (t.sub i).length = x.subs.length := by rw [Tr.sub, h]; simp
theorem valT_pl {t : Tr} (hs : ∀ x ∈ t.nodes, x.shp = true) (hi : t.ins) : ∀ {f i : Nat}, i < t.nodes.length → okD t.sub t.leaf f i → Va.pl (valT t f i) = true
  | 0, i, hlt, ⟨x, hx, hk⟩ => by
    have h1 := hs x (List.mem_of_getElem? hx)
    have h2 := shp_plH h1
    rw [shp_leaf h1 hk] at h2
    rw [valT_zero hx, Va.pl, Va.plL, Bool.and_true]
    exact h2
  | f + 1, i, hlt, h => by
    have h : ∀ s ∈ t.sub i, okD t.sub t.leaf f s := h
    obtain ⟨x, hx⟩ := Va.get_lt hlt
    rw [valT_succ hx, Va.pl, List.length_map, sub_len hx, shp_plH (hs x (List.mem_of_getElem? hx)), Bool.true_and]
    refine plL_of fun y hy => ?_
    obtain ⟨s, hs2, rfl⟩ := List.mem_map.1 hy
    exact valT_pl hs hi (sub_lt hi i s hs2) (h s hs2)
theorem valT_dp {t : Tr} (hi : t.ins) : ∀ {f i : Nat}, i < t.nodes.length → okD t.sub t.leaf f i → Va.dp (valT t f i) ≤ f
  | 0, i, hlt, ⟨x, hx, hk⟩ => by rw [valT_zero hx, Va.dp, if_neg (by omega)]; exact Nat.le_refl _
  | f + 1, i, hlt, h => by
    have h : ∀ s ∈ t.sub i, okD t.sub t.leaf f s := h
    obtain ⟨x, hx⟩ := Va.get_lt hlt
    have := dpL_of (l := (t.sub i).map (valT t f)) (m := f) fun y hy => by
      obtain ⟨s, hs2, rfl⟩ := List.mem_map.1 hy
      exact valT_dp hi (sub_lt hi i s hs2) (h s hs2)
    rw [valT_succ hx, Va.dp]
    split <;> omega
theorem valT_sz {t : Tr} (hi : t.ins) : ∀ {f i : Nat}, i < t.nodes.length → Va.sz (valT t f i) = (pre t.sub f i).length
  | 0, i, hlt => by
    obtain ⟨x, hx⟩ := Va.get_lt hlt
    rw [valT_zero hx, Va.sz, Va.szL, pre]; rfl
  | f + 1, i, hlt => by
    obtain ⟨x, hx⟩ := Va.get_lt hlt
    have h : ∀ l : List Nat, (∀ s ∈ l, s < t.nodes.length) → Va.szL (l.map (valT t f)) = (l.flatMap (pre t.sub f)).length := by
      intro l
      induction l with
      | nil => intro _; rfl
      | cons s r ih =>
        intro hl
        rw [List.map_cons, Va.szL, List.flatMap_cons, List.length_append, ih (fun y hy => hl y (List.mem_cons_of_mem _ hy)), valT_sz hi (hl s (List.mem_cons_self ..))]
    rw [valT_succ hx, Va.sz, pre, List.length_cons, h _ (sub_lt hi i)]; omega
/-- Each node of a tree that may be has none too deep below. -/
theorem Fit.okD {t : Tr} (h : Fit t) {i : Nat} (hi : i < t.nodes.length) : okD t.sub t.leaf 256 i := okD_mem (leaf_sub h.shp) h.ok (h.per.mem_iff.2 (List.mem_range.2 hi))
theorem Fit.may {t : Tr} (h : Fit t) {i : Nat} (hi : i < t.nodes.length) : Va.may (valT t 256 i) = true := by
  unfold Va.may
  rw [Bool.and_eq_true]
  exact ⟨decide_eq_true (valT_dp h.ins hi (h.okD hi)), valT_pl h.shp h.ins hi (h.okD hi)⟩
mutual
/-- A value's nodes, from a place on. -/
def nds : Nat → V → List Nd
  | b, .mk k t l ks => ⟨k, t, ks, List.replicate ks.length (-1, -1), (posL (b + 1) l).map Int.ofNat, (-1, -1)⟩ :: ndsL (b + 1) l
def ndsL : Nat → List V → List Nd
  | _, [] => []
  | b, x :: r => nds b x ++ ndsL (b + Va.sz x) r
def posL : Nat → List V → List Nat
  | _, [] => []
  | b, x :: r => b :: posL (b + Va.sz x) r
end
theorem posL_len : ∀ (b : Nat) (l : List V), (posL b l).length = l.length
  | _, [] => rfl
  | b, x :: r => by rw [posL, List.length_cons, posL_len, List.length_cons]
mutual
theorem nds_len : ∀ (b : Nat) (x : V), (nds b x).length = Va.sz x
  | b, .mk k t l ks => by rw [nds, List.length_cons, ndsL_len, Va.sz]; omega
theorem ndsL_len : ∀ (b : Nat) (l : List V), (ndsL b l).length = Va.szL l
  | _, [] => rfl
  | b, x :: r => by rw [ndsL, List.length_append, nds_len, ndsL_len, Va.szL]
end
/-- Where a value's nodes stand in a tree. -/
def At (t : Tr) (b : Nat) (L : List Nd) : Prop := ∀ i x, L[i]? = some x → t.nodes[b + i]? = some x
theorem At.left {t : Tr} {b : Nat} {L M : List Nd} (h : At t b (L ++ M)) : At t b L := fun i x hx => h i x (by
  rw [List.getElem?_append_left (List.getElem?_eq_some_iff.1 hx).1]; exact hx)
theorem At.right {t : Tr} {b : Nat} {L M : List Nd} (h : At t b (L ++ M)) : At t (b + L.length) M := fun i x hx => by
  have := h (L.length + i) x (by rw [List.getElem?_append_right (by omega), show L.length + i - L.length = i by omega]; exact hx)
  rwa [show b + (L.length + i) = b + L.length + i by omega] at this
theorem At.tail {t : Tr} {b : Nat} {y : Nd} {M : List Nd} (h : At t b (y :: M)) : At t (b + 1) M := fun i x hx => by
  have := h (i + 1) x (by rw [List.getElem?_cons_succ]; exact hx)
  rwa [show b + (i + 1) = b + 1 + i by omega] at this
theorem nds_sub {t : Tr} {b k : Nat} {tx : Bs} {l : List V} {ks : List Bs} (h : At t b (nds b (.mk k tx l ks))) : t.sub b = posL (b + 1) l := by
  rw [nds] at h
  have := h 0 _ rfl
  rw [Nat.add_zero] at this
  rw [Tr.sub, this]
  show ((posL (b + 1) l).map Int.ofNat).map Int.toNat = _
  rw [List.map_map]
  have e : (Int.toNat ∘ Int.ofNat) = id := by funext i; rfl
  rw [e, List.map_id]
/-- What is reached is the value's own nodes, in order; its value is the value. -/
theorem nds_all : ∀ (f b : Nat) (x : V) (t : Tr), At t b (nds b x) → Va.pl x = true → Va.dp x ≤ f →
    pre t.sub f b = List.range' b (Va.sz x) ∧ okD t.sub t.leaf f b ∧ valT t f b = x
  | 0, b, .mk k tx l ks, t, h, hp, hd => by
    have hx := by
      rw [nds] at h
      exact h 0 _ rfl
    rw [Nat.add_zero] at hx
    rw [Va.dp] at hd
    have h7 : ¬ (k = 7 ∨ k = 8) := fun e => by rw [if_pos e] at hd; omega
    rw [Va.pl, Bool.and_eq_true] at hp
    have hh := of_decide_eq_true hp.1
    have hl : l = [] := List.eq_nil_of_length_eq_zero (by omega)
    subst hl
    refine ⟨by rw [pre, Va.sz, Va.szL]; rfl, ⟨_, hx, by show k < 7; omega⟩, by rw [valT_zero hx]⟩
  | f + 1, b, .mk k tx l ks, t, h, hp, hd => by
    have hsub := nds_sub h
    have hx := by
      rw [nds] at h
      exact h 0 _ rfl
    rw [Nat.add_zero] at hx
    rw [nds] at h
    have ht := h.tail
    rw [Va.pl, Bool.and_eq_true] at hp
    have hh := of_decide_eq_true hp.1
    have hdl : Va.dpL l ≤ f := by
      rw [Va.dp] at hd
      split at hd
      · omega
      · have hl : l = [] := List.eq_nil_of_length_eq_zero (by omega)
        subst hl; rw [Va.dpL]; omega
    have main : ∀ (l : List V) (c : Nat), At t c (ndsL c l) → Va.plL l = true → Va.dpL l ≤ f →
        (posL c l).flatMap (pre t.sub f) = List.range' c (Va.szL l) ∧ (∀ s ∈ posL c l, okD t.sub t.leaf f s) ∧ (posL c l).map (valT t f) = l := by
      intro l
      induction l with
      | nil => intro c _ _ _; exact ⟨by rw [posL, Va.szL]; rfl, (fun s hs => by rw [posL] at hs; cases hs), by rw [posL]; rfl⟩
      | cons x r ih =>
        intro c hc hp hd
        rw [ndsL] at hc
        rw [Va.plL, Bool.and_eq_true] at hp
        rw [Va.dpL] at hd
        obtain ⟨a1, a2, a3⟩ := nds_all f c x t hc.left hp.1 (by omega)
        have hr := hc.right
        rw [nds_len] at hr
        obtain ⟨b1, b2, b3⟩ := ih (c + Va.sz x) hr hp.2 (by omega)
        rw [posL]
        refine ⟨?_, ?_, ?_⟩
        · rw [List.flatMap_cons, a1, b1, Va.szL, List.range'_append_1]
        · intro s hs
          rcases List.mem_cons.1 hs with rfl | hs
          · exact a2
          · exact b2 s hs
        · rw [List.map_cons, a3, b3]
    obtain ⟨m1, m2, m3⟩ := main l (b + 1) ht hp.2 hdl
    refine ⟨?_, ?_, ?_⟩
    · rw [pre, hsub, m1, Va.sz, Nat.add_comm 1, List.range'_succ]
    · show ∀ s ∈ t.sub b, okD t.sub t.leaf f s
      rw [hsub]; exact m2
    · rw [valT_succ hx, hsub, m3]
end Tt
end Go.Proofs.YtggeiajbcehkjaaGreatDoor
/- Trees in memory, to be read. -/
namespace Go.Proofs.YtggeiajbcehkjaaGreatDoor
open Go.RowKit
open Va (Bs V v0 Tx)
namespace Tt
set_option maxRecDepth 100000

/-- An int. -/
def i64 (z : Int) : Prop := -9223372036854775808 ≤ z ∧ z ≤ 9223372036854775807
/-- A row of spans in memory. -/
def Px (w : World) (A : Option Addr) (L : List (Int × Int)) : Prop := 0 < L.length → ∃ g o, A = some ⟨g, o, none⟩ ∧ g < w.heap.size ∧ ∀ i s, L[i]? = some s → w.cell? ⟨g, o + i * 2, none⟩ = some (.int .i64 s.1) ∧ w.cell? ⟨g, o + i * 2 + 1, none⟩ = some (.int .i64 s.2) ∧ i64 s.1 ∧ i64 s.2
/-- A row of ints in memory. -/
def Ix (w : World) (A : Option Addr) (L : List Int) : Prop := 0 < L.length → ∃ g o, A = some ⟨g, o, none⟩ ∧ g < w.heap.size ∧ ∀ i s, L[i]? = some s → w.cell? ⟨g, o + i, none⟩ = some (.int .i64 s) ∧ i64 s
theorem Px.on {w w' : World} {A : Option Addr} {L : List (Int × Int)} (h : Px w A L) (hb : Below w.heap.size w w') : Px w' A L := fun h0 => by
  obtain ⟨g, o, e, hg, hf⟩ := h h0
  exact ⟨g, o, e, Nat.lt_of_lt_of_le hg hb.size, fun i s hs => ⟨(hb.cell (p := ⟨g, o + i * 2, none⟩) hg).trans (hf i s hs).1, (hb.cell (p := ⟨g, o + i * 2 + 1, none⟩) hg).trans (hf i s hs).2.1, (hf i s hs).2.2⟩⟩
theorem Ix.on {w w' : World} {A : Option Addr} {L : List Int} (h : Ix w A L) (hb : Below w.heap.size w w') : Ix w' A L := fun h0 => by
  obtain ⟨g, o, e, hg, hf⟩ := h h0
  exact ⟨g, o, e, Nat.lt_of_lt_of_le hg hb.size, fun i s hs => ⟨(hb.cell (p := ⟨g, o + i, none⟩) hg).trans (hf i s hs).1, (hf i s hs).2⟩⟩
/-- A node's rows. -/
structure Nr (w : World) (x : Nd) (K S U : Option Addr) (a b c : Nat) : Prop where
  k : x.kind < 256
  ka : x.keys.length ≤ a ∧ a ≤ maxLen ∧ (K = none → a = 0)
  sb : x.spots.length ≤ b ∧ b ≤ maxLen ∧ (S = none → b = 0)
  uc : x.subs.length ≤ c ∧ c ≤ maxLen ∧ (U = none → c = 0)
  keys : Tx w K x.keys
  spots : Px w S x.spots
  subs : Ix w U x.subs
  span : i64 x.span.1 ∧ i64 x.span.2
theorem Nr.on {w w' : World} {x : Nd} {K S U : Option Addr} {a b c : Nat} (h : Nr w x K S U a b c) (hb : Below w.heap.size w w') : Nr w' x K S U a b c :=
  ⟨h.k, h.ka, h.sb, h.uc, h.keys.on hb, h.spots.on hb, h.subs.on hb, h.span⟩
/-- A node's cells. -/
abbrev ndC (x : Nd) (K S U : Option Addr) (a b c : Nat) : List Value := [.int .u8 x.kind, .string (txt x.text), .slice K x.keys.length a, .slice S x.spots.length b, .slice U x.subs.length c, .int .i64 x.span.1, .int .i64 x.span.2]
/-- A node in memory. -/
def Nm (w : World) (v : Value) (x : Nd) : Prop := ∃ K S U a b c, v = .agg (ndC x K S U a b c).toArray ∧ Nr w x K S U a b c
theorem Nm.on {w w' : World} {v : Value} {x : Nd} (h : Nm w v x) (hb : Below w.heap.size w w') : Nm w' v x := by
  obtain ⟨K, S, U, a, b, c, e, h⟩ := h
  exact ⟨K, S, U, a, b, c, e, h.on hb⟩
/-- A row of nodes in memory. -/
def Nx (w : World) (A : Option Addr) (L : List Nd) : Prop := 0 < L.length → ∃ g o, A = some ⟨g, o, none⟩ ∧ g < w.heap.size ∧ ∀ i x, L[i]? = some x → ∃ K S U a b c, (∀ (j : Nat) (u : Value), (ndC x K S U a b c)[j]? = some u → w.cell? ⟨g, o + i * 7 + j, none⟩ = some u) ∧ Nr w x K S U a b c
theorem Nx.on {w w' : World} {A : Option Addr} {L : List Nd} (h : Nx w A L) (hb : Below w.heap.size w w') : Nx w' A L := fun h0 => by
  obtain ⟨g, o, e, hg, hf⟩ := h h0
  refine ⟨g, o, e, Nat.lt_of_lt_of_le hg hb.size, fun i x hx => ?_⟩
  obtain ⟨K, S, U, a, b, c, h1, h2⟩ := hf i x hx
  exact ⟨K, S, U, a, b, c, fun j u hu => (hb.cell (p := ⟨g, o + i * 7 + j, none⟩) hg).trans (h1 j u hu), h2.on hb⟩
/-- A tree in memory. -/
def Tm (w : World) (v : Value) (t : Tr) : Prop := ∃ A c, v = .agg #[.slice A t.nodes.length c, .int .i64 t.root] ∧ t.nodes.length ≤ c ∧ c ≤ maxLen ∧ (A = none → c = 0) ∧ i64 t.root ∧ Nx w A t.nodes
theorem Tm.on {w w' : World} {v : Value} {t : Tr} (h : Tm w v t) (hb : Below w.heap.size w w') : Tm w' v t := by
  obtain ⟨A, c, e, h1, h2, h3, h4, h5⟩ := h
  exact ⟨A, c, e, h1, h2, h3, h4, h5.on hb⟩
/-- How much there is of a tree. -/
def wN (x : Nd) : Nat := 1 + x.text.length + x.keys.length + Va.kw x.keys + x.spots.length + x.subs.length
def wNs : List Nd → Nat
  | [] => 0
  | x :: r => wN x + wNs r
end Tt
end Go.Proofs.YtggeiajbcehkjaaGreatDoor
/- The reference's value of a node: what lies where while it is put together. -/
namespace Go.Proofs.YtggeiajbcehkjaaGreatDoor
open Go.RowKit
open Va (Bs V v0 Tx Vm Vk vO OV OT own_on own_shape own_cells below_tr)
namespace Tt
set_option maxRecDepth 100000

/-- A tree's block, a node's. -/
abbrev tO (a b : Value) : Obj := .cells #[a, b] 24
abbrev nO (l : List Value) : Obj := .cells l.toArray 59
/-- A value put together of a node: the tree, what is handed back, the node, the value in the making; its rows. -/
structure TS (w wx : World) (h P : Nat) (tv : Value) (r : Int) (nc : List Value) (k : Nat) (T : ByteArray) (lv kv : Value) (ok : Nat → Prop) (L : List V) (K : List Bs) : Prop where
  below : Below w.heap.size w wx
  hh : h = w.heap.size
  b1 : wx.heap[h]? = some (tO tv (.int .i64 r))
  b2 : wx.heap[h + 1]? = some (vO (.int .u8 0) (.string ⟨#[]⟩) (.slice none 0 0) (.slice none 0 0))
  b3 : wx.heap[h + 2]? = some (nO nc)
  b4 : wx.heap[P]? = some (vO (.int .u8 k) (.string T) lv kv)
  hp : h + 3 ≤ P
  ol : OV wx (h + 3) ok lv L
  ot : OT wx (h + 3) kv K
  okb : ∀ g, ok g → h + 3 ≤ g ∧ g < wx.heap.size ∧ g ≠ P ∧ lv.ownBlock ≠ some g ∧ kv.ownBlock ≠ some g
  ap : ∀ g, lv.ownBlock = some g → kv.ownBlock ≠ some g ∧ g ≠ P
  kp : kv.ownBlock ≠ some P
section
variable {w wx wy : World} {h P k : Nat} {tv : Value} {r : Int} {nc : List Value} {T : ByteArray} {lv kv : Value} {ok : Nat → Prop} {L : List V} {K : List Bs}
theorem TS.pl (H : TS w wx h P tv r nc k T lv kv ok L K) : P < wx.heap.size := (Array.getElem?_eq_some_iff.1 H.b4).1
theorem TS.sz (H : TS w wx h P tv r nc k T lv kv ok L K) : h + 3 < wx.heap.size := by have := H.pl; have := H.hp; omega
theorem TS.lvb (H : TS w wx h P tv r nc k T lv kv ok L K) : ∀ g, lv.ownBlock = some g → h + 3 ≤ g ∧ g < wx.heap.size := fun g hg => by obtain ⟨xs, ho, _⟩ := H.ol.own; exact ho.lt g hg
theorem TS.kvb (H : TS w wx h P tv r nc k T lv kv ok L K) : ∀ g, kv.ownBlock = some g → h + 3 ≤ g ∧ g < wx.heap.size := fun g hg => World.ownsRow.lt H.ot g hg
theorem TS.call (H : TS w wx h P tv r nc k T lv kv ok L K) (hb : Below wx.heap.size wx wy) : TS w wy h P tv r nc k T lv kv ok L K where
  below := below_tr H.below hb
  hh := H.hh
  b1 := by rw [hb.block _ (by have := H.sz; omega)]; exact H.b1
  b2 := by rw [hb.block _ (by have := H.sz; omega)]; exact H.b2
  b3 := by rw [hb.block _ (by have := H.sz; omega)]; exact H.b3
  b4 := by rw [hb.block _ H.pl]; exact H.b4
  hp := H.hp
  ol := H.ol.keep (fun g hg => hb.block g (H.lvb g hg).2) (fun g _ hg => hb.block g hg) hb.size
  ot := own_on H.ot fun g hg => hb.block g (H.kvb g hg).2
  okb := fun g hg => by obtain ⟨a, b, c, d⟩ := H.okb g hg; exact ⟨a, Nat.lt_of_lt_of_le b hb.size, c, d⟩
  ap := H.ap
  kp := H.kp
/-- More blocks are fit. -/
theorem TS.more (H : TS w wx h P tv r nc k T lv kv ok L K) {ok' : Nat → Prop} (h1 : ∀ g, ok g → ok' g) (h2 : ∀ g, ok' g → h + 3 ≤ g ∧ g < wx.heap.size ∧ g ≠ P ∧ lv.ownBlock ≠ some g ∧ kv.ownBlock ≠ some g) : TS w wx h P tv r nc k T lv kv ok' L K :=
  { H with ol := H.ol.to fun g _ => h1 g, okb := h2 }
/-- A value more. -/
theorem TS.val (H : TS w wx h P tv r nc k T lv kv ok L K) {o : Obj} {w2 : World} {lv2 a b c d : Value} {x : V} {n : Nat} {xs : List Value} (hn : n = L.length) (hx : wx.ownsRow (h + 3) 33 4 lv n xs)
    (he : ∀ (i : Nat) (x : V), L[i]? = some x → ∃ a b c d, xs[i * 4]? = some a ∧ xs[i * 4 + 1]? = some b ∧ xs[i * 4 + 2]? = some c ∧ xs[i * 4 + 3]? = some d ∧ Vk wx ok (.agg #[a, b, c, d]) x)
    (own2 : w2.ownsRow (h + 3) 33 4 lv2 (n + 1) (xs ++ [a, b, c, d])) (hv : Vk wx ok (.agg #[a, b, c, d]) x) (hg2 : (wx.alloc o).grownBy w2 lv.ownBlock) (hb2 : lv2.ownBlock = lv.ownBlock ∨ lv2.ownBlock = some (wx.alloc o).heap.size) :
    TS w (w2.setCell ⟨P, 2, none⟩ lv2) h P tv r nc k T lv2 kv ok (L ++ [x]) K := by
  have hs0 : (wx.alloc o).heap.size = wx.heap.size + 1 := by show (wx.heap.push o).size = _; rw [Array.size_push]
  have old : ∀ g, g < wx.heap.size → lv.ownBlock ≠ some g → w2.heap[g]? = wx.heap[g]? := fun g hg hk => by
    rw [hg2.block g (by omega) (fun e => hk e.symm)]
    show (wx.heap.push o)[g]? = _
    rw [Array.getElem?_push_lt hg, Array.getElem?_eq_getElem hg]
  have hsz := H.sz
  have hpl := H.pl
  have hhp := H.hp
  have hlv : ∀ g, lv.ownBlock = some g → h + 3 ≤ g ∧ g < wx.heap.size := H.lvb
  have lo : ∀ g, g < h + 3 → lv.ownBlock ≠ some g := fun g hg e => by have := (hlv g e).1; omega
  have lop : lv.ownBlock ≠ some P := fun e => (H.ap P e).2 rfl
  have hsz2 : wx.heap.size ≤ w2.heap.size := by have := hg2.size; omega
  have k2 : ∀ g, lv2.ownBlock = some g → g ≠ P := fun g hg e => by
    rcases hb2 with e2 | e2
    · rw [e2] at hg; exact (H.ap g hg).2 e
    · rw [e2] at hg; injection hg with hg; omega
  have b4 : w2.heap[P]? = some (vO (.int .u8 k) (.string T) lv kv) := by rw [old _ hpl lop]; exact H.b4
  have oth : ∀ g, g ≠ P → (w2.setCell ⟨P, 2, none⟩ lv2).heap[g]? = w2.heap[g]? := fun g hg => Go.RowKit.Below.heap_setCell _ _ _ _ hg
  have ssz : (w2.setCell ⟨P, 2, none⟩ lv2).heap.size = w2.heap.size := by simp
  have kp : ∀ g, ok g → g < wx.heap.size → (w2.setCell ⟨P, 2, none⟩ lv2).heap[g]? = wx.heap[g]? := fun g hg hlt => by
    have := H.okb g hg
    rw [oth g this.2.2.1, old g hlt this.2.2.2.1]
  refine ⟨?_, H.hh, by rw [oth _ (by omega), old _ (by omega) (lo _ (by omega))]; exact H.b1, by rw [oth _ (by omega), old _ (by omega) (lo _ (by omega))]; exact H.b2, by rw [oth _ (by omega), old _ (by omega) (lo _ (by omega))]; exact H.b3, ?_, hhp, ?_, ?_, ?_, ?_, H.kp⟩
  · refine Below.setCell (Below.grown (H.below.alloc (by have := H.hh; omega) o) hg2 (by have := H.hh; omega) fun g hg => by have := (hlv g hg).1; have := H.hh; omega) (by show w.heap.size ≤ P; have := H.hh; omega) _
  · exact Go.heap_setCell_same w2 P 2 _ _ lv2 b4
  · refine OV.more hn hx.1 (fun i y hy => ?_) (own_on own2 fun g hg => oth g (k2 g hg)) (hv.keep kp (by rw [ssz]; omega))
    obtain ⟨p, q, r, s, h0, h1, h2, h3, hm⟩ := he i y hy
    exact ⟨p, q, r, s, h0, h1, h2, h3, hm.keep kp (by rw [ssz]; omega)⟩
  · exact own_on H.ot fun g hg => by
      have := H.kvb g hg
      rw [oth g (fun e => H.kp (e ▸ hg)), old g this.2 (fun e => (H.ap g e).1 hg)]
  · intro g hg
    obtain ⟨a, b, c, d, e⟩ := H.okb g hg
    refine ⟨a, by rw [ssz]; omega, c, ?_, e⟩
    rcases hb2 with e | e
    · rw [e]; exact d
    · rw [e]; intro e2; injection e2 with e2; omega
  · intro g hg
    refine ⟨fun hk => ?_, k2 g hg⟩
    have := H.kvb g hk
    rcases hb2 with e | e
    · exact (H.ap g (e ▸ hg)).1 hk
    · rw [e] at hg; injection hg with e2; omega
theorem TS.store (H : TS w wx h P tv r nc k T lv kv ok L K) {o : Obj} {w2 : World} (hg2 : (wx.alloc o).grownBy w2 lv.ownBlock) : w2.cell? ⟨P, 2, none⟩ = some lv ∧ w2.frozen? ⟨P, 2, none⟩ = false := by
  have hs0 : (wx.alloc o).heap.size = wx.heap.size + 1 := by show (wx.heap.push o).size = _; rw [Array.size_push]
  have hpl := H.pl
  have b5 : w2.heap[P]? = some (vO (.int .u8 k) (.string T) lv kv) := by
    rw [hg2.block _ (by omega) (fun e => (H.ap P e.symm).2 rfl)]
    show (wx.heap.push o)[P]? = _
    rw [Array.getElem?_push_lt hpl, ← Array.getElem?_eq_getElem]
    exact H.b4
  exact ⟨by simp [World.cell?, b5], by simp [World.frozen?, b5]⟩
end
end Tt
end Go.Proofs.YtggeiajbcehkjaaGreatDoor
