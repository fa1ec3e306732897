/- Nodes over Subs, as lists: gone through from one on; none comes twice, if each is a Sub once and the first one of none; all come, if each does once. -/
import Derived.Test.YtggeiajbcehkjaaGreatDoorProg
import Derived.Test.YtggeiajbcehkjaaGreatDoorGay
namespace Go.Proofs.YtggeiajbcehkjaaGreatDoor
namespace Tt
section
variable (sub : Nat → List Nat)
/-- Nodes from one on, each ahead of those below; so deep at most. -/
def pre : Nat → Nat → List Nat
  | 0, i => [i]
  | f + 1, i => i :: (sub i).flatMap (pre f)
/-- By so many steps. -/
def rch : Nat → Nat → Nat → Prop
  | 0, i, j => i = j
  | d + 1, i, j => ∃ p, rch d i p ∧ j ∈ sub p
/-- Nothing is cut off: what stands as deep as it may has none below. -/
def okD (leaf : Nat → Prop) : Nat → Nat → Prop
  | 0, i => leaf i
  | f + 1, i => ∀ s ∈ sub i, okD leaf f s
variable {sub}
theorem rch_one {i s : Nat} (h : s ∈ sub i) : rch sub 1 i s := ⟨i, rfl, h⟩
theorem rch_add : ∀ {d a r i j : Nat}, rch sub a r i → rch sub d i j → rch sub (a + d) r j
  | 0, _, _, _, _, h, e => by obtain rfl : _ = _ := e; exact h
  | _ + 1, _, _, _, _, h, ⟨p, hp, hj⟩ => ⟨p, rch_add h hp, hj⟩
theorem pre_rch : ∀ {f i j : Nat}, j ∈ pre sub f i → ∃ d, rch sub d i j
  | 0, i, j, h => ⟨0, by simp [pre] at h; exact h.symm⟩
  | f + 1, i, j, h => by
    rw [pre, List.mem_cons, List.mem_flatMap] at h
    rcases h with rfl | ⟨s, hs, h⟩
    · exact ⟨0, rfl⟩
    · obtain ⟨d, hd⟩ := pre_rch h
      exact ⟨1 + d, rch_add (rch_one hs) hd⟩
/-- Each node is below one at most, and the root below none. -/
structure OneP (sub : Nat → List Nat) (root : Nat) : Prop where
  root : ∀ p, root ∉ sub p
  par : ∀ p q j, j ∈ sub p → j ∈ sub q → p = q
  nd : ∀ p, (sub p).Nodup
theorem OneP.deep {root : Nat} (H : OneP sub root) : ∀ {d e j : Nat}, rch sub d root j → rch sub e root j → d = e
  | 0, 0, _, _, _ => rfl
  | 0, e + 1, j, h, ⟨p, _, hj⟩ => by obtain rfl : root = j := h; exact absurd hj (H.root p)
  | d + 1, 0, j, ⟨p, _, hj⟩, h => by obtain rfl : root = j := h; exact absurd hj (H.root p)
  | d + 1, e + 1, j, ⟨p, hp, hj⟩, ⟨q, hq, hj'⟩ => by
    obtain rfl := H.par p q j hj hj'
    rw [H.deep hp hq]
theorem OneP.back {root : Nat} (H : OneP sub root) : ∀ {d s s' j : Nat}, rch sub d s j → rch sub d s' j → s = s'
  | 0, s, s', j, h, h' => by obtain rfl : s = j := h; exact (show s' = s from h').symm
  | d + 1, s, s', j, ⟨p, hp, hj⟩, ⟨q, hq, hj'⟩ => by
    obtain rfl := H.par p q j hj hj'
    exact H.back hp hq
/-- None comes twice. -/
theorem OneP.nodup {root : Nat} (H : OneP sub root) : ∀ {f a i : Nat}, rch sub a root i → (pre sub f i).Nodup
  | 0, _, _, _ => by simp [pre]
  | f + 1, a, i, h => by
    rw [pre, List.nodup_cons]
    constructor
    · intro hm
      obtain ⟨s, hs, hm⟩ := List.mem_flatMap.1 hm
      obtain ⟨d, hd⟩ := pre_rch hm
      have := H.deep h (rch_add h (rch_add (rch_one hs) hd))
      omega
    · rw [List.Nodup, List.pairwise_flatMap]
      refine ⟨fun s hs => H.nodup (rch_add h (rch_one hs)), ?_⟩
      refine List.Pairwise.imp_of_mem ?_ (H.nd i)
      intro s s' hs hs' hne x hx y hy e
      subst e
      obtain ⟨d, hd⟩ := pre_rch hx
      obtain ⟨d', hd'⟩ := pre_rch hy
      have := H.deep (rch_add (rch_add h (rch_one hs)) hd) (rch_add (rch_add h (rch_one hs')) hd')
      obtain rfl : d = d' := by omega
      exact hne (H.back hd hd')
/-- All of Subs are nodes. -/
theorem pre_lt {n : Nat} (hs : ∀ p, ∀ j ∈ sub p, j < n) : ∀ {f i : Nat}, i < n → ∀ j ∈ pre sub f i, j < n
  | 0, i, hi, j, h => by simp [pre] at h; omega
  | f + 1, i, hi, j, h => by
    rw [pre, List.mem_cons, List.mem_flatMap] at h
    rcases h with rfl | ⟨s, h1, h2⟩
    · exact hi
    · exact pre_lt hs (hs i s h1) j h2
/-- Rows without repeats, of numbers below n. -/
theorem nodup_le : ∀ {n : Nat} {l : List Nat}, l.Nodup → (∀ j ∈ l, j < n) → l.length ≤ n := by
  intro n l h hl
  have hs : l ⊆ List.range n := fun j hj => List.mem_range.2 (hl j hj)
  have := List.Nodup.length_le_of_subset h hs
  rwa [List.length_range] at this
theorem nodup_all {n : Nat} {l : List Nat} (h : l.Nodup) (hl : ∀ j ∈ l, j < n) (hn : l.length = n) {a : Nat} (ha : a < n) : a ∈ l := by
  by_cases hm : a ∈ l
  · exact hm
  · exfalso
    have := nodup_le (n := n) (List.nodup_cons.2 ⟨hm, h⟩) (fun j hj => by rcases List.mem_cons.1 hj with rfl | hj; exact ha; exact hl j hj)
    rw [List.length_cons] at this; omega
theorem nodup_perm {n : Nat} {l : List Nat} (h : l.Nodup) (hl : ∀ j ∈ l, j < n) (hn : l.length = n) : l.Perm (List.range n) :=
  (List.perm_ext_iff_of_nodup h List.nodup_range).2 fun _ => ⟨fun ha => List.mem_range.2 (hl _ ha), fun ha => nodup_all h hl hn (List.mem_range.1 ha)⟩
theorem perm_flat (g : Nat → List Nat) : ∀ l : List Nat, (l.flatMap fun s => s :: g s).Perm (l ++ l.flatMap g)
  | [] => .refl _
  | s :: r => by
    rw [List.flatMap_cons, List.flatMap_cons, List.cons_append, List.cons_append]
    refine List.Perm.cons s ?_
    refine ((perm_flat g r).append_left (g s)).trans ?_
    rw [← List.append_assoc, ← List.append_assoc]
    exact List.perm_append_comm.append_right _
theorem perm_flatMap {α : Type} {g g' : α → List Nat} : ∀ {l : List α}, (∀ s ∈ l, (g s).Perm (g' s)) → (l.flatMap g).Perm (l.flatMap g')
  | [], _ => .refl _
  | s :: r, h => by
    rw [List.flatMap_cons, List.flatMap_cons]
    exact (h s (List.mem_cons_self ..)).append (perm_flatMap fun x hx => h x (List.mem_cons_of_mem _ hx))
variable {leaf : Nat → Prop}
/-- What is reached: the first one, and all of what is reached has below it. -/
theorem pre_subs (hl : ∀ i, leaf i → sub i = []) : ∀ {f i : Nat}, okD sub leaf f i → (pre sub f i).Perm (i :: (pre sub f i).flatMap sub)
  | 0, i, h => by
    have h : sub i = [] := hl i h
    rw [pre, List.flatMap_cons, h]; simp
  | f + 1, i, h => by
    have h : ∀ s ∈ sub i, okD sub leaf f s := h
    rw [pre]
    refine List.Perm.cons i ?_
    rw [List.flatMap_cons, List.flatMap_assoc]
    refine (perm_flatMap (g' := fun s => s :: (pre sub f s).flatMap sub) fun s hs => pre_subs hl (h s hs)).trans ?_
    exact perm_flat (fun s => (pre sub f s).flatMap sub) (sub i)
theorem okD_up (hl : ∀ i, leaf i → sub i = []) : ∀ {f i : Nat}, okD sub leaf f i → okD sub leaf (f + 1) i
  | 0, i, h => by
    have h : sub i = [] := hl i h
    intro s hs; rw [h] at hs; cases hs
  | f + 1, i, h => fun s hs => okD_up hl (h s hs)
theorem flatMap_same {α β : Type} {g g' : α → List β} : ∀ {l : List α}, (∀ s ∈ l, g s = g' s) → l.flatMap g = l.flatMap g'
  | [], _ => rfl
  | s :: r, h => by rw [List.flatMap_cons, List.flatMap_cons, h s (List.mem_cons_self ..), flatMap_same fun x hx => h x (List.mem_cons_of_mem _ hx)]
theorem okD_pre (hl : ∀ i, leaf i → sub i = []) : ∀ {f i : Nat}, okD sub leaf f i → pre sub (f + 1) i = pre sub f i
  | 0, i, h => by
    have h : sub i = [] := hl i h
    show i :: (sub i).flatMap (pre sub 0) = [i]
    rw [h]; rfl
  | f + 1, i, h => by
    have h : ∀ s ∈ sub i, okD sub leaf f s := h
    show i :: (sub i).flatMap (pre sub (f + 1)) = i :: (sub i).flatMap (pre sub f)
    congr 1
    exact flatMap_same fun s hs => okD_pre hl (h s hs)
theorem okD_mem (hl : ∀ i, leaf i → sub i = []) : ∀ {f i j : Nat}, okD sub leaf f i → j ∈ pre sub f i → okD sub leaf f j
  | 0, i, j, h, hj => by
    obtain rfl : j = i := by simpa [pre] using hj
    exact h
  | f + 1, i, j, h, hj => by
    rw [pre, List.mem_cons, List.mem_flatMap] at hj
    rcases hj with rfl | ⟨s, hs, hj⟩
    · exact h
    · exact okD_up hl (okD_mem hl (h s hs) hj)
end
end Tt
end Go.Proofs.YtggeiajbcehkjaaGreatDoor
/- Trees, as lists: which may be, by the reference's words and by what is reached; the value of a node. -/
namespace Go.Proofs.YtggeiajbcehkjaaGreatDoor
open Va (Bs V v0)
namespace Tt
structure Nd where
  kind : Nat
  text : Bs
  keys : List Bs
  spots : List (Int × Int)
  subs : List Int
  span : Int × Int
structure Tr where
  nodes : List Nd
  root : Int
/-- A node's Subs, as places. -/
def Tr.sub (t : Tr) (i : Nat) : List Nat := match t.nodes[i]? with
  | some x => x.subs.map Int.toNat
  | none => []
/-- Is it no list, and no map? -/
def Tr.leaf (t : Tr) (i : Nat) : Prop := ∃ x, t.nodes[i]? = some x ∧ x.kind < 7
/-- A node's own value, its list's values left out. -/
def Nd.self (x : Nd) : V := .mk x.kind x.text (List.replicate x.subs.length v0) x.keys
/-- Is a node's shape one of values? -/
def Nd.shp (x : Nd) : Bool := decide (x.spots.length = x.keys.length) && Va.may x.self
/-- All Subs, as places. -/
def Tr.all (t : Tr) : List Nat := t.nodes.flatMap fun x => x.subs.map Int.toNat
def Tr.ins (t : Tr) : Prop := ∀ x ∈ t.nodes, ∀ s ∈ x.subs, 0 ≤ s ∧ s < t.nodes.length
/-- How many nodes there are from one on; far below nought, if it is too deep. -/
def cntZ (t : Tr) : Nat → Nat → Int
  | 0, i => match t.nodes[i]? with
    | some x => if 7 ≤ x.kind then -1000000000 else 1
    | none => 1
  | f + 1, i => 1 + ((t.sub i).map (cntZ t f)).sum
/-- May it be, in the reference's words? -/
structure RefMay (t : Tr) : Prop where
  root : 0 ≤ t.root ∧ t.root < t.nodes.length
  shp : ∀ x ∈ t.nodes, x.shp = true
  ins : t.ins
  top : t.all.count t.root.toNat = 0
  one : ∀ i, i < t.nodes.length → i ≠ t.root.toNat → t.all.count i = 1
  cnt : cntZ t 256 t.root.toNat = t.nodes.length
/-- May it be: each node is reached once. -/
structure Fit (t : Tr) : Prop where
  root : 0 ≤ t.root ∧ t.root < t.nodes.length
  shp : ∀ x ∈ t.nodes, x.shp = true
  ins : t.ins
  ok : okD t.sub t.leaf 256 t.root.toNat
  per : (pre t.sub 256 t.root.toNat).Perm (List.range t.nodes.length)
theorem all_range (t : Tr) : t.all = (List.range t.nodes.length).flatMap t.sub := by
  have h : ∀ l : List Nd, (l.flatMap fun x => x.subs.map Int.toNat) = (List.range l.length).flatMap fun i => match l[i]? with | some x => x.subs.map Int.toNat | none => [] := by
    intro l
    induction l with
    | nil => rfl
    | cons x r ih =>
      rw [List.flatMap_cons, List.length_cons, List.range_succ_eq_map, List.flatMap_cons, List.flatMap_map, ih]
      rfl
  exact h t.nodes
theorem shp_leaf {x : Nd} (h : x.shp = true) (hk : x.kind < 7) : x.subs = [] := by
  unfold Nd.shp at h
  rw [Bool.and_eq_true] at h
  have hp := Va.may_pl h.2
  unfold Nd.self at hp
  rw [Va.pl, Bool.and_eq_true] at hp
  have hh := of_decide_eq_true hp.1
  have := hh.2.2.1
  rw [List.length_replicate] at this
  exact List.eq_nil_of_length_eq_zero (by omega)
theorem leaf_sub {t : Tr} (h : ∀ x ∈ t.nodes, x.shp = true) (i : Nat) (hl : t.leaf i) : t.sub i = [] := by
  obtain ⟨x, hx, hk⟩ := hl
  rw [Tr.sub, hx]
  show x.subs.map Int.toNat = []
  rw [shp_leaf (h x (List.mem_of_getElem? hx)) hk]; rfl
theorem sub_lt {t : Tr} (h : t.ins) : ∀ p, ∀ j ∈ t.sub p, j < t.nodes.length := by
  intro p j hj
  unfold Tr.sub at hj
  split at hj
  · rename_i x hx
    obtain ⟨s, hs, rfl⟩ := List.mem_map.1 hj
    have := h x (List.mem_of_getElem? hx) s hs
    omega
  · cases hj
theorem sub_none {t : Tr} {p : Nat} (h : t.nodes.length ≤ p) : t.sub p = [] := by rw [Tr.sub, List.getElem?_eq_none h]
/-- How often it is too deep. -/
def trc (t : Tr) : Nat → Nat → Nat
  | 0, i => match t.nodes[i]? with
    | some x => if 7 ≤ x.kind then 1 else 0
    | none => 0
  | f + 1, i => ((t.sub i).map (trc t f)).sum
theorem cnt_trc (t : Tr) : ∀ (f i : Nat), cntZ t f i + 1000000001 * (trc t f i : Nat) = (pre t.sub f i).length
  | 0, i => by
    rw [cntZ, trc, pre]
    split
    · split <;> simp
    · simp
  | f + 1, i => by
    have h : ∀ l : List Nat, (l.map (cntZ t f)).sum + 1000000001 * (((l.map (trc t f)).sum : Nat) : Int) = ((l.flatMap (pre t.sub f)).length : Nat) := by
      intro l
      induction l with
      | nil => rfl
      | cons s r ih =>
        have := cnt_trc t f s
        rw [List.map_cons, List.map_cons, List.sum_cons, List.sum_cons, List.flatMap_cons, List.length_append]
        omega
    have := h (t.sub i)
    rw [cntZ, trc, pre, List.length_cons]
    omega
theorem trc_ok {t : Tr} (hs : t.ins) : ∀ {f i : Nat}, i < t.nodes.length → (trc t f i = 0 ↔ okD t.sub t.leaf f i)
  | 0, i, hi => by
    rw [trc, List.getElem?_eq_getElem hi]
    show (if 7 ≤ t.nodes[i].kind then 1 else 0) = 0 ↔ t.leaf i
    constructor
    · intro h
      exact ⟨_, List.getElem?_eq_getElem hi, by by_cases h7 : 7 ≤ t.nodes[i].kind; rw [if_pos h7] at h; cases h; omega⟩
    · rintro ⟨x, hx, hk⟩
      obtain rfl : t.nodes[i] = x := by rw [List.getElem?_eq_getElem hi] at hx; exact Option.some.inj hx
      rw [if_neg (by omega)]
  | f + 1, i, hi => by
    have h : ∀ l : List Nat, (∀ s ∈ l, s < t.nodes.length) → ((l.map (trc t f)).sum = 0 ↔ ∀ s ∈ l, okD t.sub t.leaf f s) := by
      intro l
      induction l with
      | nil => intro _; simp
      | cons s r ih =>
        intro hl
        rw [List.map_cons, List.sum_cons, List.forall_mem_cons, ← ih (fun x hx => hl x (List.mem_cons_of_mem _ hx)), ← trc_ok hs (hl s (List.mem_cons_self ..))]
        omega
    exact h _ (sub_lt hs i)
theorem nodup_count : ∀ {l : List Nat}, (∀ j, l.count j ≤ 1) → l.Nodup
  | [], _ => List.nodup_nil
  | a :: r, h => by
    rw [List.nodup_cons]
    have h0 := h a
    rw [List.count_cons_self] at h0
    refine ⟨fun hm => ?_, nodup_count fun j => ?_⟩
    · have := List.count_pos_iff.2 hm; omega
    · have := h j
      rw [List.count_cons] at this
      omega
theorem RefMay.onep {t : Tr} (h : RefMay t) : OneP t.sub t.root.toNat := by
  have hnd : t.all.Nodup := nodup_count fun j => by
    by_cases hj : j < t.nodes.length
    · by_cases hr : j = t.root.toNat
      · rw [hr, h.top]; omega
      · rw [h.one j hj hr]; exact Nat.le_refl _
    · rw [List.count_eq_zero.2 (fun hm => by
        rw [all_range] at hm
        obtain ⟨p, _, hp⟩ := List.mem_flatMap.1 hm
        exact hj (sub_lt h.ins p j hp))]
      omega
  rw [all_range, List.Nodup, List.pairwise_flatMap] at hnd
  have inn : ∀ {p j : Nat}, j ∈ t.sub p → p < t.nodes.length := fun {p j} hj => by
    rcases Nat.lt_or_ge p t.nodes.length with h1 | h1
    · exact h1
    · rw [sub_none h1] at hj; cases hj
  have lt : ∀ {p q j : Nat}, p < q → j ∈ t.sub p → j ∈ t.sub q → False := fun {p q j} hpq hp hq => by
    have h1 := List.pairwise_iff_getElem.1 hnd.2 p q (by rw [List.length_range]; exact inn hp) (by rw [List.length_range]; exact inn hq) hpq
    rw [List.getElem_range, List.getElem_range] at h1
    exact h1 j hp j hq rfl
  refine ⟨fun p hp => ?_, fun p q j hp hq => ?_, fun p => ?_⟩
  · have := List.count_eq_zero.1 h.top
    rw [all_range] at this
    exact this (List.mem_flatMap.2 ⟨p, List.mem_range.2 (inn hp), hp⟩)
  · rcases Nat.lt_trichotomy p q with h1 | h1 | h1
    · exact (lt h1 hp hq).elim
    · exact h1
    · exact (lt h1 hq hp).elim
  · rcases Nat.lt_or_ge p t.nodes.length with h1 | h1
    · exact hnd.1 p (List.mem_range.2 h1)
    · rw [sub_none h1]; exact List.nodup_nil
theorem root_lt {t : Tr} (h : 0 ≤ t.root ∧ t.root < t.nodes.length) : t.root.toNat < t.nodes.length := by omega
theorem ref_fit {t : Tr} : RefMay t ↔ Fit t := by
  constructor
  · intro h
    have hn := h.onep.nodup (f := 256) (a := 0) (i := t.root.toNat) rfl
    have hl := pre_lt (sub_lt h.ins) (f := 256) (root_lt h.root)
    have hle := nodup_le hn hl
    have hc := cnt_trc t 256 t.root.toNat
    rw [h.cnt] at hc
    have ht : trc t 256 t.root.toNat = 0 := by omega
    exact ⟨h.root, h.shp, h.ins, (trc_ok h.ins (root_lt h.root)).1 ht, nodup_perm hn hl (by omega)⟩
  · intro h
    have hp := pre_subs (leaf_sub h.shp) h.ok
    have hq : (List.range t.nodes.length).Perm (t.root.toNat :: t.all) := by
      refine h.per.symm.trans (hp.trans (List.Perm.cons _ ?_))
      rw [all_range]
      exact List.Perm.flatMap_right t.sub h.per
    have hc : ∀ j, (List.range t.nodes.length).count j = (t.root.toNat :: t.all).count j := fun j => hq.count_eq j
    have hr : ∀ j, j < t.nodes.length → (List.range t.nodes.length).count j = 1 := fun j hj => by rw [List.nodup_range.count, if_pos (List.mem_range.2 hj)]
    refine ⟨h.root, h.shp, h.ins, ?_, fun i hi hne => ?_, ?_⟩
    · have h1 := hc t.root.toNat
      rw [hr _ (root_lt h.root), List.count_cons_self] at h1
      omega
    · have h1 := hc i
      rw [hr _ hi, List.count_cons_of_ne (fun e => hne e.symm)] at h1
      exact h1.symm
    · have hk := cnt_trc t 256 t.root.toNat
      rw [(trc_ok h.ins (root_lt h.root)).2 h.ok, h.per.length_eq, List.length_range] at hk
      omega
end Tt
end Go.Proofs.YtggeiajbcehkjaaGreatDoor
