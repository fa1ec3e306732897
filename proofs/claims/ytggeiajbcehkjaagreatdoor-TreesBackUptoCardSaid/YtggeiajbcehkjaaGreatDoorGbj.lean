/- What landed of trees: which may be: nodes as they are gone over, each ahead of those in it; a tree may be just if each comes once, is fit where it stands, and all come. -/
import Derived.Test.YtggeiajbcehkjaaGreatDoorGbi
import Derived.Test.YtggeiajbcehkjaaGreatDoorGbf
import Derived.Test.YtggeiajbcehkjaaGreatDoorGbd
namespace Go.Proofs.YtggeiajbcehkjaaGreatDoor
open Va (Bs V v0)
namespace Tt
theorem nodup_ofNat {l : List Nat} (h : l.Nodup) : (l.map Int.ofNat).Nodup := by
  rw [List.Nodup, List.pairwise_map]
  exact h.imp fun hne e => hne (Int.ofNat.inj e)
theorem of_ofNat {l : List Nat} (h : (l.map Int.ofNat).Nodup) : l.Nodup := by
  rw [List.Nodup, List.pairwise_map] at h
  exact h.imp fun hne e => hne (by rw [e])
/-- A node's Subs, whatever number it has. -/
def Tr.subsZ (t : Tr) (i : Int) : List Int := if 0 ≤ i then (match t.nodes[i.toNat]? with | some x => x.subs | none => []) else []
/-- Nodes as they are gone over: which, and within how many; so deep at most. -/
def evs (t : Tr) : Nat → Int → Nat → List (Int × Nat)
  | 0, i, d => [(i, d)]
  | f + 1, i, d => (i, d) :: (t.subsZ i).flatMap fun s => evs t f s (d + 1)
/-- May a node be, within so many? -/
def Nd.fits (x : Nd) (d : Nat) : Bool := x.shp && (decide (d < 256) || decide (x.kind < 7))
/-- Is there such a node, and may it be there? -/
def Tr.fit (t : Tr) (e : Int × Nat) : Prop := 0 ≤ e.1 ∧ ∃ x, t.nodes[e.1.toNat]? = some x ∧ x.fits e.2 = true
/-- What has come is fit, each once. -/
structure Gd (t : Tr) (l : List (Int × Nat)) : Prop where
  nd : (l.map Prod.fst).Nodup
  ok : ∀ e ∈ l, t.fit e
theorem Gd.nil (t : Tr) : Gd t [] := ⟨List.nodup_nil, fun _ h => by cases h⟩
theorem Gd.snoc {t : Tr} {l : List (Int × Nat)} {e : Int × Nat} : Gd t (l ++ [e]) ↔ Gd t l ∧ e.1 ∉ l.map Prod.fst ∧ t.fit e := by
  constructor
  · rintro ⟨h1, h2⟩
    rw [List.map_append, List.nodup_append] at h1
    exact ⟨⟨h1.1, fun x hx => h2 x (List.mem_append_left _ hx)⟩, fun hm => h1.2.2 _ hm e.1 (by simp) rfl, h2 e (by simp)⟩
  · rintro ⟨⟨h1, h2⟩, h3, h4⟩
    refine ⟨?_, fun x hx => ?_⟩
    · rw [List.map_append, List.nodup_append]
      refine ⟨h1, by simp, fun a ha b hb hab => ?_⟩
      simp at hb
      exact h3 (by rw [← hb, ← hab]; exact ha)
    · rcases List.mem_append.1 hx with hx | hx
      · exact h2 x hx
      · simp at hx; rw [hx]; exact h4
theorem Gd.pre {t : Tr} {l m : List (Int × Nat)} (h : Gd t m) (hp : l <+: m) : Gd t l :=
  ⟨h.nd.sublist (List.Sublist.map _ hp.sublist), fun e he => h.ok e (hp.subset he)⟩
theorem fit_lt {t : Tr} {e : Int × Nat} (h : t.fit e) : 0 ≤ e.1 ∧ e.1 < t.nodes.length := by
  obtain ⟨h0, x, hx, _⟩ := h
  have := (List.getElem?_eq_some_iff.1 hx).1
  omega
theorem fits_shp {x : Nd} {d : Nat} (h : x.fits d = true) : x.shp = true ∧ (d < 256 ∨ x.kind < 7) := by
  unfold Nd.fits at h
  rw [Bool.and_eq_true, Bool.or_eq_true] at h
  exact ⟨h.1, h.2.imp of_decide_eq_true of_decide_eq_true⟩
theorem fits_of {x : Nd} {d : Nat} (h : x.shp = true) (h2 : d < 256 ∨ x.kind < 7) : x.fits d = true := by
  unfold Nd.fits
  rw [Bool.and_eq_true, Bool.or_eq_true]
  exact ⟨h, h2.imp decide_eq_true decide_eq_true⟩
theorem subsZ_get {t : Tr} {i : Int} {x : Nd} (h0 : 0 ≤ i) (hx : t.nodes[i.toNat]? = some x) : t.subsZ i = x.subs := by
  unfold Tr.subsZ; rw [if_pos h0, hx]
theorem sub_subsZ {t : Tr} {i : Int} (h0 : 0 ≤ i) : t.sub i.toNat = (t.subsZ i).map Int.toNat := by
  unfold Tr.subsZ Tr.sub; rw [if_pos h0]
  cases t.nodes[i.toNat]? <;> rfl
theorem subsZ_in {t : Tr} (hi : t.ins) {i s : Int} (h : s ∈ t.subsZ i) : 0 ≤ s ∧ s < t.nodes.length := by
  unfold Tr.subsZ at h
  split at h
  · split at h
    · rename_i x hx
      exact hi x (List.mem_of_getElem? hx) s h
    · cases h
  · cases h
theorem evs_self (t : Tr) (f : Nat) (i : Int) (d : Nat) : (i, d) ∈ evs t f i d := by cases f <;> simp [evs]
theorem evs_map {t : Tr} (hi : t.ins) : ∀ (f : Nat) (i : Int) (d : Nat), 0 ≤ i → (evs t f i d).map Prod.fst = (pre t.sub f i.toNat).map Int.ofNat
  | 0, i, d, h => by simp [evs, pre]; omega
  | f + 1, i, d, h => by
    have e : ∀ l : List Int, (∀ s ∈ l, 0 ≤ s) → (l.flatMap fun s => evs t f s (d + 1)).map Prod.fst = ((l.map Int.toNat).flatMap (pre t.sub f)).map Int.ofNat := by
      intro l
      induction l with
      | nil => intro _; rfl
      | cons s r ih =>
        intro hl
        rw [List.flatMap_cons, List.map_append, List.map_cons, List.flatMap_cons, List.map_append, evs_map hi f s (d + 1) (hl s (List.mem_cons_self ..)), ih fun y hy => hl y (List.mem_cons_of_mem _ hy)]
    rw [evs, pre, List.map_cons, List.map_cons, sub_subsZ h, e _ fun s hs => (subsZ_in hi hs).1]
    congr 1
    exact (Int.toNat_of_nonneg h).symm
theorem evs_ok {t : Tr} (hi : t.ins) (hs : ∀ x ∈ t.nodes, x.shp = true) : ∀ (f : Nat) (i : Int) (d : Nat), f + d = 256 → 0 ≤ i → i < t.nodes.length → okD t.sub t.leaf f i.toNat → ∀ e ∈ evs t (f + 1) i d, t.fit e
  | f, i, d, hd, h0, hlt, h, e, he => by
    obtain ⟨x, hx⟩ := Va.get_lt (l := t.nodes) (i := i.toNat) (by omega)
    rw [evs, List.mem_cons, List.mem_flatMap] at he
    rcases he with rfl | ⟨s, hs2, he⟩
    · refine ⟨h0, x, hx, fits_of (hs x (List.mem_of_getElem? hx)) ?_⟩
      by_cases hf : f = 0
      · subst hf
        obtain ⟨x2, hx2, hk⟩ := h
        rw [hx] at hx2; injection hx2 with hx2; subst hx2
        exact .inr hk
      · exact .inl (by show d < 256; omega)
    · have hin := subsZ_in hi hs2
      match f, h with
      | 0, h =>
        obtain ⟨x2, hx2, hk⟩ := h
        rw [hx] at hx2; injection hx2 with hx2; subst hx2
        rw [subsZ_get h0 hx, shp_leaf (hs x (List.mem_of_getElem? hx)) hk] at hs2
        cases hs2
      | f + 1, h =>
        have h : ∀ s ∈ t.sub i.toNat, okD t.sub t.leaf f s := h
        exact evs_ok hi hs f s (d + 1) (by omega) hin.1 hin.2 (h _ (by rw [sub_subsZ h0]; exact List.mem_map.2 ⟨s, hs2, rfl⟩)) e he
/-- All nodes, as they are gone over from the root on. -/
abbrev Tr.evA (t : Tr) : List (Int × Nat) := evs t 257 t.root 0
theorem Fit.gd {t : Tr} (h : Fit t) : Gd t t.evA ∧ t.evA.length = t.nodes.length := by
  have hm := evs_map h.ins 257 t.root 0 h.root.1
  rw [show (257 : Nat) = 256 + 1 from rfl, okD_pre (leaf_sub h.shp) h.ok] at hm
  refine ⟨⟨?_, evs_ok h.ins h.shp 256 t.root 0 rfl h.root.1 h.root.2 h.ok⟩, ?_⟩
  · rw [hm]
    exact nodup_ofNat ((h.per.nodup_iff).2 List.nodup_range)
  · have := congrArg List.length hm
    rw [List.length_map, List.length_map, h.per.length_eq, List.length_range] at this
    exact this
theorem evs_sub (t : Tr) : ∀ (f : Nat) (i : Int) (d : Nat) (e : Int × Nat), e ∈ evs t f i d → e.2 < d + f → ∀ s ∈ t.subsZ e.1, (s, e.2 + 1) ∈ evs t f i d
  | 0, i, d, e, he, hlt, s, hs => by
    have : e = (i, d) := by simpa [evs] using he
    subst this; simp at hlt
  | f + 1, i, d, e, he, hlt, s, hs => by
    rw [evs, List.mem_cons, List.mem_flatMap] at he
    rw [evs, List.mem_cons, List.mem_flatMap]
    rcases he with rfl | ⟨s2, hs2, he⟩
    · exact .inr ⟨s, hs, evs_self _ _ _ _⟩
    · exact .inr ⟨s2, hs2, evs_sub t f s2 (d + 1) e he (by omega) s hs⟩
theorem evs_le (t : Tr) : ∀ (f : Nat) (i : Int) (d : Nat) (e : Int × Nat), e ∈ evs t f i d → e.2 ≤ d + f
  | 0, i, d, e, he => by
    have : e = (i, d) := by simpa [evs] using he
    subst this; exact Nat.le_refl _
  | f + 1, i, d, e, he => by
    rw [evs, List.mem_cons, List.mem_flatMap] at he
    rcases he with rfl | ⟨s, _, he⟩
    · exact Nat.le_add_right _ _
    · have := evs_le t f s (d + 1) e he; omega
theorem okD_evs {t : Tr} : ∀ (f : Nat) (i : Int) (d : Nat), f + d = 256 → (∀ e ∈ evs t (f + 1) i d, t.fit e) → okD t.sub t.leaf f i.toNat
  | 0, i, d, hd, h => by
    obtain ⟨_, x, hx, hk⟩ := h _ (evs_self _ _ _ _)
    have := (fits_shp hk).2
    have hd : d = 256 := by omega
    subst hd
    exact ⟨x, hx, by rcases this with h | h; exact absurd (show (256 : Nat) < 256 from h) (by decide); exact h⟩
  | f + 1, i, d, hd, h => by
    obtain ⟨h0, _⟩ := h _ (evs_self _ _ _ _)
    intro s hs
    rw [sub_subsZ h0] at hs
    obtain ⟨z, hz, rfl⟩ := List.mem_map.1 hs
    exact okD_evs f z (d + 1) (by omega) fun e he => h e (by rw [evs, List.mem_cons, List.mem_flatMap]; exact .inr ⟨z, hz, he⟩)
theorem fit_of {t : Tr} (h : Gd t t.evA) (hn : t.evA.length = t.nodes.length) : Fit t := by
  have hall : ∀ a, a < t.nodes.length → ∃ d, ((a : Nat), d) ∈ t.evA.map fun e => ((e.1.toNat, e.2) : Nat × Nat) := fun a ha => by
    have h1 : (t.evA.map fun e => e.1.toNat).Nodup := by
      have hnd := h.nd
      rw [List.Nodup, List.pairwise_map] at hnd ⊢
      exact hnd.imp_of_mem fun {x y} hx hy hne e => hne (by have := fit_lt (h.ok x hx); have := fit_lt (h.ok y hy); omega)
    have h2 : a ∈ t.evA.map fun e => e.1.toNat := nodup_all h1 (fun j hj => by
      obtain ⟨e, he, rfl⟩ := List.mem_map.1 hj
      have := fit_lt (h.ok e he); show e.1.toNat < _; omega) (by rw [List.length_map]; exact hn) ha
    obtain ⟨e, he, rfl⟩ := List.mem_map.1 h2
    exact ⟨e.2, List.mem_map.2 ⟨e, he, rfl⟩⟩
  have hev : ∀ a x, t.nodes[a]? = some x → ∃ e ∈ t.evA, 0 ≤ e.1 ∧ e.1.toNat = a ∧ x.fits e.2 = true := fun a x hx => by
    obtain ⟨d, hd⟩ := hall a (List.getElem?_eq_some_iff.1 hx).1
    obtain ⟨e, he, hee⟩ := List.mem_map.1 hd
    injection hee with e1 e2
    obtain ⟨h0, y, hy, hf⟩ := h.ok e he
    rw [e1, hx] at hy
    injection hy with hy
    subst hy
    exact ⟨e, he, h0, e1, hf⟩
  have hs : ∀ x ∈ t.nodes, x.shp = true := fun x hx => by
    obtain ⟨a, ha, hax⟩ := List.getElem_of_mem hx
    obtain ⟨_, _, _, _, hf⟩ := hev a x (by rw [List.getElem?_eq_getElem ha, hax])
    exact (fits_shp hf).1
  have hi : t.ins := fun x hx s hss => by
    obtain ⟨a, ha, hax⟩ := List.getElem_of_mem hx
    have hg : t.nodes[a]? = some x := by rw [List.getElem?_eq_getElem ha, hax]
    obtain ⟨e, he, h0, h1, hf⟩ := hev a x hg
    have hz : t.subsZ e.1 = x.subs := subsZ_get h0 (by rw [h1]; exact hg)
    have hle := evs_le t _ _ _ e he
    by_cases hd : e.2 < 257
    · exact fit_lt (h.ok _ (evs_sub t _ _ _ e he (by omega) s (by rw [hz]; exact hss)))
    · rcases (fits_shp hf).2 with h2 | h2
      · omega
      · rw [shp_leaf (fits_shp hf).1 h2] at hss; cases hss
  have hr := fit_lt (h.ok _ (evs_self t 257 t.root 0))
  have hok : okD t.sub t.leaf 256 t.root.toNat := okD_evs 256 t.root 0 rfl h.ok
  have hm := evs_map hi 257 t.root 0 hr.1
  rw [show (257 : Nat) = 256 + 1 from rfl, okD_pre (leaf_sub hs) hok] at hm
  have hnd : (pre t.sub 256 t.root.toNat).Nodup := by
    have := h.nd
    rw [show t.evA.map Prod.fst = _ from hm] at this
    exact of_ofNat this
  have hlen : (pre t.sub 256 t.root.toNat).length = t.nodes.length := by
    have := congrArg List.length hm
    rw [List.length_map, List.length_map] at this
    rw [← this]; exact hn
  exact ⟨hr, hs, hi, hok, nodup_perm hnd (pre_lt (sub_lt hi) (root_lt hr)) hlen⟩
/-- A tree may be. -/
theorem fit_gd {t : Tr} : Fit t ↔ Gd t t.evA ∧ t.evA.length = t.nodes.length := ⟨Fit.gd, fun h => fit_of h.1 h.2⟩
end Tt
end Go.Proofs.YtggeiajbcehkjaaGreatDoor
/- What landed of trees: is there such a node; may one stand so deep; a node's value with nulls for what is in it; may a node be. -/
namespace Go.Proofs.YtggeiajbcehkjaaGreatDoor
open Go.RowKit
open Va (Bs V v0 Tx Vm Vk Vr vO below_tr below_new heap_alloc_new get_lt vcells vm_zero lmay_any)
namespace Tt
set_option maxRecDepth 100000

theorem s1 (W : World) (o : Obj) : (W.alloc o).heap.size = W.heap.size + 1 := by show (W.heap.push o).size = _; rw [Array.size_push]
theorem has_any {t : Tr} {v : Value} {i : Int} {p : Bool} (w : World) (hv : Tm w v t) (_hn : t.nodes.length ≤ 1000000) (_hi : i64 i) (hp : p = decide (0 ≤ i ∧ i < t.nodes.length)) :
    Calls Tryz.prog 35 #[v, .int .i64 i] w fun e w' => e = .returned (.bool p) ∧ Below w.heap.size w w' := by
  obtain ⟨A, c, rfl, hc1, hc2, hc3, hr, _⟩ := hv
  obtain ⟨n, hN⟩ : ∃ n, n = t.nodes.length := ⟨_, rfl⟩
  obtain ⟨r, hR⟩ : ∃ r, r = t.root := ⟨_, rfl⟩
  rw [← hN] at _hn hp ⊢
  rw [← hR]
  clear hc1 hc2 hc3 hr hN hR
  by_cases h0 : (0 : Int) ≤ i
  · by_cases h1 : i < (n : Int)
    · obtain rfl : p = true := by rw [hp]; exact decide_eq_true ⟨h0, h1⟩
      clear hp _hi
      go_enter Tryz.func35, Tryz.ntmps35
      go_wp2_with fail
      go_ret
      exact ⟨by first | rfl | trivial, below_new ..⟩
    · obtain rfl : p = false := by rw [hp]; exact decide_eq_false (fun h => h1 h.2)
      clear hp _hi
      go_enter Tryz.func35, Tryz.ntmps35
      go_wp2_with fail
      go_ret
      exact ⟨by first | rfl | trivial, below_new ..⟩
  · obtain rfl : p = false := by rw [hp]; exact decide_eq_false (fun h => h0 h.1)
    clear hp _hi
    go_enter Tryz.func35, Tryz.ntmps35
    go_wp2_with fail
    go_ret
    exact ⟨by first | rfl | trivial, below_new ..⟩
theorem mayStand_any {k d : Nat} {p : Bool} (w : World) (hk : k < 256) (hd : d ≤ 1000000) (hp : p = (decide (d < 256) || !(decide (k = 7) || decide (k = 8)))) :
    Calls Tryz.prog 60 #[.int .u8 k, .int .i64 d] w fun e w' => e = .returned (.bool p) ∧ w = w' := by
  by_cases h0 : d < 256
  · have h0 : (d : Int) < 256 := by omega
    obtain rfl : p = true := by rw [hp]; simp; omega
    clear hp
    go_enter Tryz.func60, Tryz.ntmps60
    go_wp2_with fail
    go_ret
    exact ⟨by first | rfl | trivial, rfl⟩
  · by_cases h7 : k = 7
    · subst h7
      have h0 : ¬ (d : Int) < 256 := by omega
      obtain rfl : p = false := by rw [hp]; simp; omega
      clear hp
      go_enter Tryz.func60, Tryz.ntmps60
      go_wp2_with fail
      go_ret
      exact ⟨by first | rfl | trivial, rfl⟩
    · by_cases h8 : k = 8
      · subst h8
        have h0 : ¬ (d : Int) < 256 := by omega
        obtain rfl : p = false := by rw [hp]; simp; omega
        clear hp
        go_enter Tryz.func60, Tryz.ntmps60
        go_wp2_with fail
        go_ret
        exact ⟨by first | rfl | trivial, rfl⟩
      · have h0 : ¬ (d : Int) < 256 := by omega
        obtain rfl : p = true := by rw [hp]; simp; omega
        have g7 : ((k : Int) != 7) = true := bne_iff_ne.2 (by omega)
        have g8 : ((k : Int) != 8) = true := bne_iff_ne.2 (by omega)
        clear hp
        go_enter Tryz.func60, Tryz.ntmps60
        go_wp2_with fail
        go_ret
        exact ⟨by first | rfl | trivial, rfl⟩
/-- A row of empty values, just made. -/
theorem zeros_cell {w : World} {g n : Nat} {T : TypeId} (h : w.heap[g]? = some (.cells (madeCells #[.int .u8 0, .string ⟨#[]⟩, .slice none 0 0, .slice none 0 0] (n * 4)) T)) {i j : Nat} (hi : i < n) (hj : j < 4) :
    w.cell? ⟨g, i * 4 + j, none⟩ = some ((#[Value.int .u8 0, .string ⟨#[]⟩, .slice none 0 0, .slice none 0 0])[j]!) := by
  have hl : i * 4 + j < n * 4 := by omega
  simp only [World.cell?, h]
  have e : (madeCells #[Value.int .u8 0, .string ⟨#[]⟩, .slice none 0 0, .slice none 0 0] (n * 4))[i * 4 + j]? = some ((#[Value.int .u8 0, .string ⟨#[]⟩, .slice none 0 0, .slice none 0 0])[(i * 4 + j) % 4]!) := by
    unfold madeCells
    rw [Array.getElem?_map, Array.getElem?_range, if_pos hl]; rfl
  rw [show (i * 4 + j) % 4 = j by omega] at e
  exact e
theorem self_vm {w : World} {x : Nd} {K S U A : Option Addr} {a b c n : Nat} (hN : Nr w x K S U a b c) (hn : n = x.subs.length) (hm : n ≤ 1000000) (hA : ∃ g, A = some ⟨g, 0, none⟩ ∧ w.heap[g]? = some (.cells (madeCells #[.int .u8 0, .string ⟨#[]⟩, .slice none 0 0, .slice none 0 0] (n * 4)) 33)) :
    Vm w (.agg #[.int .u8 x.kind, .string (txt x.text), .slice A n n, .slice K x.keys.length a]) x.self := by
  obtain ⟨g, rfl, hg⟩ := hA
  have hl : (List.replicate x.subs.length v0).length = n := by rw [List.length_replicate, hn]
  have := Vk.mk (w := w) (ok := fun _ => True) x.kind x.text (List.replicate x.subs.length v0) x.keys (some ⟨g, 0, none⟩) K n a (fun _ j => (#[Value.int .u8 0, .string ⟨#[]⟩, .slice none 0 0, .slice none 0 0])[j]!) hN.k (by omega) (by unfold maxLen; omega) (fun h => by cases h) hN.ka.1 hN.ka.2.1 hN.ka.2.2 hN.keys
    (fun _ => ⟨g, 0, rfl, (Array.getElem?_eq_some_iff.1 hg).1, fun i hi j hj => by rw [Nat.zero_add]; exact zeros_cell hg (by omega) hj⟩) (fun _ _ _ _ => trivial) (fun _ _ _ _ => trivial) (fun i y hy => by
      have hy := List.getElem?_eq_some_iff.1 hy
      obtain ⟨h1, h2⟩ := hy
      rw [List.getElem_replicate] at h2
      subst h2
      exact vm_zero w)
  rw [hl] at this
  exact this
set_option maxHeartbeats 4000000 in
theorem outer_any {x : Nd} {v : Value} (w : World) (hv : Nm w v x) (hs : x.subs.length ≤ 1000000) :
    Calls Tryz.prog 61 #[v] w fun e w' => (∃ u, e = .returned u ∧ Vm w' u x.self) ∧ Below w.heap.size w w' := by
  obtain ⟨i0, hi0, hz0, hz1, hz2⟩ := info_parts (show (Tryz.prog.info? 33).map (fun i => (i.zero, i.size, i.bytes)) = some (some (.agg #[.int .u8 0, .string ⟨#[]⟩, .slice none 0 0, .slice none 0 0]), 4, 72) by kernel_rfl)
  obtain ⟨K, S, U, a, b, d, rfl, hNr⟩ := hv
  obtain ⟨T, hT⟩ : ∃ T, T = txt x.text := ⟨_, rfl⟩
  obtain ⟨kl, hK⟩ : ∃ n, n = x.keys.length := ⟨_, rfl⟩
  obtain ⟨sl, hS⟩ : ∃ n, n = x.spots.length := ⟨_, rfl⟩
  obtain ⟨ul, hU⟩ : ∃ n, n = x.subs.length := ⟨_, rfl⟩
  obtain ⟨k, hk⟩ : ∃ n, n = x.kind := ⟨_, rfl⟩
  obtain ⟨p, hp⟩ : ∃ p, p = x.span.1 := ⟨_, rfl⟩
  obtain ⟨q, hq⟩ : ∃ p, p = x.span.2 := ⟨_, rfl⟩
  have HNR := Lib.hid hNr
  have HE := Lib.hid (And.intro hT (And.intro hK (And.intro hk hU)))
  unfold ndC
  rw [← hT, ← hK, ← hS, ← hU, ← hk, ← hp, ← hq]
  rw [← hU] at hs
  clear hNr hT hK hS hU hk hp hq
  obtain ⟨O, HO⟩ : ∃ O, Hid (O = Obj.cells (madeCells #[.int .u8 0, .string ⟨#[]⟩, .slice none 0 0, .slice none 0 0] (ul * 4)) 33) := ⟨_, Lib.hid rfl⟩
  have HMK : ∀ w', (Instr.makeSlice 30 (.int .i64 (ul : Int)) (.int .i64 (ul : Int))).run Tryz.prog w' = .ok (.slice (some ⟨w'.heap.size, 0, none⟩) ul ul) (w'.alloc O) := fun w' => by
    have := run_make (P := Tryz.prog) w' 30 33 i0 _ Tryz.underlying30 hi0 hz0 .i64 .i64 (ul : Int) (ul : Int) (by omega) (by omega) (by rw [hz2]; omega) (by omega)
    rw [this, hz1, HO.out]
    rfl
  obtain ⟨W1, hW1⟩ : ∃ W, W = w.alloc (nO [.int .u8 k, .string T, .slice K kl a, .slice S sl b, .slice U ul d, .int .i64 p, .int .i64 q]) := ⟨_, rfl⟩
  obtain ⟨W2, hW2⟩ : ∃ W, W = W1.alloc (vO (.int .u8 0) (.string ⟨#[]⟩) (.slice none 0 0) (.slice none 0 0)) := ⟨_, rfl⟩
  have hb1 : Below w.heap.size w W1 := by rw [hW1]; exact below_new ..
  have hb2 : Below W1.heap.size W1 W2 := by rw [hW2]; exact below_new ..
  have z1 : W1.heap.size = w.heap.size + 1 := by rw [hW1, s1]
  have z2 : W2.heap.size = w.heap.size + 2 := by rw [hW2, s1, z1]
  have b0 : W2.heap[w.heap.size]? = some (nO [.int .u8 k, .string T, .slice K kl a, .slice S sl b, .slice U ul d, .int .i64 p, .int .i64 q]) := (hb2.block _ (by omega)).trans (by rw [hW1]; exact heap_alloc_new ..)
  have b1 : W2.heap[W1.heap.size]? = some (vO (.int .u8 0) (.string ⟨#[]⟩) (.slice none 0 0) (.slice none 0 0)) := by rw [hW2]; exact heap_alloc_new ..
  have HB2 := Lib.hid (below_tr hb1 hb2)
  have HW1 := Lib.hid hW1
  have HW2 := Lib.hid hW2
  have HZ := Lib.hid (And.intro z1 z2)
  clear hW1 hW2 hb1 hb2 z1 z2
  go_enter Tryz.func61, Tryz.ntmps61
  go_upto_region 1 with fail
  rw [← HW1.out, ← HW2.out]
  obtain ⟨h2, hh2⟩ : ∃ h2, h2 = w.heap.size + 1 := ⟨_, rfl⟩
  rw [HZ.out.1, ← hh2] at b1
  rw [← hh2]
  obtain ⟨h, hh⟩ : ∃ h, h = w.heap.size := ⟨_, rfl⟩
  rw [← hh] at b0
  try rw [← hh]
  have HHS := Lib.hid (And.intro hh hh2)
  clear HW1 HW2 hh hh2
  have HO1 := Lib.hid b1
  have hl0 : h < W2.heap.size := (Array.getElem?_eq_some_iff.1 b0).1
  have hl1 : h2 < W2.heap.size := (Array.getElem?_eq_some_iff.1 b1).1
  have x0 : W2.cell? ⟨h, 0, none⟩ = some (.int .u8 k) := by simp [World.cell?, b0]
  have x1 : W2.cell? ⟨h, 1, none⟩ = some (.string T) := by simp [World.cell?, b0]
  have x2 : W2.cell? ⟨h, 2, none⟩ = some (.slice K kl a) := by simp [World.cell?, b0]
  have x4 : W2.cell? ⟨h, 4, none⟩ = some (.slice U ul d) := by simp [World.cell?, b0]
  have y0 : (W2.alloc O).cell? ⟨h, 0, none⟩ = some (.int .u8 k) := by rw [World.cell?_alloc_lt _ _ _ hl0]; exact x0
  have y1 : (W2.alloc O).cell? ⟨h, 1, none⟩ = some (.string T) := by rw [World.cell?_alloc_lt _ _ _ hl0]; exact x1
  have y2 : (W2.alloc O).cell? ⟨h, 2, none⟩ = some (.slice K kl a) := by rw [World.cell?_alloc_lt _ _ _ hl0]; exact x2
  have bb : (W2.alloc O).heap[h2]? = some (vO (.int .u8 0) (.string ⟨#[]⟩) (.slice none 0 0) (.slice none 0 0)) := ((below_new W2 O).block _ hl1).trans b1
  obtain ⟨⟨r0, r1, r2, r3⟩, t0, t1, t2, t3⟩ := vcells b1
  clear b0 b1 bb
  go_region
  go_wp2_with fail
  refine bodyPost_ret (v := .agg #[.int .u8 k, .string T, .slice (some ⟨W2.heap.size, 0, none⟩) ul ul, .slice K kl a]) (by simp [results, Tryz.results61, go_sem, *]) rfl ?_
  obtain ⟨e1, e2, e3, e4⟩ := HE.out
  have hle : w.heap.size ≤ h2 := by have := HHS.out.2; omega
  have HB3 : ∀ a b c d : Value, Below w.heap.size w (((((W2.setCell ⟨h2, 0, none⟩ a).setCell ⟨h2, 1, none⟩ b).setCell ⟨h2, 2, none⟩ c).setCell ⟨h2, 3, none⟩ d).alloc O).drew := fun a b c d =>
    (((((HB2.out.setCell (p := ⟨h2, 0, none⟩) hle a).setCell (p := ⟨h2, 1, none⟩) hle b).setCell (p := ⟨h2, 2, none⟩) hle c).setCell (p := ⟨h2, 3, none⟩) hle d).alloc (by have := HB2.out.size; simpa using this) O).drew
  refine ⟨⟨_, rfl, ?_⟩, HB3 _ _ _ _⟩
  rw [e1, e2, e3]
  refine self_vm (HNR.out.on (HB3 _ _ _ _)) e4 hs ⟨W2.heap.size, rfl, ?_⟩
  rw [← HO.out]
  have := heap_alloc_new ((((W2.setCell ⟨h2, 0, none⟩ (.int .u8 x.kind)).setCell ⟨h2, 1, none⟩ (.string (txt x.text))).setCell ⟨h2, 2, none⟩ (.slice (some ⟨W2.heap.size, 0, none⟩) ul ul)).setCell ⟨h2, 3, none⟩ (.slice K x.keys.length a)) O
  rwa [show ((((W2.setCell ⟨h2, 0, none⟩ (.int .u8 x.kind)).setCell ⟨h2, 1, none⟩ (.string (txt x.text))).setCell ⟨h2, 2, none⟩ (.slice (some ⟨W2.heap.size, 0, none⟩) ul ul)).setCell ⟨h2, 3, none⟩ (.slice K x.keys.length a)).heap.size = W2.heap.size from by simp] at this
end Tt
end Go.Proofs.YtggeiajbcehkjaaGreatDoor
/- What landed of trees: may a node be, within so many. -/
namespace Go.Proofs.YtggeiajbcehkjaaGreatDoor
open Go.RowKit
open Va (Bs V v0 Tx Vm Vk Vr vO below_tr below_new heap_alloc_new get_lt vcells vm_zero lmay_any)
namespace Tt
set_option maxRecDepth 100000

theorem wtL_rep : ∀ n : Nat, Va.wtL (List.replicate n v0) = n
  | 0 => rfl
  | n + 1 => by rw [List.replicate_succ, Va.wtL, wtL_rep n]; simp [Va.wt, Va.kw, Va.wtL]; omega
theorem self_wt {x : Nd} (h : wN x ≤ 1000000) : Va.wt x.self ≤ 1000000 := by
  unfold Nd.self; unfold wN at h
  rw [Va.wt, wtL_rep]; omega
theorem fits_eq {x : Nd} {d : Nat} {q m : Bool} (hq : q = (decide (d < 256) || !(decide (x.kind = 7) || decide (x.kind = 8)))) (hm : m = Va.may x.self) (he : x.spots.length = x.keys.length) : x.fits d = (q && m) := by
  unfold Nd.fits Nd.shp
  rw [decide_eq_true he, Bool.true_and, ← hm]
  cases m with
  | false => simp
  | true =>
    have hk : x.kind ≤ 8 := by
      have := Va.may_pl hm.symm
      unfold Nd.self at this
      rw [Va.pl, Bool.and_eq_true] at this
      have := of_decide_eq_true this.1
      omega
    subst hq
    by_cases h : d < 256
    · simp [h]
    · have : decide (x.kind < 7) = !(decide (x.kind = 7) || decide (x.kind = 8)) := by
        by_cases h7 : x.kind < 7
        · rw [decide_eq_true h7, decide_eq_false (by omega), decide_eq_false (by omega)]; rfl
        · rw [decide_eq_false h7]
          by_cases h8 : x.kind = 7
          · simp [h8]
          · have : x.kind = 8 := by omega
            simp [this]
      simp [h, this]
/-- A node's block. -/
theorem ncells {w : World} {g : Nat} {a b c d e f i : Value} (h : w.heap[g]? = some (nO [a, b, c, d, e, f, i])) : (w.cell? ⟨g, 0, none⟩ = some a ∧ w.cell? ⟨g, 1, none⟩ = some b ∧ w.cell? ⟨g, 2, none⟩ = some c ∧ w.cell? ⟨g, 3, none⟩ = some d) ∧ w.cell? ⟨g, 4, none⟩ = some e ∧ w.cell? ⟨g, 5, none⟩ = some f ∧ w.cell? ⟨g, 6, none⟩ = some i := by
  simp [World.cell?, h]
set_option maxHeartbeats 4000000 in
theorem mayNode_any {x : Nd} {v : Value} {d : Nat} {p : Bool} (w : World) (hv : Nm w v x) (hx : wN x ≤ 1000000) (hd : d ≤ 1000000) (hp : p = x.fits d) :
    Calls Tryz.prog 39 #[v, .int .i64 d] w fun e w' => e = .returned (.bool p) ∧ Below w.heap.size w w' := by
  have hs5 : x.subs.length ≤ 1000000 := by unfold wN at hx; omega
  obtain ⟨m, hm⟩ : ∃ m, m = Va.may x.self := ⟨_, rfl⟩
  obtain ⟨s, hs⟩ : ∃ s, s = (decide (d < 256) || !(decide (x.kind = 7) || decide (x.kind = 8))) := ⟨_, rfl⟩
  have CO := Lib.hid (fun (w' : World) (hb : Below w.heap.size w w') => outer_any w' (hv.on hb) hs5)
  have CM := Lib.hid (fun (w' : World) (u : Value) (hu : Vm w' u x.self) => lmay_any w' hu (self_wt hx))
  rw [← hm] at CM
  have HP := Lib.hid (show x.spots.length = x.keys.length → p = (s && m) from fun he => hp.trans (fits_eq hs hm he))
  have HP0 := Lib.hid (show ¬ x.spots.length = x.keys.length → p = false from fun he => by rw [hp]; unfold Nd.fits Nd.shp; rw [decide_eq_false he]; rfl)
  obtain ⟨K, S, U, a, b, c, rfl, hNr⟩ := hv
  obtain ⟨T, hT⟩ : ∃ T, T = txt x.text := ⟨_, rfl⟩
  obtain ⟨kl, hK⟩ : ∃ n, n = x.keys.length := ⟨_, rfl⟩
  obtain ⟨sl, hS⟩ : ∃ n, n = x.spots.length := ⟨_, rfl⟩
  obtain ⟨ul, hU⟩ : ∃ n, n = x.subs.length := ⟨_, rfl⟩
  obtain ⟨k, hk⟩ : ∃ n, n = x.kind := ⟨_, rfl⟩
  obtain ⟨y, hy⟩ : ∃ p, p = x.span.1 := ⟨_, rfl⟩
  obtain ⟨z, hz⟩ : ∃ p, p = x.span.2 := ⟨_, rfl⟩
  have hk9 : k < 256 := by rw [hk]; exact hNr.k
  unfold ndC at CO ⊢
  rw [← hk] at hs
  rw [← hT, ← hK, ← hS, ← hU, ← hk, ← hy, ← hz] at CO ⊢
  rw [← hK, ← hS] at HP HP0
  have CS := Lib.hid (fun (w' : World) => mayStand_any w' hk9 hd hs)
  clear hNr hT hK hS hU hk hy hz hp hm hs hx hs5
  obtain ⟨W1, hW1⟩ : ∃ W, W = w.alloc (nO [.int .u8 k, .string T, .slice K kl a, .slice S sl b, .slice U ul c, .int .i64 y, .int .i64 z]) := ⟨_, rfl⟩
  have HB1 := Lib.hid (show Below w.heap.size w W1 from by rw [hW1]; exact below_new ..)
  have b0 : W1.heap[w.heap.size]? = some (nO [.int .u8 k, .string T, .slice K kl a, .slice S sl b, .slice U ul c, .int .i64 y, .int .i64 z]) := by rw [hW1]; exact heap_alloc_new ..
  have HW1 := Lib.hid hW1
  clear hW1
  go_enter Tryz.func39, Tryz.ntmps39
  go_upto_region 1 with fail
  rw [← HW1.out]
  obtain ⟨h, hh⟩ : ∃ h, h = w.heap.size := ⟨_, rfl⟩
  rw [← hh] at b0
  try rw [← hh]
  clear HW1 hh
  obtain ⟨⟨x0, x1, x2, x3⟩, x4, x5, x6⟩ := ncells b0
  clear b0
  by_cases he : sl = kl
  · have HE := Lib.hid (HP.out he)
    subst he
    clear HP HP0
    go_wp2_with fail
    refine (CS.out _).mono ?_
    rintro e w3 ⟨rfl, rfl⟩
    cases s with
    | false =>
      obtain rfl : p = false := by rw [HE.out]; rfl
      go_wp2_with fail
      go_ret
      exact ⟨by first | rfl | trivial, HB1.out⟩
    | true =>
      obtain rfl : p = m := by rw [HE.out]; exact Bool.true_and _
      go_wp2_with fail
      refine (CO.out _ HB1.out).mono ?_
      rintro e w4 ⟨⟨u, rfl, hu⟩, hb⟩
      have HB4 := Lib.hid (below_tr HB1.out hb)
      have CM4 := Lib.hid (CM.out w4 u hu)
      clear hb hu x0 x1 x2 x3 x4 x5 x6
      go_wp2_with fail
      refine CM4.out.mono ?_
      rintro e w5 ⟨rfl, hb⟩
      have HB5 := Lib.hid (below_tr HB4.out hb)
      clear hb
      go_wp2_with fail
      go_ret
      exact ⟨by first | rfl | trivial, HB5.out⟩
  · obtain rfl : p = false := HP0.out he
    have he2 : ((sl : Int) == (kl : Int)) = false := by simp; omega
    clear HP HP0 he
    go_wp2_with fail
    go_ret
    exact ⟨by first | rfl | trivial, HB1.out⟩
end Tt
end Go.Proofs.YtggeiajbcehkjaaGreatDoor
