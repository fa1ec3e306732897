/- Values whose maps' keys stand in order; when two values are the same. -/
import Derived.Test.YtggeiajbcehkjaaGreatDoorGax
import Derived.Test.YtggeiajbcehkjaaGreatDoorGal
import Derived.Deep.QuietTactic
import Derived.BigQuiet
import Derived.Deep.Quiet
import Derived.Lib.Strings
import Derived.Laws.CopyOwn
import Derived.Laws.AppendOwn
import Derived.Laws.Strings
import Derived.OwnWalk
import Derived.StillTailTactics
import Derived.Laws.Rows
import Derived.Deep.RegionLaw
import Derived.Test.YtggeiajbcehkjaaGreatDoorGam
import Derived.Deep.AppendLies
namespace Go.Proofs.YtggeiajbcehkjaaGreatDoor
open Go.RowKit
namespace Va

abbrev v0 : V := .mk 0 [] [] []
mutual
def can : V → V
  | .mk k t l ks => if k = 8 then .mk 8 t ((ord ks ks.length).map fun j => (canL l).getD j v0) ((ord ks ks.length).map fun j => ks.getD j []) else .mk k t (canL l) ks
def canL : List V → List V
  | [] => []
  | x :: r => can x :: canL r
end
theorem canL_get : ∀ (l : List V) (i : Nat), (canL l)[i]? = (l[i]?).map can
  | [], _ => by rw [canL]; simp
  | x :: r, 0 => by rw [canL]; simp
  | x :: r, i + 1 => by rw [canL]; simpa using canL_get r i
theorem canL_some {l : List V} {i : Nat} {x : V} (h : l[i]? = some x) : (canL l)[i]? = some (can x) := by rw [canL_get, h]; rfl
/-- Are two values the same? -/
def sm (x y : V) : Bool := cmpV (can x) (can y) == .eq
theorem sm_iff {x y : V} : sm x y = true ↔ cmpV (can x) (can y) = .eq := by unfold sm; simp
/-- A list without repeats that lies in one that is no longer has all of it. -/
theorem nodup_all : ∀ {a b : List Bs}, a.Nodup → (∀ x ∈ a, x ∈ b) → b.length ≤ a.length → ∀ x ∈ b, x ∈ a
  | [], b, _, _, hl, x, hx => by
    have : b = [] := List.eq_nil_of_length_eq_zero (by simpa using hl)
    rw [this] at hx; cases hx
  | c :: a, b, hd, hs, hl, x, hx => by
    have hc := hs c (List.mem_cons_self ..)
    have hd' := List.pairwise_cons.1 hd
    by_cases e : x = c
    · subst e; exact List.mem_cons_self ..
    · refine List.mem_cons_of_mem _ (nodup_all (b := b.erase c) hd'.2 (fun y hy => ?_) ?_ x ((List.mem_erase_of_ne e).2 hx))
      · exact (List.mem_erase_of_ne (fun e => hd'.1 y hy e.symm)).2 (hs y (List.mem_cons_of_mem _ hy))
      · rw [List.length_erase_of_mem hc]; simp at hl; omega
end Va
end Go.Proofs.YtggeiajbcehkjaaGreatDoor
/- When two values that may be are the same, part by part; a map's entries in order. -/
namespace Go.Proofs.YtggeiajbcehkjaaGreatDoor
open Go.RowKit
namespace Va

/-- The p-th entry of a map, in the order of its keys. -/
theorem can_map {t : Bs} {l : List V} {ks : List Bs} : can (.mk 8 t l ks) = .mk 8 t ((ord ks ks.length).map fun j => (canL l).getD j v0) ((ord ks ks.length).map fun j => ks.getD j []) := by rw [can, if_pos rfl]
theorem can_no {k : Nat} {t : Bs} {l : List V} {ks : List Bs} (h : k ≠ 8) : can (.mk k t l ks) = .mk k t (canL l) ks := by rw [can, if_neg h]
theorem may_parts {k : Nat} {t : Bs} {l : List V} {ks : List Bs} (h : may (.mk k t l ks) = true) : k ≤ 8 ∧ (k = 8 ∨ ks = []) ∧ (k = 8 → ks.length = l.length) ∧ ks.Nodup ∧ (7 ≤ k ∨ l = []) ∧ tx k t ∧ dp (.mk k t l ks) ≤ 256 := by
  unfold may at h
  rw [Bool.and_eq_true] at h
  have h1 := of_decide_eq_true h.1
  have h2 := h.2
  rw [pl, Bool.and_eq_true] at h2
  have hh := of_decide_eq_true h2.1
  exact ⟨hh.1, hh.2.1, hh.2.2.2.2.1, hh.2.2.2.2.2, by rcases hh.2.2.1 with e | e; exact .inl e; exact .inr (List.eq_nil_of_length_eq_zero e), hh.2.2.2.1, h1⟩
theorem sorted_keys {ks : List Bs} (hd : ks.Nodup) : ((ord ks ks.length).map fun j => ks.getD j []).Pairwise (fun x y => bl x y = true) := by
  rw [List.pairwise_map]; exact ord_up hd (Nat.le_refl _)
theorem sorted_mem {ks : List Bs} {s : Bs} : (s ∈ (ord ks ks.length).map fun j => ks.getD j []) ↔ s ∈ ks := by
  rw [List.mem_map]
  constructor
  · rintro ⟨j, hj, rfl⟩
    have hj := ord_mem.1 hj
    rw [List.getD_eq_getElem?_getD, List.getElem?_eq_getElem hj]
    exact List.getElem_mem hj
  · intro h
    obtain ⟨j, hj, rfl⟩ := List.getElem_of_mem h
    exact ⟨j, ord_mem.2 hj, by rw [List.getD_eq_getElem?_getD, List.getElem?_eq_getElem hj]; rfl⟩
theorem can_at {l : List V} {j : Nat} {x : V} (h : l[j]? = some x) : (canL l).getD j v0 = can x := by rw [List.getD_eq_getElem?_getD, canL_some h]; rfl
end Va
end Go.Proofs.YtggeiajbcehkjaaGreatDoor
/- A value's text, as lists: how long it is; it hangs on the value with its keys in order alone. -/
namespace Go.Proofs.YtggeiajbcehkjaaGreatDoor
open Go.RowKit
namespace Va

theorem kw_app (a b : List Bs) : kw (a ++ b) = kw a + kw b := by
  induction a with
  | nil => simp [kw]
  | cons t r ih => rw [List.cons_append, kw, kw, ih]; omega
theorem may_pl {x : V} (h : may x = true) : pl x = true := by unfold may at h; rw [Bool.and_eq_true] at h; exact h.2
theorem may_dp {x : V} (h : may x = true) : dp x ≤ 256 := by unfold may at h; rw [Bool.and_eq_true] at h; exact of_decide_eq_true h.1
end Va
end Go.Proofs.YtggeiajbcehkjaaGreatDoor
/- Regions that draw, and whose callees make memory alone. -/
namespace Go.Proofs.YtggeiajbcehkjaaGreatDoor
open Go.RowKit
namespace Va

section
variable {P : Program} {ops : Array Oper} {C : World → Prop}
/-- A region that draws its order: one walk, in the order of the text, over worlds of a class of one's own. -/
theorem reg_lit {id : Nat} {Q : Exit → Act → World → Prop} {a : Act} {w : World} {l : List Oper} (hm : P.follows .mixedOrders = true) (hB : Region.lexB .any l.toArray = true) (hC : C w.drew)
    (h : wpQuiet P l.toArray C (fun a' => ∀ w', C w' → Q .normal a' w') l a) : (Code.region id l.toArray true).wp P Q a w := wp_region_quiet hm hB hC (by simpa using h)
end
/-- The worlds in which nothing that was there has turned. -/
structure Kept (w : World) where
  wx : World
  held : Below w.heap.size w wx
instance (w : World) : Nonempty (Kept w) := ⟨⟨w, Below.refl _ _⟩⟩
theorem Kept.out {w : World} {v : Value} {s : Kept w} {w' : World} (h : Below s.wx.heap.size s.wx w') : Ending.returned v = Ending.returned v ∧ ∃ t : Kept w, w' = t.wx := ⟨rfl, ⟨w', below_tr s.held h⟩, rfl⟩
theorem Kept.cell {w : World} (s : Kept w) {p : Addr} {v : Value} (h : w.cell? p = some v) : s.wx.cell? p = some v := (s.held.cell (World.block_lt_of_cell? w p h)).trans h
end Va
end Go.Proofs.YtggeiajbcehkjaaGreatDoor
/- The document's: the places of a map's entries, in the order of their keys. -/
namespace Go.Proofs.YtggeiajbcehkjaaGreatDoor
open Go.RowKit
namespace Va

/-- Numbers in a row of one's own. -/
def IV (l : List Nat) : List Value := l.map fun j => .int .i64 (j : Nat)
theorem IV_get (l : List Nat) (p : Nat) : (IV l)[p]? = (l[p]?).map fun j => .int .i64 (j : Nat) := List.getElem?_map
def OI (wr : World) (base : Nat) (v : Value) (l : List Nat) : Prop := wr.ownsRow base 3 1 v l.length (IV l)
theorem OI.row {wr : World} {base : Nat} {v : Value} {l : List Nat} (h : OI wr base v l) (h0 : 0 < l.length) :
    ∃ g c cur, v = .slice (some ⟨g, 0, none⟩) l.length c ∧ base ≤ g ∧ g < wr.heap.size ∧ wr.heap[g]? = some (.cells cur 3 (0, 0)) ∧ l.length ≤ c ∧ c ≤ maxLen ∧ cur.size = c ∧ cur.toList.take l.length = IV l ∧ ∀ p j, l[p]? = some j → wr.cell? ⟨g, p, none⟩ = some (.int .i64 (j : Nat)) := by
  rcases h.2 with ⟨_, e⟩ | ⟨g, c, cur, rfl, hb, hg, h1, h2, h3, h4⟩
  · omega
  · rw [Nat.mul_one] at h3 h4
    refine ⟨g, c, cur, rfl, hb, (Array.getElem?_eq_some_iff.1 hg).1, hg, h1, h2, h3, h4, fun p j hp => ?_⟩
    have hpl := (List.getElem?_eq_some_iff.1 hp).1
    have e : (IV l)[p]? = some (.int .i64 (j : Nat)) := by rw [IV_get, hp]; rfl
    rw [← h4, List.getElem?_take, if_pos hpl] at e
    simp only [World.cell?, hg]
    rw [← Array.getElem?_toList]; exact e
theorem OI.on {w w' : World} {base : Nat} {v : Value} {l : List Nat} (h : OI w base v l) (hb : Below w.heap.size w w') : OI w' base v l := by
  refine ⟨h.1, ?_⟩
  rcases h.2 with e | ⟨g, c, cur, e, h1, hg, h2⟩
  · exact .inl e
  · exact .inr ⟨g, c, cur, e, h1, by rw [hb.block g (Array.getElem?_eq_some_iff.1 hg).1]; exact hg, h2⟩
theorem OI.low {w : World} {base base' : Nat} {v : Value} {l : List Nat} (h : OI w base v l) (hb : base' ≤ base) : OI w base' v l := by
  refine ⟨h.1, ?_⟩
  rcases h.2 with e | ⟨g, c, cur, e, h1, hg, h2⟩
  · exact .inl e
  · exact .inr ⟨g, c, cur, e, by omega, hg, h2⟩
theorem OI.nil (w : World) (base : Nat) : OI w base (.slice none 0 0) [] := World.ownsRow_nil _ _ _ 1
theorem OI.len {w : World} {base : Nat} {v : Value} {l : List Nat} (h : OI w base v l) : ∃ A c, v = .slice A l.length c ∧ l.length ≤ c := by
  rcases h.2 with ⟨e, h0⟩ | ⟨g, c, cur, e, _, _, h1, _⟩
  · exact ⟨none, 0, by rw [e, h0], by omega⟩
  · exact ⟨_, c, e, h1⟩
end Va
end Go.Proofs.YtggeiajbcehkjaaGreatDoor
/- The law's own: a value whose maps' keys stand in another order; rows of values of one's own. -/
namespace Go.Proofs.YtggeiajbcehkjaaGreatDoor
open Go.RowKit
namespace Va

/-- A row of values of one's own: its cells, four a value; what the values lie in is fit. -/
structure OV (w : World) (base : Nat) (ok : Nat → Prop) (v : Value) (l : List V) : Prop where
  own : ∃ xs, w.ownsRow base 33 4 v l.length xs ∧ ∀ (i : Nat) (x : V), l[i]? = some x → ∃ a b c d, xs[i * 4]? = some a ∧ xs[i * 4 + 1]? = some b ∧ xs[i * 4 + 2]? = some c ∧ xs[i * 4 + 3]? = some d ∧ Vk w ok (.agg #[a, b, c, d]) x
/-- A row of texts of one's own. -/
def OT (w : World) (base : Nat) (v : Value) (l : List Bs) : Prop := w.ownsRow base 9 1 v l.length (l.map fun t => .string (txt t))
theorem own_on {w w' : World} {base : Nat} {e : TypeId} {s : Nat} {v : Value} {n : Nat} {xs : List Value} (h : w.ownsRow base e s v n xs) (hb : ∀ k, v.ownBlock = some k → w'.heap[k]? = w.heap[k]?) : w'.ownsRow base e s v n xs := by
  refine ⟨h.1, ?_⟩
  rcases h.2 with e | ⟨g, c, cur, rfl, h1, hg, h2⟩
  · exact .inl e
  · exact .inr ⟨g, c, cur, rfl, h1, by rw [hb g rfl]; exact hg, h2⟩
theorem own_shape {w : World} {base : Nat} {e : TypeId} {s : Nat} {v : Value} {n : Nat} {xs : List Value} (h : w.ownsRow base e s v n xs) : ∃ A c, v = .slice A n c ∧ n ≤ c ∧ c ≤ maxLen ∧ (A = none → c = 0) := by
  rcases h.2 with ⟨e, h0⟩ | ⟨g, c, cur, e, _, _, h1, h2, _⟩
  · exact ⟨none, 0, by rw [e, h0], by omega, Nat.zero_le _, fun _ => rfl⟩
  · exact ⟨_, c, e, h1, h2, fun h => by cases h⟩
theorem own_cells {w : World} {base : Nat} {e : TypeId} {s : Nat} {A : Option Addr} {c n : Nat} {xs : List Value} (h : w.ownsRow base e s (.slice A n c) n xs) (h0 : 0 < n) : ∃ g, A = some ⟨g, 0, none⟩ ∧ base ≤ g ∧ g < w.heap.size ∧ ∀ (i : Nat) (x : Value), xs[i]? = some x → w.cell? ⟨g, i, none⟩ = some x := by
  rcases h.2 with ⟨_, e⟩ | ⟨g, c', cur, e, hb, hg, h1, h2, h3, h4⟩
  · omega
  · injection e with e1 _ _
    refine ⟨g, e1, hb, (Array.getElem?_eq_some_iff.1 hg).1, fun i x hx => ?_⟩
    have hi := (List.getElem?_eq_some_iff.1 hx).1
    rw [h.1] at hi
    rw [← h4, List.getElem?_take, if_pos hi] at hx
    simp only [World.cell?, hg]
    rw [← Array.getElem?_toList]; exact hx
theorem OV.nil (w : World) (base : Nat) (ok : Nat → Prop) : OV w base ok (.slice none 0 0) [] := ⟨[], World.ownsRow_nil _ _ _ 4, fun i x h => by simp at h⟩
theorem OT.nil (w : World) (base : Nat) : OT w base (.slice none 0 0) [] := World.ownsRow_nil _ _ _ 1
theorem OV.keep {w w' : World} {base : Nat} {ok : Nat → Prop} {v : Value} {l : List V} (h : OV w base ok v l) (ho : ∀ k, v.ownBlock = some k → w'.heap[k]? = w.heap[k]?) (hb : ∀ g, ok g → g < w.heap.size → w'.heap[g]? = w.heap[g]?) (hs : w.heap.size ≤ w'.heap.size) : OV w' base ok v l := by
  obtain ⟨xs, h1, h2⟩ := h.own
  refine ⟨xs, own_on h1 ho, fun i x hx => ?_⟩
  obtain ⟨a, b, c, d, e0, e1, e2, e3, hv⟩ := h2 i x hx
  exact ⟨a, b, c, d, e0, e1, e2, e3, hv.keep hb hs⟩
theorem OV.to {w : World} {base : Nat} {ok ok' : Nat → Prop} {v : Value} {l : List V} (h : OV w base ok v l) (hi : ∀ g, g < w.heap.size → ok g → ok' g) : OV w base ok' v l := by
  obtain ⟨xs, h1, h2⟩ := h.own
  refine ⟨xs, h1, fun i x hx => ?_⟩
  obtain ⟨a, b, c, d, e0, e1, e2, e3, hv⟩ := h2 i x hx
  exact ⟨a, b, c, d, e0, e1, e2, e3, hv.to hi⟩
/-- One value more. -/
theorem OV.more {w' : World} {base n : Nat} {ok : Nat → Prop} {v' : Value} {l : List V} {xs : List Value} {a b c d : Value} {x : V} (hn : n = l.length) (hl : xs.length = n * 4)
    (he : ∀ (i : Nat) (x : V), l[i]? = some x → ∃ a b c d, xs[i * 4]? = some a ∧ xs[i * 4 + 1]? = some b ∧ xs[i * 4 + 2]? = some c ∧ xs[i * 4 + 3]? = some d ∧ Vk w' ok (.agg #[a, b, c, d]) x) (ho : w'.ownsRow base 33 4 v' (n + 1) (xs ++ [a, b, c, d])) (hv : Vk w' ok (.agg #[a, b, c, d]) x) : OV w' base ok v' (l ++ [x]) := by
  subst hn
  refine ⟨xs ++ [a, b, c, d], by rw [List.length_append]; exact ho, fun i y hy => ?_⟩
  rcases Nat.lt_or_ge i l.length with h | h
  · rw [List.getElem?_append_left h] at hy
    obtain ⟨p, q, r, s, h0, h1, h2, h3, hm⟩ := he i y hy
    exact ⟨p, q, r, s, by rw [List.getElem?_append_left (by omega)]; exact h0, by rw [List.getElem?_append_left (by omega)]; exact h1, by rw [List.getElem?_append_left (by omega)]; exact h2, by rw [List.getElem?_append_left (by omega)]; exact h3, hm⟩
  · have hi : i = l.length := by
      have := (List.getElem?_eq_some_iff.1 hy).1
      simp at this; omega
    subst hi
    rw [List.getElem?_append_right (by omega), Nat.sub_self] at hy
    obtain rfl : x = y := by simpa using hy
    exact ⟨a, b, c, d, by rw [List.getElem?_append_right (by omega), hl, Nat.sub_self]; rfl, by rw [List.getElem?_append_right (by omega), hl, Nat.add_sub_cancel_left]; rfl, by rw [List.getElem?_append_right (by omega), hl, Nat.add_sub_cancel_left]; rfl, by rw [List.getElem?_append_right (by omega), hl, Nat.add_sub_cancel_left]; rfl, hv⟩
/-- A copy of a value, midway: what it is copied from in a block, the copy in another one, its rows. -/
structure TU (w wx : World) (h k : Nat) (T : ByteArray) (cv dv lv kv : Value) (ok : Nat → Prop) (L : List V) (K : List Bs) : Prop where
  below : Below w.heap.size w wx
  hh : h = w.heap.size
  sz : h + 3 ≤ wx.heap.size
  b1 : wx.heap[h]? = some (vO (.int .u8 k) (.string T) cv dv)
  b4 : wx.heap[h + 1]? = some (vO (.int .u8 0) (.string ⟨#[]⟩) (.slice none 0 0) (.slice none 0 0))
  b5 : wx.heap[h + 1 + 1]? = some (vO (.int .u8 k) (.string T) lv kv)
  ol : OV wx (h + 3) ok lv L
  ot : OT wx (h + 3) kv K
  okb : ∀ g, ok g → h + 3 ≤ g ∧ g < wx.heap.size ∧ lv.ownBlock ≠ some g ∧ kv.ownBlock ≠ some g
  ap : ∀ g, lv.ownBlock = some g → kv.ownBlock ≠ some g
section
variable {w wx wy : World} {h k : Nat} {T : ByteArray} {cv dv lv kv : Value} {ok : Nat → Prop} {L : List V} {K : List Bs}
theorem TU.lvb (H : TU w wx h k T cv dv lv kv ok L K) : ∀ g, lv.ownBlock = some g → h + 3 ≤ g ∧ g < wx.heap.size := fun g hg => by obtain ⟨xs, ho, _⟩ := H.ol.own; exact ho.lt g hg
theorem TU.kvb (H : TU w wx h k T cv dv lv kv ok L K) : ∀ g, kv.ownBlock = some g → h + 3 ≤ g ∧ g < wx.heap.size := fun g hg => World.ownsRow.lt H.ot g hg
theorem TU.call (H : TU w wx h k T cv dv lv kv ok L K) (hb : Below wx.heap.size wx wy) : TU w wy h k T cv dv lv kv ok L K where
  below := below_tr H.below hb
  hh := H.hh
  sz := Nat.le_trans H.sz hb.size
  b1 := by rw [hb.block _ (by have := H.sz; omega)]; exact H.b1
  b4 := by rw [hb.block _ (by have := H.sz; omega)]; exact H.b4
  b5 := by rw [hb.block _ (by have := H.sz; omega)]; exact H.b5
  ol := H.ol.keep (fun g hg => hb.block g (H.lvb g hg).2) (fun g _ hg => hb.block g hg) hb.size
  ot := own_on H.ot fun g hg => hb.block g (H.kvb g hg).2
  okb := fun g hg => by obtain ⟨a, b, c, d⟩ := H.okb g hg; exact ⟨a, Nat.lt_of_lt_of_le b hb.size, c, d⟩
  ap := H.ap
/-- More blocks are fit. -/
theorem TU.more (H : TU w wx h k T cv dv lv kv ok L K) {ok' : Nat → Prop} (h1 : ∀ g, ok g → ok' g) (h2 : ∀ g, ok' g → h + 3 ≤ g ∧ g < wx.heap.size ∧ lv.ownBlock ≠ some g ∧ kv.ownBlock ≠ some g) : TU w wx h k T cv dv lv kv ok' L K :=
  { H with ol := H.ol.to fun g _ => h1 g, okb := h2 }
/-- A key more. -/
theorem TU.key (H : TU w wx h k T cv dv lv kv ok L K) {o : Obj} {w2 : World} {kv2 : Value} {s : Bs} {n : Nat} (hn : n = K.length) (own2 : w2.ownsRow (h + 3) 9 1 kv2 (n + 1) ((K.map fun t => .string (txt t)) ++ [.string (txt s)])) (hg2 : (wx.alloc o).grownBy w2 kv.ownBlock) (hb2 : kv2.ownBlock = kv.ownBlock ∨ kv2.ownBlock = some (wx.alloc o).heap.size) :
    TU w (w2.setCell ⟨h + 1 + 1, 3, none⟩ kv2) h k T cv dv lv kv2 ok L (K ++ [s]) := by
  subst hn
  have hs0 : (wx.alloc o).heap.size = wx.heap.size + 1 := by show (wx.heap.push o).size = _; rw [Array.size_push]
  have old : ∀ g, g < wx.heap.size → kv.ownBlock ≠ some g → w2.heap[g]? = wx.heap[g]? := fun g hg hk => by
    rw [hg2.block g (by omega) (fun e => hk e.symm)]
    show (wx.heap.push o)[g]? = _
    rw [Array.getElem?_push_lt hg, Array.getElem?_eq_getElem hg]
  have hsz := H.sz
  have hkv : ∀ g, kv.ownBlock = some g → h + 3 ≤ g ∧ g < wx.heap.size := H.kvb
  have lo : ∀ g, g < h + 3 → kv.ownBlock ≠ some g := fun g hg e => by have := (hkv g e).1; omega
  have hsz2 : wx.heap.size ≤ w2.heap.size := by have := hg2.size; omega
  have k2 : ∀ g, kv2.ownBlock = some g → h + 3 ≤ g := fun g hg => (own2.lt g hg).1
  have b5 : w2.heap[h + 1 + 1]? = some (vO (.int .u8 k) (.string T) lv kv) := by rw [old _ (by omega) (lo _ (by omega))]; exact H.b5
  have oth : ∀ g, g ≠ h + 1 + 1 → (w2.setCell ⟨h + 1 + 1, 3, none⟩ kv2).heap[g]? = w2.heap[g]? := fun g hg => Go.RowKit.Below.heap_setCell _ _ _ _ hg
  have ssz : (w2.setCell ⟨h + 1 + 1, 3, none⟩ kv2).heap.size = w2.heap.size := by simp
  refine ⟨?_, H.hh, by rw [ssz]; omega, by rw [oth _ (by omega), old _ (by omega) (lo _ (by omega))]; exact H.b1, by rw [oth _ (by omega), old _ (by omega) (lo _ (by omega))]; exact H.b4, ?_, ?_, ?_, ?_, ?_⟩
  · refine Below.setCell (Below.grown (H.below.alloc (by have := H.hh; omega) o) hg2 (by have := H.hh; omega) fun g hg => by have := (hkv g hg).1; have := H.hh; omega) (by show w.heap.size ≤ h + 1 + 1; have := H.hh; omega) _
  · exact Go.heap_setCell_same w2 (h + 1 + 1) 3 _ _ kv2 b5
  · refine H.ol.keep (fun g hg => ?_) (fun g hg hlt => ?_) (by rw [ssz]; omega)
    · have := H.lvb g hg
      rw [oth g (by omega), old g this.2 (H.ap g hg)]
    · have := H.okb g hg
      rw [oth g (by omega), old g hlt this.2.2.2]
  · have : (w2.setCell ⟨h + 1 + 1, 3, none⟩ kv2).ownsRow (h + 3) 9 1 kv2 (K.length + 1) ((K.map fun t => .string (txt t)) ++ [.string (txt s)]) := own_on own2 fun g hg => oth g (by have := k2 g hg; omega)
    unfold OT
    rw [List.length_append, List.map_append]; exact this
  · intro g hg
    obtain ⟨a, b, c, d⟩ := H.okb g hg
    refine ⟨a, by rw [ssz]; omega, c, ?_⟩
    rcases hb2 with e | e
    · rw [e]; exact d
    · rw [e]; intro e2; injection e2 with e2; omega
  · intro g hg
    have := H.lvb g hg
    rcases hb2 with e | e
    · rw [e]; exact H.ap g hg
    · rw [e]; intro e2; injection e2 with e2; omega
/-- A value more. -/
theorem TU.val (H : TU w wx h k T cv dv lv kv ok L K) {o : Obj} {w2 : World} {lv2 a b c d : Value} {x : V} {n : Nat} {xs : List Value} (hn : n = L.length) (hx : wx.ownsRow (h + 3) 33 4 lv n xs)
    (he : ∀ (i : Nat) (x : V), L[i]? = some x → ∃ a b c d, xs[i * 4]? = some a ∧ xs[i * 4 + 1]? = some b ∧ xs[i * 4 + 2]? = some c ∧ xs[i * 4 + 3]? = some d ∧ Vk wx ok (.agg #[a, b, c, d]) x)
    (own2 : w2.ownsRow (h + 3) 33 4 lv2 (n + 1) (xs ++ [a, b, c, d])) (hv : Vk wx ok (.agg #[a, b, c, d]) x) (hg2 : (wx.alloc o).grownBy w2 lv.ownBlock) (hb2 : lv2.ownBlock = lv.ownBlock ∨ lv2.ownBlock = some (wx.alloc o).heap.size) :
    TU w (w2.setCell ⟨h + 1 + 1, 2, none⟩ lv2) h k T cv dv lv2 kv ok (L ++ [x]) K := by
  have hs0 : (wx.alloc o).heap.size = wx.heap.size + 1 := by show (wx.heap.push o).size = _; rw [Array.size_push]
  have old : ∀ g, g < wx.heap.size → lv.ownBlock ≠ some g → w2.heap[g]? = wx.heap[g]? := fun g hg hk => by
    rw [hg2.block g (by omega) (fun e => hk e.symm)]
    show (wx.heap.push o)[g]? = _
    rw [Array.getElem?_push_lt hg, Array.getElem?_eq_getElem hg]
  have hsz := H.sz
  have hlv : ∀ g, lv.ownBlock = some g → h + 3 ≤ g ∧ g < wx.heap.size := H.lvb
  have lo : ∀ g, g < h + 3 → lv.ownBlock ≠ some g := fun g hg e => by have := (hlv g e).1; omega
  have hsz2 : wx.heap.size ≤ w2.heap.size := by have := hg2.size; omega
  have k2 : ∀ g, lv2.ownBlock = some g → h + 3 ≤ g := fun g hg => (own2.lt g hg).1
  have b5 : w2.heap[h + 1 + 1]? = some (vO (.int .u8 k) (.string T) lv kv) := by rw [old _ (by omega) (lo _ (by omega))]; exact H.b5
  have oth : ∀ g, g ≠ h + 1 + 1 → (w2.setCell ⟨h + 1 + 1, 2, none⟩ lv2).heap[g]? = w2.heap[g]? := fun g hg => Go.RowKit.Below.heap_setCell _ _ _ _ hg
  have ssz : (w2.setCell ⟨h + 1 + 1, 2, none⟩ lv2).heap.size = w2.heap.size := by simp
  have kp : ∀ g, ok g → g < wx.heap.size → (w2.setCell ⟨h + 1 + 1, 2, none⟩ lv2).heap[g]? = wx.heap[g]? := fun g hg hlt => by
    have := H.okb g hg
    rw [oth g (by omega), old g hlt this.2.2.1]
  refine ⟨?_, H.hh, by rw [ssz]; omega, by rw [oth _ (by omega), old _ (by omega) (lo _ (by omega))]; exact H.b1, by rw [oth _ (by omega), old _ (by omega) (lo _ (by omega))]; exact H.b4, ?_, ?_, ?_, ?_, ?_⟩
  · refine Below.setCell (Below.grown (H.below.alloc (by have := H.hh; omega) o) hg2 (by have := H.hh; omega) fun g hg => by have := (hlv g hg).1; have := H.hh; omega) (by show w.heap.size ≤ h + 1 + 1; have := H.hh; omega) _
  · exact Go.heap_setCell_same w2 (h + 1 + 1) 2 _ _ lv2 b5
  · refine OV.more hn hx.1 (fun i y hy => ?_) (own_on own2 fun g hg => oth g (by have := k2 g hg; omega)) (hv.keep kp (by rw [ssz]; omega))
    obtain ⟨p, q, r, s, h0, h1, h2, h3, hm⟩ := he i y hy
    exact ⟨p, q, r, s, h0, h1, h2, h3, hm.keep kp (by rw [ssz]; omega)⟩
  · exact own_on H.ot fun g hg => by
      have := H.kvb g hg
      rw [oth g (by omega), old g this.2 (fun e => H.ap g e hg)]
  · intro g hg
    obtain ⟨a, b, c, d⟩ := H.okb g hg
    refine ⟨a, by rw [ssz]; omega, ?_, d⟩
    rcases hb2 with e | e
    · rw [e]; exact c
    · rw [e]; intro e2; injection e2 with e2; omega
  · intro g hg hk
    have := H.kvb g hk
    rcases hb2 with e | e
    · exact H.ap g (e ▸ hg) hk
    · rw [e] at hg; injection hg with e2; omega
end
end Va
end Go.Proofs.YtggeiajbcehkjaaGreatDoor
/- The document's: is a value as its kind asks? -/
namespace Go.Proofs.YtggeiajbcehkjaaGreatDoor
open Go.RowKit
namespace Va

theorem nonempty {t : Bs} {T : ByteArray} (hT : T = txt t) (h : t ≠ []) : (T.toList == []) = false ∧ (T.toList != []) = true ∧ T.toList.isEmpty = false := by
  subst hT
  rw [Lib.toList_data]
  have e : (txt t).data.toList = t := by simp [txt]
  rw [e]
  refine ⟨beq_eq_false_iff_ne.2 h, bne_iff_ne.2 h, ?_⟩
  cases t with
  | nil => exact absurd rfl h
  | cons => rfl
theorem unlike {t u : Bs} {T : ByteArray} (hT : T = txt t) (h : ¬ t = u) : (T.toList == u) = false ∧ (T.toList != u) = true := by
  subst hT
  rw [Lib.toList_data]
  have e : (txt t).data.toList = t := by simp [txt]
  rw [e]
  exact ⟨beq_eq_false_iff_ne.2 h, bne_iff_ne.2 h⟩
end Va
end Go.Proofs.YtggeiajbcehkjaaGreatDoor
/- The document's: are two values the same; how deep, how big. -/
namespace Go.Proofs.YtggeiajbcehkjaaGreatDoor
open Go.RowKit
namespace Va

mutual
def sz : V → Nat
  | .mk _ _ l _ => 1 + szL l
def szL : List V → Nat
  | [] => 0
  | x :: r => sz x + szL r
end
mutual
theorem sz_le : ∀ x : V, sz x ≤ wt x
  | .mk k t l ks => by have := szL_le l; rw [sz, wt]; omega
theorem szL_le : ∀ l : List V, szL l ≤ wtL l
  | [] => Nat.le_refl _
  | x :: r => by have := sz_le x; have := szL_le r; rw [szL, wtL]; omega
end
theorem szL_drop {l : List V} {i : Nat} {x : V} (h : l[i]? = some x) : szL (l.drop i) = sz x + szL (l.drop (i + 1)) := by
  have hl := (List.getElem?_eq_some_iff.1 h).1
  have e : l[i] = x := (List.getElem?_eq_some_iff.1 h).2
  rw [List.drop_eq_getElem_cons hl, szL, e]
end Va
end Go.Proofs.YtggeiajbcehkjaaGreatDoor
/- A value whose maps' keys stand in another order is the same; one with another node is not (lists alone). -/
namespace Go.Proofs.YtggeiajbcehkjaaGreatDoor
open Go.RowKit
namespace Va

theorem nodup_allN : ∀ {a b : List Nat}, a.Nodup → (∀ x ∈ a, x ∈ b) → b.length ≤ a.length → ∀ x ∈ b, x ∈ a
  | [], b, _, _, hl, x, hx => by
    have : b = [] := List.eq_nil_of_length_eq_zero (by simpa using hl)
    rw [this] at hx; cases hx
  | c :: a, b, hd, hs, hl, x, hx => by
    have hc := hs c (List.mem_cons_self ..)
    have hd' := List.pairwise_cons.1 hd
    by_cases e : x = c
    · subst e; exact List.mem_cons_self ..
    · refine List.mem_cons_of_mem _ (nodup_allN (b := b.erase c) hd'.2 (fun y hy => ?_) ?_ x ((List.mem_erase_of_ne e).2 hx))
      · exact (List.mem_erase_of_ne (fun e => hd'.1 y hy e.symm)).2 (hs y (List.mem_cons_of_mem _ hy))
      · rw [List.length_erase_of_mem hc]; simp at hl; omega
theorem nodup_perm {a b : List Nat} (ha : a.Nodup) (hb : b.Nodup) (hs : ∀ x ∈ a, x ∈ b) (hl : b.length ≤ a.length) : a.Perm b := by
  have hs2 := nodup_allN ha hs hl
  rw [List.perm_iff_count]
  intro x
  have h1 := List.nodup_iff_count.1 ha x
  have h2 := List.nodup_iff_count.1 hb x
  have h3 : 0 < a.count x ↔ 0 < b.count x := by rw [List.count_pos_iff, List.count_pos_iff]; exact ⟨hs x, hs2 x⟩
  omega
/-- Another node in the place of the n-th one; else how many are left. -/
inductive Oth (α : Type) where
  | done (x : α)
  | left (n : Nat)
mutual
def oth : V → Nat → Oth V
  | .mk k t _ _, 0 => .done (.mk 3 (if k = 3 then t ++ [120] else [120]) [] [])
  | .mk k t l ks, n + 1 => match othL l n with
    | .done l' => .done (.mk k t l' ks)
    | .left m => .left m
def othL : List V → Nat → Oth (List V)
  | [], n => .left n
  | x :: r, n => match oth x n with
    | .done y => .done (y :: r)
    | .left m => match othL r m with
      | .done r' => .done (x :: r')
      | .left p => .left p
end
/-- The same is the same both ways, and on. -/
theorem sm_self {x : V} : sm x x = true := sm_iff.2 (cmpV_self _)
end Va
end Go.Proofs.YtggeiajbcehkjaaGreatDoor
/- The order of values, entry by entry. -/
namespace Go.Proofs.YtggeiajbcehkjaaGreatDoor
open Go.RowKit
namespace Va

section
variable {P P' : List V} {K K' : List Bs} {i : Nat} {C : Ordering} {px py : V}
end
/-- Does one value stand ahead of another one? -/
def lt (x y : V) : Bool := cmpV (can x) (can y) == .lt
end Va
end Go.Proofs.YtggeiajbcehkjaaGreatDoor
/- The law's own Turned, walked. -/
namespace Go.Proofs.YtggeiajbcehkjaaGreatDoor
open Go.RowKit
namespace Va

theorem Vk.shape {w : World} {ok : Nat → Prop} {u : Value} {x : V} (h : Vk w ok u x) : ∃ (k : Nat) (t : ByteArray) (A B : Option Addr) (n c m d : Nat), u = .agg #[.int .u8 k, .string t, .slice A n c, .slice B m d] := by
  cases h with
  | mk k t l ks A B c d f => exact ⟨k, _, A, B, _, _, _, _, rfl⟩
end Va
end Go.Proofs.YtggeiajbcehkjaaGreatDoor
