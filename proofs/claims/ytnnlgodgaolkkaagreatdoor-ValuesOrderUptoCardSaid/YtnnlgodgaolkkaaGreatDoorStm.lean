/- The law's own: a value whose maps' keys stand in another order; rows of values of one's own. -/
import Derived.Test.YtnnlgodgaolkkaaGreatDoorHe
import Derived.Test.YtnnlgodgaolkkaaGreatDoorHb
namespace Go.Proofs.YtnnlgodgaolkkaaGreatDoor
open Go.RowKit
namespace Va

def tix (n b i : Nat) : Nat := if b % 2 = 0 then n - 1 - i else (i + b / 2) % n
mutual
def trn (b : Nat) : V → V
  | .mk k t l ks => if k = 8 then .mk 8 t ((List.range l.length).map fun i => (trnL b l).getD (tix l.length b i) (.mk 0 [] [] [])) ((List.range l.length).map fun i => ks.getD (tix l.length b i) []) else .mk k t (trnL b l) ks
def trnL (b : Nat) : List V → List V
  | [] => []
  | x :: r => trn b x :: trnL b r
end
theorem trnL_get (b : Nat) : ∀ (l : List V) (i : Nat), (trnL b l)[i]? = (l[i]?).map (trn b)
  | [], _ => by rw [trnL]; simp
  | x :: r, 0 => by rw [trnL]; simp
  | x :: r, i + 1 => by rw [trnL]; simpa using trnL_get b r i
theorem trnL_len (b : Nat) : ∀ l : List V, (trnL b l).length = l.length
  | [] => by rw [trnL]
  | x :: r => by rw [trnL, List.length_cons, trnL_len b r, List.length_cons]
theorem tix_lt {n b i : Nat} (h : i < n) : tix n b i < n := by
  unfold tix
  split
  · omega
  · exact Nat.mod_lt _ (by omega)
/-- A row of values of one's own: its cells, four a value; what the values lie in is fit. -/
structure OV (w : World) (base : Nat) (ok : Nat → Prop) (v : Value) (l : List V) : Prop where
  own : ∃ xs, w.ownsRow base 26 4 v l.length xs ∧ ∀ (i : Nat) (x : V), l[i]? = some x → ∃ a b c d, xs[i * 4]? = some a ∧ xs[i * 4 + 1]? = some b ∧ xs[i * 4 + 2]? = some c ∧ xs[i * 4 + 3]? = some d ∧ Vk w ok (.agg #[a, b, c, d]) x
/-- A row of texts of one's own. -/
def OT (w : World) (base : Nat) (v : Value) (l : List Bs) : Prop := w.ownsRow base 9 1 v l.length (l.map fun t => .string (txt t))
theorem own_on {w w' : World} {base : Nat} {e : TypeId} {s : Nat} {v : Value} {n : Nat} {xs : List Value} (h : w.ownsRow base e s v n xs) (hb : ∀ k, v.ownBlock = some k → w'.heap[k]? = w.heap[k]?) : w'.ownsRow base e s v n xs := by
  refine ⟨h.1, ?_⟩
  rcases h.2 with e | ⟨g, c, cur, rfl, h1, hg, h2⟩
  · exact .inl e
  · exact .inr ⟨g, c, cur, rfl, h1, by rw [hb g rfl]; exact hg, h2⟩
theorem own_shape {w : World} {base : Nat} {e : TypeId} {s : Nat} {v : Value} {n : Nat} {xs : List Value} (h : w.ownsRow base e s v n xs) : ∃ A c, v = .slice A n c ∧ n ≤ c ∧ c ≤ maxLen ∧ (A = none → c = 0) := by
  rcases h.2 with ⟨e, h0⟩ | ⟨g, c, cur, e, _, _, h1, h2, _⟩
  · exact ⟨none, 0, by rw [e, h0], by omega, Nat.zero_le _, fun _ => rfl⟩
  · exact ⟨_, c, e, h1, h2, fun h => by cases h⟩
theorem own_cells {w : World} {base : Nat} {e : TypeId} {s : Nat} {A : Option Addr} {c n : Nat} {xs : List Value} (h : w.ownsRow base e s (.slice A n c) n xs) (h0 : 0 < n) : ∃ g, A = some ⟨g, 0, none⟩ ∧ base ≤ g ∧ g < w.heap.size ∧ ∀ (i : Nat) (x : Value), xs[i]? = some x → w.cell? ⟨g, i, none⟩ = some x := by
  rcases h.2 with ⟨_, e⟩ | ⟨g, c', cur, e, hb, hg, h1, h2, h3, h4⟩
  · omega
  · injection e with e1 _ _
    refine ⟨g, e1, hb, (Array.getElem?_eq_some_iff.1 hg).1, fun i x hx => ?_⟩
    have hi := (List.getElem?_eq_some_iff.1 hx).1
    rw [h.1] at hi
    rw [← h4, List.getElem?_take, if_pos hi] at hx
    simp only [World.cell?, hg]
    rw [← Array.getElem?_toList]; exact hx
/-- A value put together of rows of one's own. -/
theorem OV.value {w : World} {base k : Nat} {ok : Nat → Prop} {t : Bs} {l : List V} {ks : List Bs} {lv kv : Value} (hk : k < 256) (h : OV w base ok lv l) (hK : OT w base kv ks) : Vk w (fun g => ok g ∨ base ≤ g) (.agg #[.int .u8 k, .string (txt t), lv, kv]) (.mk k t l ks) := by
  obtain ⟨xs, ho, hx⟩ := h.own
  obtain ⟨A, c, rfl, hc, hcm, hA⟩ := own_shape ho
  obtain ⟨B, d, rfl, hd, hdm, hB⟩ := own_shape hK
  refine .mk k t l ks A B c d (fun i j => xs.getD (i * 4 + j) (.int .u8 0)) hk hc hcm hA hd hdm hB (fun h0 => ?_) (fun h0 => ?_) (fun h0 g o e => ?_) (fun h0 g o e => ?_) (fun i x hi => ?_)
  · obtain ⟨g, rfl, _, hg, hf⟩ := own_cells hK h0
    exact ⟨g, 0, rfl, hg, fun i s hs => by rw [Nat.zero_add]; exact hf i _ (by rw [List.getElem?_map, hs]; rfl)⟩
  · obtain ⟨g, rfl, _, hg, hf⟩ := own_cells ho h0
    refine ⟨g, 0, rfl, hg, fun i hi j hj => ?_⟩
    rw [Nat.zero_add]
    have hlt : i * 4 + j < xs.length := by rw [ho.1]; omega
    exact hf _ _ (by rw [List.getD_eq_getElem?_getD, List.getElem?_eq_getElem hlt]; rfl)
  · obtain ⟨g', e', hg', _⟩ := own_cells ho h0
    rw [e'] at e; injection e with e; injection e with e1 _ _; subst e1
    exact .inr hg'
  · obtain ⟨g', e', hg', _⟩ := own_cells hK h0
    rw [e'] at e; injection e with e; injection e with e1 _ _; subst e1
    exact .inr hg'
  · obtain ⟨a, b, c, d, h0, h1, h2, h3, hv⟩ := hx i x hi
    have e : ∀ {j : Nat} {y : Value}, xs[i * 4 + j]? = some y → xs.getD (i * 4 + j) (.int .u8 0) = y := fun h => by rw [List.getD_eq_getElem?_getD, h]; rfl
    rw [e (j := 0) h0, e h1, e h2, e h3]; exact hv.to fun g _ h => .inl h
theorem OV.nil (w : World) (base : Nat) (ok : Nat → Prop) : OV w base ok (.slice none 0 0) [] := ⟨[], World.ownsRow_nil _ _ _ 4, fun i x h => by simp at h⟩
theorem OT.nil (w : World) (base : Nat) : OT w base (.slice none 0 0) [] := World.ownsRow_nil _ _ _ 1
theorem OV.keep {w w' : World} {base : Nat} {ok : Nat → Prop} {v : Value} {l : List V} (h : OV w base ok v l) (ho : ∀ k, v.ownBlock = some k → w'.heap[k]? = w.heap[k]?) (hb : ∀ g, ok g → g < w.heap.size → w'.heap[g]? = w.heap[g]?) (hs : w.heap.size ≤ w'.heap.size) : OV w' base ok v l := by
  obtain ⟨xs, h1, h2⟩ := h.own
  refine ⟨xs, own_on h1 ho, fun i x hx => ?_⟩
  obtain ⟨a, b, c, d, e0, e1, e2, e3, hv⟩ := h2 i x hx
  exact ⟨a, b, c, d, e0, e1, e2, e3, hv.keep hb hs⟩
theorem OV.to {w : World} {base : Nat} {ok ok' : Nat → Prop} {v : Value} {l : List V} (h : OV w base ok v l) (hi : ∀ g, g < w.heap.size → ok g → ok' g) : OV w base ok' v l := by
  obtain ⟨xs, h1, h2⟩ := h.own
  refine ⟨xs, h1, fun i x hx => ?_⟩
  obtain ⟨a, b, c, d, e0, e1, e2, e3, hv⟩ := h2 i x hx
  exact ⟨a, b, c, d, e0, e1, e2, e3, hv.to hi⟩
/-- One value more. -/
theorem OV.more {w' : World} {base n : Nat} {ok : Nat → Prop} {v' : Value} {l : List V} {xs : List Value} {a b c d : Value} {x : V} (hn : n = l.length) (hl : xs.length = n * 4)
    (he : ∀ (i : Nat) (x : V), l[i]? = some x → ∃ a b c d, xs[i * 4]? = some a ∧ xs[i * 4 + 1]? = some b ∧ xs[i * 4 + 2]? = some c ∧ xs[i * 4 + 3]? = some d ∧ Vk w' ok (.agg #[a, b, c, d]) x) (ho : w'.ownsRow base 26 4 v' (n + 1) (xs ++ [a, b, c, d])) (hv : Vk w' ok (.agg #[a, b, c, d]) x) : OV w' base ok v' (l ++ [x]) := by
  subst hn
  refine ⟨xs ++ [a, b, c, d], by rw [List.length_append]; exact ho, fun i y hy => ?_⟩
  rcases Nat.lt_or_ge i l.length with h | h
  · rw [List.getElem?_append_left h] at hy
    obtain ⟨p, q, r, s, h0, h1, h2, h3, hm⟩ := he i y hy
    exact ⟨p, q, r, s, by rw [List.getElem?_append_left (by omega)]; exact h0, by rw [List.getElem?_append_left (by omega)]; exact h1, by rw [List.getElem?_append_left (by omega)]; exact h2, by rw [List.getElem?_append_left (by omega)]; exact h3, hm⟩
  · have hi : i = l.length := by
      have := (List.getElem?_eq_some_iff.1 hy).1
      simp at this; omega
    subst hi
    rw [List.getElem?_append_right (by omega), Nat.sub_self] at hy
    obtain rfl : x = y := by simpa using hy
    exact ⟨a, b, c, d, by rw [List.getElem?_append_right (by omega), hl, Nat.sub_self]; rfl, by rw [List.getElem?_append_right (by omega), hl, Nat.add_sub_cancel_left]; rfl, by rw [List.getElem?_append_right (by omega), hl, Nat.add_sub_cancel_left]; rfl, by rw [List.getElem?_append_right (by omega), hl, Nat.add_sub_cancel_left]; rfl, hv⟩
/-- append onto a row of the call's own, which may grow: where it lies. -/
theorem wpAppV {P : Program} (w : World) {ops : Array Oper} {rest : List Oper} {o : Oper} {a : Act} {Q : Exit → Act → World → Prop} (hg : o.guard = none) (s x : Operand) (t : TypeId) (hop : o.op = Op.call { callee := Callee.builtin Builtin.append, args := #[s, x], argTypes := #[t, t] })
    (base : Nat) (e : TypeId) (i : TypeInfo) (z : Value) (size bytes : Nat) (h1 : P.underlying t = some (.slice e)) (h2 : P.info? e = some i) (h3 : i.zero = some z) (h4 : i.size = size) (h5 : i.bytes = bytes) (h6 : z.cells.size = size) (hsz : 0 < size)
    (v : Value) (n : Nat) (xs : List Value) (hs : a.eval s = v) (hown : w.ownsRow base e size v n xs) (ad : Addr) (m c : Nat) (news : List Value) (hx : a.eval x = .slice (some ad) m c) (hl : news.length = m * size) (hnews : ∀ j u, news[j]? = some u → w.cell? (ad.add j) = some u) (hone : ∀ u ∈ news, u.oneCell' = true)
    (h63 : n + m ≤ maxLen) (hbytes : (n + m) * bytes ≤ 140737488355328) (hbase : base ≤ w.heap.size)
    (hK : ∀ v' w', w'.ownsRow base e size v' (n + m) (xs ++ news) → w.grownBy w' v.ownBlock → (v'.ownBlock = v.ownBlock ∨ v'.ownBlock = some w.heap.size) → wpList P ops Q rest (a.put o.dst v') w') : wpList P ops Q (o :: rest) a w := by
  refine wpList_plain hg fun K hK' => ?_
  obtain ⟨v', w', hrun, r1, r2, _, r3⟩ := run_append_own_at (P := P) w base t o.type e i z size bytes h1 h2 h3 h4 h5 h6 hsz v n xs hown ad m c news hl hnews hone h63 hbytes hbase
  unfold Oper.wp
  simp [execOp, hop, resolve, invoke, builtin, hs, hx, hrun, Result.andThen]
  exact hK' _ _ (hK v' w' r1 r2 r3)
/-- A copy of a value, midway: what it is copied from in a block, the copy in another one, its rows. -/
structure TU (w wx : World) (h k : Nat) (T : ByteArray) (cv dv lv kv : Value) (ok : Nat → Prop) (L : List V) (K : List Bs) : Prop where
  below : Below w.heap.size w wx
  hh : h = w.heap.size
  sz : h + 3 ≤ wx.heap.size
  b1 : wx.heap[h]? = some (vO (.int .u8 k) (.string T) cv dv)
  b4 : wx.heap[h + 1]? = some (vO (.int .u8 0) (.string ⟨#[]⟩) (.slice none 0 0) (.slice none 0 0))
  b5 : wx.heap[h + 1 + 1]? = some (vO (.int .u8 k) (.string T) lv kv)
  ol : OV wx (h + 3) ok lv L
  ot : OT wx (h + 3) kv K
  okb : ∀ g, ok g → h + 3 ≤ g ∧ g < wx.heap.size ∧ lv.ownBlock ≠ some g ∧ kv.ownBlock ≠ some g
  ap : ∀ g, lv.ownBlock = some g → kv.ownBlock ≠ some g
section
variable {w wx wy : World} {h k : Nat} {T : ByteArray} {cv dv lv kv : Value} {ok : Nat → Prop} {L : List V} {K : List Bs}
theorem TU.lvb (H : TU w wx h k T cv dv lv kv ok L K) : ∀ g, lv.ownBlock = some g → h + 3 ≤ g ∧ g < wx.heap.size := fun g hg => by obtain ⟨xs, ho, _⟩ := H.ol.own; exact ho.lt g hg
theorem TU.kvb (H : TU w wx h k T cv dv lv kv ok L K) : ∀ g, kv.ownBlock = some g → h + 3 ≤ g ∧ g < wx.heap.size := fun g hg => World.ownsRow.lt H.ot g hg
theorem TU.call (H : TU w wx h k T cv dv lv kv ok L K) (hb : Below wx.heap.size wx wy) : TU w wy h k T cv dv lv kv ok L K where
  below := below_tr H.below hb
  hh := H.hh
  sz := Nat.le_trans H.sz hb.size
  b1 := by rw [hb.block _ (by have := H.sz; omega)]; exact H.b1
  b4 := by rw [hb.block _ (by have := H.sz; omega)]; exact H.b4
  b5 := by rw [hb.block _ (by have := H.sz; omega)]; exact H.b5
  ol := H.ol.keep (fun g hg => hb.block g (H.lvb g hg).2) (fun g _ hg => hb.block g hg) hb.size
  ot := own_on H.ot fun g hg => hb.block g (H.kvb g hg).2
  okb := fun g hg => by obtain ⟨a, b, c, d⟩ := H.okb g hg; exact ⟨a, Nat.lt_of_lt_of_le b hb.size, c, d⟩
  ap := H.ap
/-- More blocks are fit. -/
theorem TU.more (H : TU w wx h k T cv dv lv kv ok L K) {ok' : Nat → Prop} (h1 : ∀ g, ok g → ok' g) (h2 : ∀ g, ok' g → h + 3 ≤ g ∧ g < wx.heap.size ∧ lv.ownBlock ≠ some g ∧ kv.ownBlock ≠ some g) : TU w wx h k T cv dv lv kv ok' L K :=
  { H with ol := H.ol.to fun g _ => h1 g, okb := h2 }
/-- A key more. -/
theorem TU.key (H : TU w wx h k T cv dv lv kv ok L K) {o : Obj} {w2 : World} {kv2 : Value} {s : Bs} {n : Nat} (hn : n = K.length) (own2 : w2.ownsRow (h + 3) 9 1 kv2 (n + 1) ((K.map fun t => .string (txt t)) ++ [.string (txt s)])) (hg2 : (wx.alloc o).grownBy w2 kv.ownBlock) (hb2 : kv2.ownBlock = kv.ownBlock ∨ kv2.ownBlock = some (wx.alloc o).heap.size) :
    TU w (w2.setCell ⟨h + 1 + 1, 3, none⟩ kv2) h k T cv dv lv kv2 ok L (K ++ [s]) := by
  subst hn
  have hs0 : (wx.alloc o).heap.size = wx.heap.size + 1 := by show (wx.heap.push o).size = _; rw [Array.size_push]
  have old : ∀ g, g < wx.heap.size → kv.ownBlock ≠ some g → w2.heap[g]? = wx.heap[g]? := fun g hg hk => by
    rw [hg2.block g (by omega) (fun e => hk e.symm)]
    show (wx.heap.push o)[g]? = _
    rw [Array.getElem?_push_lt hg, Array.getElem?_eq_getElem hg]
  have hsz := H.sz
  have hkv : ∀ g, kv.ownBlock = some g → h + 3 ≤ g ∧ g < wx.heap.size := H.kvb
  have lo : ∀ g, g < h + 3 → kv.ownBlock ≠ some g := fun g hg e => by have := (hkv g e).1; omega
  have hsz2 : wx.heap.size ≤ w2.heap.size := by have := hg2.size; omega
  have k2 : ∀ g, kv2.ownBlock = some g → h + 3 ≤ g := fun g hg => (own2.lt g hg).1
  have b5 : w2.heap[h + 1 + 1]? = some (vO (.int .u8 k) (.string T) lv kv) := by rw [old _ (by omega) (lo _ (by omega))]; exact H.b5
  have oth : ∀ g, g ≠ h + 1 + 1 → (w2.setCell ⟨h + 1 + 1, 3, none⟩ kv2).heap[g]? = w2.heap[g]? := fun g hg => Go.RowKit.Below.heap_setCell _ _ _ _ hg
  have ssz : (w2.setCell ⟨h + 1 + 1, 3, none⟩ kv2).heap.size = w2.heap.size := by simp
  refine ⟨?_, H.hh, by rw [ssz]; omega, by rw [oth _ (by omega), old _ (by omega) (lo _ (by omega))]; exact H.b1, by rw [oth _ (by omega), old _ (by omega) (lo _ (by omega))]; exact H.b4, ?_, ?_, ?_, ?_, ?_⟩
  · refine Below.setCell (Below.grown (H.below.alloc (by have := H.hh; omega) o) hg2 (by have := H.hh; omega) fun g hg => by have := (hkv g hg).1; have := H.hh; omega) (by show w.heap.size ≤ h + 1 + 1; have := H.hh; omega) _
  · exact Go.heap_setCell_same w2 (h + 1 + 1) 3 _ _ kv2 b5
  · refine H.ol.keep (fun g hg => ?_) (fun g hg hlt => ?_) (by rw [ssz]; omega)
    · have := H.lvb g hg
      rw [oth g (by omega), old g this.2 (H.ap g hg)]
    · have := H.okb g hg
      rw [oth g (by omega), old g hlt this.2.2.2]
  · have : (w2.setCell ⟨h + 1 + 1, 3, none⟩ kv2).ownsRow (h + 3) 9 1 kv2 (K.length + 1) ((K.map fun t => .string (txt t)) ++ [.string (txt s)]) := own_on own2 fun g hg => oth g (by have := k2 g hg; omega)
    unfold OT
    rw [List.length_append, List.map_append]; exact this
  · intro g hg
    obtain ⟨a, b, c, d⟩ := H.okb g hg
    refine ⟨a, by rw [ssz]; omega, c, ?_⟩
    rcases hb2 with e | e
    · rw [e]; exact d
    · rw [e]; intro e2; injection e2 with e2; omega
  · intro g hg
    have := H.lvb g hg
    rcases hb2 with e | e
    · rw [e]; exact H.ap g hg
    · rw [e]; intro e2; injection e2 with e2; omega
/-- A value more. -/
theorem TU.val (H : TU w wx h k T cv dv lv kv ok L K) {o : Obj} {w2 : World} {lv2 a b c d : Value} {x : V} {n : Nat} {xs : List Value} (hn : n = L.length) (hx : wx.ownsRow (h + 3) 26 4 lv n xs)
    (he : ∀ (i : Nat) (x : V), L[i]? = some x → ∃ a b c d, xs[i * 4]? = some a ∧ xs[i * 4 + 1]? = some b ∧ xs[i * 4 + 2]? = some c ∧ xs[i * 4 + 3]? = some d ∧ Vk wx ok (.agg #[a, b, c, d]) x)
    (own2 : w2.ownsRow (h + 3) 26 4 lv2 (n + 1) (xs ++ [a, b, c, d])) (hv : Vk wx ok (.agg #[a, b, c, d]) x) (hg2 : (wx.alloc o).grownBy w2 lv.ownBlock) (hb2 : lv2.ownBlock = lv.ownBlock ∨ lv2.ownBlock = some (wx.alloc o).heap.size) :
    TU w (w2.setCell ⟨h + 1 + 1, 2, none⟩ lv2) h k T cv dv lv2 kv ok (L ++ [x]) K := by
  have hs0 : (wx.alloc o).heap.size = wx.heap.size + 1 := by show (wx.heap.push o).size = _; rw [Array.size_push]
  have old : ∀ g, g < wx.heap.size → lv.ownBlock ≠ some g → w2.heap[g]? = wx.heap[g]? := fun g hg hk => by
    rw [hg2.block g (by omega) (fun e => hk e.symm)]
    show (wx.heap.push o)[g]? = _
    rw [Array.getElem?_push_lt hg, Array.getElem?_eq_getElem hg]
  have hsz := H.sz
  have hlv : ∀ g, lv.ownBlock = some g → h + 3 ≤ g ∧ g < wx.heap.size := H.lvb
  have lo : ∀ g, g < h + 3 → lv.ownBlock ≠ some g := fun g hg e => by have := (hlv g e).1; omega
  have hsz2 : wx.heap.size ≤ w2.heap.size := by have := hg2.size; omega
  have k2 : ∀ g, lv2.ownBlock = some g → h + 3 ≤ g := fun g hg => (own2.lt g hg).1
  have b5 : w2.heap[h + 1 + 1]? = some (vO (.int .u8 k) (.string T) lv kv) := by rw [old _ (by omega) (lo _ (by omega))]; exact H.b5
  have oth : ∀ g, g ≠ h + 1 + 1 → (w2.setCell ⟨h + 1 + 1, 2, none⟩ lv2).heap[g]? = w2.heap[g]? := fun g hg => Go.RowKit.Below.heap_setCell _ _ _ _ hg
  have ssz : (w2.setCell ⟨h + 1 + 1, 2, none⟩ lv2).heap.size = w2.heap.size := by simp
  have kp : ∀ g, ok g → g < wx.heap.size → (w2.setCell ⟨h + 1 + 1, 2, none⟩ lv2).heap[g]? = wx.heap[g]? := fun g hg hlt => by
    have := H.okb g hg
    rw [oth g (by omega), old g hlt this.2.2.1]
  refine ⟨?_, H.hh, by rw [ssz]; omega, by rw [oth _ (by omega), old _ (by omega) (lo _ (by omega))]; exact H.b1, by rw [oth _ (by omega), old _ (by omega) (lo _ (by omega))]; exact H.b4, ?_, ?_, ?_, ?_, ?_⟩
  · refine Below.setCell (Below.grown (H.below.alloc (by have := H.hh; omega) o) hg2 (by have := H.hh; omega) fun g hg => by have := (hlv g hg).1; have := H.hh; omega) (by show w.heap.size ≤ h + 1 + 1; have := H.hh; omega) _
  · exact Go.heap_setCell_same w2 (h + 1 + 1) 2 _ _ lv2 b5
  · refine OV.more hn hx.1 (fun i y hy => ?_) (own_on own2 fun g hg => oth g (by have := k2 g hg; omega)) (hv.keep kp (by rw [ssz]; omega))
    obtain ⟨p, q, r, s, h0, h1, h2, h3, hm⟩ := he i y hy
    exact ⟨p, q, r, s, h0, h1, h2, h3, hm.keep kp (by rw [ssz]; omega)⟩
  · exact own_on H.ot fun g hg => by
      have := H.kvb g hg
      rw [oth g (by omega), old g this.2 (fun e => H.ap g e hg)]
  · intro g hg
    obtain ⟨a, b, c, d⟩ := H.okb g hg
    refine ⟨a, by rw [ssz]; omega, ?_, d⟩
    rcases hb2 with e | e
    · rw [e]; exact c
    · rw [e]; intro e2; injection e2 with e2; omega
  · intro g hg hk
    have := H.kvb g hk
    rcases hb2 with e | e
    · exact H.ap g (e ▸ hg) hk
    · rw [e] at hg; injection hg with e2; omega
theorem store_lv (H : TU w wx h k T cv dv lv kv ok L K) {o : Obj} {w2 : World} (hg2 : (wx.alloc o).grownBy w2 lv.ownBlock) : w2.cell? ⟨h + 1 + 1, 2, none⟩ = some lv ∧ w2.frozen? ⟨h + 1 + 1, 2, none⟩ = false := by
  have hs0 : (wx.alloc o).heap.size = wx.heap.size + 1 := by show (wx.heap.push o).size = _; rw [Array.size_push]
  have hsz := H.sz
  have b5 : w2.heap[h + 1 + 1]? = some (vO (.int .u8 k) (.string T) lv kv) := by
    rw [hg2.block _ (by omega) (fun e => by have := H.lvb _ e.symm; omega)]
    show (wx.heap.push o)[h + 1 + 1]? = _
    rw [Array.getElem?_push_lt (by omega), ← Array.getElem?_eq_getElem]
    exact H.b5
  exact ⟨by simp [World.cell?, b5], by simp [World.frozen?, b5]⟩
theorem store_kv (H : TU w wx h k T cv dv lv kv ok L K) {o : Obj} {w2 : World} (hg2 : (wx.alloc o).grownBy w2 kv.ownBlock) : w2.cell? ⟨h + 1 + 1, 3, none⟩ = some kv ∧ w2.frozen? ⟨h + 1 + 1, 3, none⟩ = false := by
  have hs0 : (wx.alloc o).heap.size = wx.heap.size + 1 := by show (wx.heap.push o).size = _; rw [Array.size_push]
  have hsz := H.sz
  have b5 : w2.heap[h + 1 + 1]? = some (vO (.int .u8 k) (.string T) lv kv) := by
    rw [hg2.block _ (by omega) (fun e => by have := H.kvb _ e.symm; omega)]
    show (wx.heap.push o)[h + 1 + 1]? = _
    rw [Array.getElem?_push_lt (by omega), ← Array.getElem?_eq_getElem]
    exact H.b5
  exact ⟨by simp [World.cell?, b5], by simp [World.frozen?, b5]⟩
end
end Va
end Go.Proofs.YtnnlgodgaolkkaaGreatDoor
