/- The law's own: a twin of a value. -/
import Derived.Test.YtnnlgodgaolkkaaDoorHo
import Derived.Test.YtnnlgodgaolkkaaDoorStm
import Derived.Deep.AppendLies
import Derived.Deep.RegionHeldLaw
import Derived.Laws.MakeOwn
namespace Go.Proofs.YtnnlgodgaolkkaaDoor
open Go.RowKit
namespace Va
set_option maxRecDepth 100000

/-- A twin, midway: the value in a block, what is answered in another one, its row of twins. -/
structure TW (w wx : World) (h k : Nat) (T : ByteArray) (cv dv lv : Value) (ok : Nat → Prop) (L : List V) : Prop where
  below : Below w.heap.size w wx
  hh : h = w.heap.size
  sz : h + 2 ≤ wx.heap.size
  b1 : wx.heap[h]? = some (vO (.int .u8 k) (.string T) cv dv)
  b2 : wx.heap[h + 1]? = some (vO (.int .u8 0) (.string ⟨#[]⟩) (.slice none 0 0) (.slice none 0 0))
  ol : ∃ xs, wx.ownsRow (h + 2) 26 4 lv L.length xs ∧ ∀ (i : Nat) (x : V), L[i]? = some x → ∃ a b c d, xs[i * 4]? = some a ∧ xs[i * 4 + 1]? = some b ∧ xs[i * 4 + 2]? = some c ∧ xs[i * 4 + 3]? = some d ∧ Vt wx ok (.agg #[a, b, c, d]) x
  okb : ∀ g, ok g → h + 2 ≤ g ∧ g < wx.heap.size ∧ lv.ownBlock ≠ some g
section
variable {w wx wy : World} {h k : Nat} {T : ByteArray} {cv dv lv : Value} {ok : Nat → Prop} {L : List V}
theorem TW.lvb (H : TW w wx h k T cv dv lv ok L) : ∀ g, lv.ownBlock = some g → h + 2 ≤ g ∧ g < wx.heap.size := fun g hg => by obtain ⟨xs, ho, _⟩ := H.ol; exact ho.lt g hg
theorem TW.call (H : TW w wx h k T cv dv lv ok L) (hb : Below wx.heap.size wx wy) : TW w wy h k T cv dv lv ok L where
  below := below_tr H.below hb
  hh := H.hh
  sz := Nat.le_trans H.sz hb.size
  b1 := by rw [hb.block _ (by have := H.sz; omega)]; exact H.b1
  b2 := by rw [hb.block _ (by have := H.sz; omega)]; exact H.b2
  ol := by
    obtain ⟨xs, h1, h2⟩ := H.ol
    refine ⟨xs, own_on h1 fun g hg => hb.block g (H.lvb g hg).2, fun i x hx => ?_⟩
    obtain ⟨a, b, c, d, e0, e1, e2, e3, hv⟩ := h2 i x hx
    exact ⟨a, b, c, d, e0, e1, e2, e3, hv.on hb⟩
  okb := fun g hg => by obtain ⟨a, b, c⟩ := H.okb g hg; exact ⟨a, Nat.lt_of_lt_of_le b hb.size, c⟩
theorem TW.more (H : TW w wx h k T cv dv lv ok L) {ok' : Nat → Prop} (h1 : ∀ g, ok g → ok' g) (h2 : ∀ g, ok' g → h + 2 ≤ g ∧ g < wx.heap.size ∧ lv.ownBlock ≠ some g) : TW w wx h k T cv dv lv ok' L :=
  { H with
    ol := by
      obtain ⟨xs, o1, o2⟩ := H.ol
      refine ⟨xs, o1, fun i x hx => ?_⟩
      obtain ⟨a, b, c, d, e0, e1, e2, e3, hv⟩ := o2 i x hx
      exact ⟨a, b, c, d, e0, e1, e2, e3, hv.to fun g _ => h1 g⟩
    okb := h2 }
/-- Blocks far from the row that grows. -/
theorem TW.old (_H : TW w wx h k T cv dv lv ok L) {o : Obj} {w2 : World} (hg2 : (wx.alloc o).grownBy w2 lv.ownBlock) {g : Nat} (hg : g < wx.heap.size) (hk : lv.ownBlock ≠ some g) : w2.heap[g]? = wx.heap[g]? := by
  have hs0 : (wx.alloc o).heap.size = wx.heap.size + 1 := by show (wx.heap.push o).size = _; rw [Array.size_push]
  rw [hg2.block g (by omega) (fun e => hk e.symm)]
  show (wx.heap.push o)[g]? = _
  rw [Array.getElem?_push_lt hg, Array.getElem?_eq_getElem hg]
theorem TW.val (H : TW w wx h k T cv dv lv ok L) {o : Obj} {w2 : World} {lv2 a b c d : Value} {x : V} {n : Nat} {xs : List Value} (hn : n = L.length) (hx : wx.ownsRow (h + 2) 26 4 lv n xs)
    (he : ∀ (i : Nat) (x : V), L[i]? = some x → ∃ a b c d, xs[i * 4]? = some a ∧ xs[i * 4 + 1]? = some b ∧ xs[i * 4 + 2]? = some c ∧ xs[i * 4 + 3]? = some d ∧ Vt wx ok (.agg #[a, b, c, d]) x)
    (own2 : w2.ownsRow (h + 2) 26 4 lv2 (n + 1) (xs ++ [a, b, c, d])) (hv : Vt wx ok (.agg #[a, b, c, d]) x) (hg2 : (wx.alloc o).grownBy w2 lv.ownBlock) (hb2 : lv2.ownBlock = lv.ownBlock ∨ lv2.ownBlock = some (wx.alloc o).heap.size) :
    TW w w2 h k T cv dv lv2 ok (L ++ [x]) := by
  have hs0 : (wx.alloc o).heap.size = wx.heap.size + 1 := by show (wx.heap.push o).size = _; rw [Array.size_push]
  have hsz := H.sz
  have hlv : ∀ g, lv.ownBlock = some g → h + 2 ≤ g ∧ g < wx.heap.size := H.lvb
  have lo : ∀ g, g < h + 2 → lv.ownBlock ≠ some g := fun g hg e => by have := (hlv g e).1; omega
  have hsz2 : wx.heap.size ≤ w2.heap.size := by have := hg2.size; omega
  have kp : ∀ g, ok g → g < wx.heap.size → w2.heap[g]? = wx.heap[g]? := fun g hg hlt => H.old hg2 hlt (H.okb g hg).2.2
  refine ⟨Below.grown (H.below.alloc (by have := H.hh; omega) o) hg2 (by have := H.hh; omega) fun g hg => by have := (hlv g hg).1; have := H.hh; omega, H.hh, by omega, by rw [H.old hg2 (by omega) (lo _ (by omega))]; exact H.b1, by rw [H.old hg2 (by omega) (lo _ (by omega))]; exact H.b2, ?_, ?_⟩
  · subst hn
    refine ⟨xs ++ [a, b, c, d], by rw [List.length_append]; exact own2, fun i y hy => ?_⟩
    rcases Nat.lt_or_ge i L.length with hi | hi
    · rw [List.getElem?_append_left hi] at hy
      obtain ⟨p, q, r, s, h0, h1, h2, h3, hm⟩ := he i y hy
      have hl := hx.1
      exact ⟨p, q, r, s, by rw [List.getElem?_append_left (by omega)]; exact h0, by rw [List.getElem?_append_left (by omega)]; exact h1, by rw [List.getElem?_append_left (by omega)]; exact h2, by rw [List.getElem?_append_left (by omega)]; exact h3, hm.keep kp hsz2⟩
    · have hi2 : i = L.length := by
        have := (List.getElem?_eq_some_iff.1 hy).1
        simp at this; omega
      subst hi2
      rw [List.getElem?_append_right (by omega), Nat.sub_self] at hy
      obtain rfl : x = y := by simpa using hy
      have hl := hx.1
      exact ⟨a, b, c, d, by rw [List.getElem?_append_right (by omega), hl, Nat.sub_self]; rfl, by rw [List.getElem?_append_right (by omega), hl, Nat.add_sub_cancel_left]; rfl, by rw [List.getElem?_append_right (by omega), hl, Nat.add_sub_cancel_left]; rfl, by rw [List.getElem?_append_right (by omega), hl, Nat.add_sub_cancel_left]; rfl, hv.keep kp hsz2⟩
  · intro g hg
    obtain ⟨a1, b1, c1⟩ := H.okb g hg
    refine ⟨a1, by omega, ?_⟩
    rcases hb2 with e | e
    · rw [e]; exact c1
    · rw [e]; intro e2; injection e2 with e2; omega
end
/-- A twin, midway, and its row of keys with the mark behind them. -/
structure TK (w wx : World) (h k : Nat) (T : ByteArray) (cv dv lv : Value) (ok : Nat → Prop) (L : List V) (gk ck : Nat) (ks : List Bs) : Prop where
  tw : TW w wx h k T cv dv lv ok L
  cp : ks.length < ck ∧ ck ≤ maxLen
  lo : h + 2 ≤ gk ∧ gk < wx.heap.size ∧ lv.ownBlock ≠ some gk
  el : ∀ i s, ks[i]? = some s → wx.cell? ⟨gk, i, none⟩ = some (.string (txt s))
  mark : wx.cell? ⟨gk, ks.length, none⟩ = some (.string (txt mrk))
theorem TK.of {w wr w6 : World} {h k : Nat} {T : ByteArray} {cv dv lv : Value} {ok : Nat → Prop} {L : List V} {g m c : Nat} {ks : List Bs} (H : TW w wr h k T cv dv lv ok L) (hb : Below wr.heap.size wr w6)
    (own6 : w6.ownsRow wr.heap.size 9 1 (.slice (some ⟨g, 0, none⟩) (m + 1) c) (m + 1) ((ks.map fun t => .string (txt t)) ++ [.string (txt mrk)])) (hm : m = ks.length) : TK w w6 h k T cv dv lv ok L g c ks := by
  subst hm
  obtain ⟨A, c', e, h1, h2, _⟩ := own_shape own6
  injection e with _ _ e3
  obtain ⟨g', e4, hg1, hg2, hc⟩ := own_cells own6 (by omega)
  injection e4 with e4; injection e4 with e4 _ _
  subst e3 e4
  refine ⟨H.call hb, ⟨by omega, h2⟩, ⟨by have := H.sz; omega, hg2, fun e => by have := H.lvb _ e; omega⟩, fun i s hs => ?_, ?_⟩
  · refine hc i _ ?_
    have hi := (List.getElem?_eq_some_iff.1 hs).1
    rw [List.getElem?_append_left (by rw [List.length_map]; exact hi), List.getElem?_map, hs]; rfl
  · refine hc ks.length _ ?_
    rw [List.getElem?_append_right (by rw [List.length_map]; exact Nat.le_refl _), List.length_map, Nat.sub_self]; rfl
/-- Keys put behind nothing, in a region that draws. -/
theorem step_keys {ops : Array Oper} {o : Oper} {a : Act} {W : World} {K : Act → World → Prop} {Q : Exit → Act → World → Prop} {E : Prop} (hgd : o.guard = none) (s x : Operand)
    (ho : o.op = .call { callee := .builtin .append, args := #[s, x], argTypes := #[24, 24] })
    {i9 : TypeInfo} (hi9 : Tryd.prog.info? 9 = some i9) (y0 : i9.zero = some (.string ⟨#[]⟩)) (y1 : i9.size = 1) (y2 : i9.bytes = 16)
    (q base m cc : Nat) (hs : a.eval s = .slice (some ⟨q, 0, none⟩) 0 cc) (hown : W.ownsRow base 9 1 (.slice (some ⟨q, 0, none⟩) 0 cc) 0 []) (B : Option Addr) (d : Nat) (ks : List Bs)
    (hx : a.eval x = .slice B m d) (hm : m = ks.length) (hK : Tx W B ks) (hB : B = none → d = 0) (hm5 : m ≤ 1000000) (hbase : base ≤ W.heap.size)
    (h : ∀ A5 c5 w5, w5.ownsRow base 9 1 (.slice A5 m c5) m (ks.map fun t => .string (txt t)) → W.grownBy w5 (some q) → K (a.put o.dst (.slice A5 m c5)) w5) :
    if Region.wanted o (yielded ops a.tmps) = true then Oper.wp Tryd.prog o a W K Q else E := by
  have hw : Region.wanted o (yielded ops a.tmps) = true := by simp [Region.wanted, hgd]
  rw [if_pos hw]
  cases B with
  | some ad =>
    have hnews : ∀ (j : Nat) (u : Value), (ks.map fun t => Value.string (txt t))[j]? = some u → W.cell? (ad.add j) = some u := fun j u hu => by
      have hj : j < ks.length := by have := (List.getElem?_eq_some_iff.1 hu).1; simpa using this
      obtain ⟨g, o', e, _, hf⟩ := hK (by omega)
      injection e with e
      subst e
      rw [List.getElem?_map] at hu
      obtain ⟨t, ht, rfl⟩ := Option.map_eq_some_iff.1 hu
      have e : (⟨g, o', none⟩ : Addr).add j = ⟨g, o' + j, none⟩ := by unfold Addr.add; split <;> simp_all
      rw [e]; exact hf j t ht
    obtain ⟨v', w', hrun, r1, r2, _, r3⟩ := run_append_own_at (P := Tryd.prog) W base 24 o.type 9 i9 _ 1 16 Tryd.underlying24 hi9 y0 y1 y2 rfl (by decide) _ 0 [] hown ad m d (ks.map fun t => .string (txt t)) (by simp [hm]) hnews (fun u hu => by
      obtain ⟨t, _, rfl⟩ := List.mem_map.1 hu; rfl) (by unfold maxLen; omega) (by omega) hbase
    rw [Nat.zero_add, List.nil_append] at r1
    obtain ⟨A5, c5, rfl, _⟩ := own_shape r1
    unfold Oper.wp
    simp [execOp, ho, resolve, invoke, builtin, hs, hx, hrun, Result.andThen]
    exact h A5 c5 w' r1 r2
  | none =>
    obtain rfl := hB rfl
    have hm0 : ks = [] := by
      cases ks with
      | nil => rfl
      | cons t r => obtain ⟨_, _, e, _⟩ := hK (by simp); cases e
    subst hm0
    obtain rfl : m = 0 := hm
    have hrun := run_append_owned_none (P := Tryd.prog) W base 24 o.type 9 i9 1 Tryd.underlying24 hi9 _ 0 [] hown
    unfold Oper.wp
    simp [execOp, ho, resolve, invoke, builtin, hs, hx, hrun, Result.andThen]
    exact h _ _ W hown (World.grownBy.refl _ _)
theorem cell_one {w : World} {g : Nat} {u : Value} (h : w.cell? ⟨g, 0, none⟩ = some u) : ∀ (j : Nat) (x : Value), [u][j]? = some x → w.cell? ((⟨g, 0, none⟩ : Addr).add j) = some x := fun j x hx => by
  rw [addAt]
  cases j with
  | zero => obtain rfl : u = x := by simpa using hx
            exact h
  | succ j => simp at hx
theorem own_cap {w : World} {base : Nat} {e : TypeId} {s : Nat} {A : Option Addr} {n c : Nat} {xs : List Value} (h : w.ownsRow base e s (.slice A n c) n xs) : n ≤ c := by
  obtain ⟨A', c', e1, h1, _⟩ := own_shape h
  injection e1 with _ _ e2
  omega
theorem store4 {w : World} {b : Nat} {x y z u : Value} (p q r s : Value) (h : w.heap[b]? = some (vO x y z u)) : ((((w.setCell ⟨b, 0, none⟩ p).setCell ⟨b, 1, none⟩ q).setCell ⟨b, 2, none⟩ r).setCell ⟨b, 3, none⟩ s).heap[b]? = some (vO p q r s) := by
  have h1 : (w.setCell ⟨b, 0, none⟩ p).heap[b]? = some (vO p y z u) := Go.heap_setCell_same w b 0 _ _ p h
  have h2 : ((w.setCell ⟨b, 0, none⟩ p).setCell ⟨b, 1, none⟩ q).heap[b]? = some (vO p q z u) := Go.heap_setCell_same _ b 1 _ _ q h1
  have h3 : (((w.setCell ⟨b, 0, none⟩ p).setCell ⟨b, 1, none⟩ q).setCell ⟨b, 2, none⟩ r).heap[b]? = some (vO p q r u) := Go.heap_setCell_same _ b 2 _ _ r h2
  exact Go.heap_setCell_same _ b 3 _ _ s h3
theorem TK.fin {w wc w6 W9 : World} {h k : Nat} {T : ByteArray} {cv dv lv : Value} {ok : Nat → Prop} {l : List V} {gk ck g6 c6 n : Nat} {ks : List Bs} {xs : List Value} {o : Obj} {z s1 s2 : Value} {t : Bs} (H : TK w wc h k T cv dv lv ok l gk ck ks)
    (hx : wc.ownsRow (h + 2) 26 4 lv n xs) (hn : n = l.length)
    (he : ∀ (i : Nat) (x : V), l[i]? = some x → ∃ a b c d, xs[i * 4]? = some a ∧ xs[i * 4 + 1]? = some b ∧ xs[i * 4 + 2]? = some c ∧ xs[i * 4 + 3]? = some d ∧ Vt wc ok (.agg #[a, b, c, d]) x)
    (hg6 : (wc.alloc o).grownBy w6 lv.ownBlock) (own6 : w6.ownsRow (h + 2) 26 4 (.slice (some ⟨g6, 0, none⟩) (n + 1) c6) (n + 1) (xs ++ [z, .string (txt mrk), s1, s2]))
    (o0 : ∀ g, g ≠ h + 1 → W9.heap[g]? = w6.heap[g]?) (o2 : W9.heap.size = w6.heap.size) (hk : k < 256) (hT : T = txt t) :
    Vt W9 (fun g => w.heap.size ≤ g) (.agg #[.int .u8 k, .string T, .slice (some ⟨g6, 0, none⟩) n c6, .slice (some ⟨gk, 0, none⟩) ks.length ck]) (.mk k t l ks) := by
  subst hn hT
  have hh := H.tw.hh
  obtain ⟨A, c', e, h1, h2, _⟩ := own_shape own6
  injection e with _ _ e3
  obtain ⟨g', e4, hg1, hg2, hc⟩ := own_cells own6 (by omega)
  injection e4 with e4; injection e4 with e4 _ _
  subst e3 e4
  have hs0 : (wc.alloc o).heap.size = wc.heap.size + 1 := by show (wc.heap.push o).size = _; rw [Array.size_push]
  have hsz : wc.heap.size ≤ w6.heap.size := by have := hg6.size; omega
  have kp : ∀ g, g < wc.heap.size → lv.ownBlock ≠ some g → h + 2 ≤ g → W9.heap[g]? = wc.heap[g]? := fun g hg hl h2 => by
    rw [o0 g (by omega), H.tw.old hg6 hg hl]
  have hx1 := hx.1
  have cell : ∀ (j : Nat) (u : Value), (xs ++ [z, .string (txt mrk), s1, s2])[j]? = some u → W9.cell? ⟨g6, j, none⟩ = some u := fun j u hu => cell_eq (o0 g6 (by omega)) (hc j u hu)
  refine .mk k t l ks g6 0 gk 0 c6 ck (fun i j => xs.getD (i * 4 + j) z) hk (by omega) h2 H.cp.1 H.cp.2 (by omega) (by have := H.lo.2.1; omega) (by show w.heap.size ≤ g6; omega) (by show w.heap.size ≤ gk; have := H.lo.1; omega) (fun i s hs => ?_) ?_ (fun i hi j hj => ?_) ?_ (fun i x hi => ?_)
  · rw [Nat.zero_add]
    exact cell_eq (kp gk H.lo.2.1 H.lo.2.2 H.lo.1) (H.el i s hs)
  · rw [Nat.zero_add]
    exact cell_eq (kp gk H.lo.2.1 H.lo.2.2 H.lo.1) H.mark
  · rw [Nat.zero_add]
    have hlt : i * 4 + j < xs.length := by rw [hx1]; omega
    refine cell _ _ ?_
    rw [List.getElem?_append_left hlt, List.getD_eq_getElem?_getD, List.getElem?_eq_getElem hlt]; rfl
  · rw [Nat.zero_add]
    refine cell _ _ ?_
    rw [List.getElem?_append_right (by omega), hx1]
    have e : l.length * 4 + 1 - l.length * 4 = 1 := by omega
    rw [e]; rfl
  · obtain ⟨a, b, c, d, e0, e1, e2, e3, hv⟩ := he i x hi
    have e : ∀ {j : Nat} {y : Value}, xs[i * 4 + j]? = some y → xs.getD (i * 4 + j) z = y := fun h => by rw [List.getD_eq_getElem?_getD, h]; rfl
    show Vt W9 _ (.agg #[xs.getD (i * 4 + 0) z, xs.getD (i * 4 + 1) z, xs.getD (i * 4 + 2) z, xs.getD (i * 4 + 3) z]) x
    rw [e (j := 0) e0, e e1, e e2, e e3]
    refine (hv.keep (fun g hg hlt => ?_) (by omega)).to fun g _ hg => ?_
    · have := H.tw.okb g hg
      exact kp g hlt this.2.2 this.1
    · have := (H.tw.okb g hg).1; omega
theorem own_cast2 {w : World} {base : Nat} {e : TypeId} {s : Nat} {v : Value} {n m : Nat} {xs : List Value} (h : w.ownsRow base e s v n xs) (hn : n = m) : w.ownsRow base e s v m xs := hn ▸ h
theorem Vt.shape {w : World} {ok : Nat → Prop} {u : Value} {x : V} (h : Vt w ok u x) : ∃ (k : Nat) (t : ByteArray) (A B : Option Addr) (n c m d : Nat), u = .agg #[.int .u8 k, .string t, .slice A n c, .slice B m d] := by
  cases h with
  | mk => exact ⟨_, _, _, _, _, _, _, _, rfl⟩
theorem four_cells (w : World) (t : TypeId) (a b c d : Value) : ∀ j x, [a, b, c, d][j]? = some x → (w.alloc (.cells #[a, b, c, d] t)).cell? ((⟨w.heap.size, 0, none⟩ : Addr).add j) = some x := fun j x h => by
  rw [addAt, World.cell?_alloc_at _ _ _ _ rfl]
  rcases j with _ | _ | _ | _ | j <;> first | (simp at h; done) | simpa using h
end Va
end Go.Proofs.YtnnlgodgaolkkaaDoor
