/- The law's own: a twin of a value. -/
import Derived.Test.YtggeiajbcehkjaaGreatDoorGbd
import Derived.Test.YtggeiajbcehkjaaGreatDoorGay
import Derived.Deep.AppendLies
import Derived.Deep.RegionHeldLaw
import Derived.Laws.MakeOwn
namespace Go.Proofs.YtggeiajbcehkjaaGreatDoor
open Go.RowKit
namespace Va
set_option maxRecDepth 100000

/-- A twin, midway: the value in a block, what is answered in another one, its row of twins. -/
structure TW (w wx : World) (h k : Nat) (T : ByteArray) (cv dv lv : Value) (ok : Nat → Prop) (L : List V) : Prop where
  below : Below w.heap.size w wx
  hh : h = w.heap.size
  sz : h + 2 ≤ wx.heap.size
  b1 : wx.heap[h]? = some (vO (.int .u8 k) (.string T) cv dv)
  b2 : wx.heap[h + 1]? = some (vO (.int .u8 0) (.string ⟨#[]⟩) (.slice none 0 0) (.slice none 0 0))
  ol : ∃ xs, wx.ownsRow (h + 2) 33 4 lv L.length xs ∧ ∀ (i : Nat) (x : V), L[i]? = some x → ∃ a b c d, xs[i * 4]? = some a ∧ xs[i * 4 + 1]? = some b ∧ xs[i * 4 + 2]? = some c ∧ xs[i * 4 + 3]? = some d ∧ Vt wx ok (.agg #[a, b, c, d]) x
  okb : ∀ g, ok g → h + 2 ≤ g ∧ g < wx.heap.size ∧ lv.ownBlock ≠ some g
section
variable {w wx wy : World} {h k : Nat} {T : ByteArray} {cv dv lv : Value} {ok : Nat → Prop} {L : List V}
theorem TW.lvb (H : TW w wx h k T cv dv lv ok L) : ∀ g, lv.ownBlock = some g → h + 2 ≤ g ∧ g < wx.heap.size := fun g hg => by obtain ⟨xs, ho, _⟩ := H.ol; exact ho.lt g hg
theorem TW.call (H : TW w wx h k T cv dv lv ok L) (hb : Below wx.heap.size wx wy) : TW w wy h k T cv dv lv ok L where
  below := below_tr H.below hb
  hh := H.hh
  sz := Nat.le_trans H.sz hb.size
  b1 := by rw [hb.block _ (by have := H.sz; omega)]; exact H.b1
  b2 := by rw [hb.block _ (by have := H.sz; omega)]; exact H.b2
  ol := by
    obtain ⟨xs, h1, h2⟩ := H.ol
    refine ⟨xs, own_on h1 fun g hg => hb.block g (H.lvb g hg).2, fun i x hx => ?_⟩
    obtain ⟨a, b, c, d, e0, e1, e2, e3, hv⟩ := h2 i x hx
    exact ⟨a, b, c, d, e0, e1, e2, e3, hv.on hb⟩
  okb := fun g hg => by obtain ⟨a, b, c⟩ := H.okb g hg; exact ⟨a, Nat.lt_of_lt_of_le b hb.size, c⟩
theorem TW.more (H : TW w wx h k T cv dv lv ok L) {ok' : Nat → Prop} (h1 : ∀ g, ok g → ok' g) (h2 : ∀ g, ok' g → h + 2 ≤ g ∧ g < wx.heap.size ∧ lv.ownBlock ≠ some g) : TW w wx h k T cv dv lv ok' L :=
  { H with
    ol := by
      obtain ⟨xs, o1, o2⟩ := H.ol
      refine ⟨xs, o1, fun i x hx => ?_⟩
      obtain ⟨a, b, c, d, e0, e1, e2, e3, hv⟩ := o2 i x hx
      exact ⟨a, b, c, d, e0, e1, e2, e3, hv.to fun g _ => h1 g⟩
    okb := h2 }
/-- Blocks far from the row that grows. -/
theorem TW.old (_H : TW w wx h k T cv dv lv ok L) {o : Obj} {w2 : World} (hg2 : (wx.alloc o).grownBy w2 lv.ownBlock) {g : Nat} (hg : g < wx.heap.size) (hk : lv.ownBlock ≠ some g) : w2.heap[g]? = wx.heap[g]? := by
  have hs0 : (wx.alloc o).heap.size = wx.heap.size + 1 := by show (wx.heap.push o).size = _; rw [Array.size_push]
  rw [hg2.block g (by omega) (fun e => hk e.symm)]
  show (wx.heap.push o)[g]? = _
  rw [Array.getElem?_push_lt hg, Array.getElem?_eq_getElem hg]
theorem TW.val (H : TW w wx h k T cv dv lv ok L) {o : Obj} {w2 : World} {lv2 a b c d : Value} {x : V} {n : Nat} {xs : List Value} (hn : n = L.length) (hx : wx.ownsRow (h + 2) 33 4 lv n xs)
    (he : ∀ (i : Nat) (x : V), L[i]? = some x → ∃ a b c d, xs[i * 4]? = some a ∧ xs[i * 4 + 1]? = some b ∧ xs[i * 4 + 2]? = some c ∧ xs[i * 4 + 3]? = some d ∧ Vt wx ok (.agg #[a, b, c, d]) x)
    (own2 : w2.ownsRow (h + 2) 33 4 lv2 (n + 1) (xs ++ [a, b, c, d])) (hv : Vt wx ok (.agg #[a, b, c, d]) x) (hg2 : (wx.alloc o).grownBy w2 lv.ownBlock) (hb2 : lv2.ownBlock = lv.ownBlock ∨ lv2.ownBlock = some (wx.alloc o).heap.size) :
    TW w w2 h k T cv dv lv2 ok (L ++ [x]) := by
  have hs0 : (wx.alloc o).heap.size = wx.heap.size + 1 := by show (wx.heap.push o).size = _; rw [Array.size_push]
  have hsz := H.sz
  have hlv : ∀ g, lv.ownBlock = some g → h + 2 ≤ g ∧ g < wx.heap.size := H.lvb
  have lo : ∀ g, g < h + 2 → lv.ownBlock ≠ some g := fun g hg e => by have := (hlv g e).1; omega
  have hsz2 : wx.heap.size ≤ w2.heap.size := by have := hg2.size; omega
  have kp : ∀ g, ok g → g < wx.heap.size → w2.heap[g]? = wx.heap[g]? := fun g hg hlt => H.old hg2 hlt (H.okb g hg).2.2
  refine ⟨Below.grown (H.below.alloc (by have := H.hh; omega) o) hg2 (by have := H.hh; omega) fun g hg => by have := (hlv g hg).1; have := H.hh; omega, H.hh, by omega, by rw [H.old hg2 (by omega) (lo _ (by omega))]; exact H.b1, by rw [H.old hg2 (by omega) (lo _ (by omega))]; exact H.b2, ?_, ?_⟩
  · subst hn
    refine ⟨xs ++ [a, b, c, d], by rw [List.length_append]; exact own2, fun i y hy => ?_⟩
    rcases Nat.lt_or_ge i L.length with hi | hi
    · rw [List.getElem?_append_left hi] at hy
      obtain ⟨p, q, r, s, h0, h1, h2, h3, hm⟩ := he i y hy
      have hl := hx.1
      exact ⟨p, q, r, s, by rw [List.getElem?_append_left (by omega)]; exact h0, by rw [List.getElem?_append_left (by omega)]; exact h1, by rw [List.getElem?_append_left (by omega)]; exact h2, by rw [List.getElem?_append_left (by omega)]; exact h3, hm.keep kp hsz2⟩
    · have hi2 : i = L.length := by
        have := (List.getElem?_eq_some_iff.1 hy).1
        simp at this; omega
      subst hi2
      rw [List.getElem?_append_right (by omega), Nat.sub_self] at hy
      obtain rfl : x = y := by simpa using hy
      have hl := hx.1
      exact ⟨a, b, c, d, by rw [List.getElem?_append_right (by omega), hl, Nat.sub_self]; rfl, by rw [List.getElem?_append_right (by omega), hl, Nat.add_sub_cancel_left]; rfl, by rw [List.getElem?_append_right (by omega), hl, Nat.add_sub_cancel_left]; rfl, by rw [List.getElem?_append_right (by omega), hl, Nat.add_sub_cancel_left]; rfl, hv.keep kp hsz2⟩
  · intro g hg
    obtain ⟨a1, b1, c1⟩ := H.okb g hg
    refine ⟨a1, by omega, ?_⟩
    rcases hb2 with e | e
    · rw [e]; exact c1
    · rw [e]; intro e2; injection e2 with e2; omega
end
/-- A twin, midway, and its row of keys with the mark behind them. -/
structure TK (w wx : World) (h k : Nat) (T : ByteArray) (cv dv lv : Value) (ok : Nat → Prop) (L : List V) (gk ck : Nat) (ks : List Bs) : Prop where
  tw : TW w wx h k T cv dv lv ok L
  cp : ks.length < ck ∧ ck ≤ maxLen
  lo : h + 2 ≤ gk ∧ gk < wx.heap.size ∧ lv.ownBlock ≠ some gk
  el : ∀ i s, ks[i]? = some s → wx.cell? ⟨gk, i, none⟩ = some (.string (txt s))
  mark : wx.cell? ⟨gk, ks.length, none⟩ = some (.string (txt mrk))
theorem TK.of {w wr w6 : World} {h k : Nat} {T : ByteArray} {cv dv lv : Value} {ok : Nat → Prop} {L : List V} {g m c : Nat} {ks : List Bs} (H : TW w wr h k T cv dv lv ok L) (hb : Below wr.heap.size wr w6)
    (own6 : w6.ownsRow wr.heap.size 9 1 (.slice (some ⟨g, 0, none⟩) (m + 1) c) (m + 1) ((ks.map fun t => .string (txt t)) ++ [.string (txt mrk)])) (hm : m = ks.length) : TK w w6 h k T cv dv lv ok L g c ks := by
  subst hm
  obtain ⟨A, c', e, h1, h2, _⟩ := own_shape own6
  injection e with _ _ e3
  obtain ⟨g', e4, hg1, hg2, hc⟩ := own_cells own6 (by omega)
  injection e4 with e4; injection e4 with e4 _ _
  subst e3 e4
  refine ⟨H.call hb, ⟨by omega, h2⟩, ⟨by have := H.sz; omega, hg2, fun e => by have := H.lvb _ e; omega⟩, fun i s hs => ?_, ?_⟩
  · refine hc i _ ?_
    have hi := (List.getElem?_eq_some_iff.1 hs).1
    rw [List.getElem?_append_left (by rw [List.length_map]; exact hi), List.getElem?_map, hs]; rfl
  · refine hc ks.length _ ?_
    rw [List.getElem?_append_right (by rw [List.length_map]; exact Nat.le_refl _), List.length_map, Nat.sub_self]; rfl
theorem store4 {w : World} {b : Nat} {x y z u : Value} (p q r s : Value) (h : w.heap[b]? = some (vO x y z u)) : ((((w.setCell ⟨b, 0, none⟩ p).setCell ⟨b, 1, none⟩ q).setCell ⟨b, 2, none⟩ r).setCell ⟨b, 3, none⟩ s).heap[b]? = some (vO p q r s) := by
  have h1 : (w.setCell ⟨b, 0, none⟩ p).heap[b]? = some (vO p y z u) := Go.heap_setCell_same w b 0 _ _ p h
  have h2 : ((w.setCell ⟨b, 0, none⟩ p).setCell ⟨b, 1, none⟩ q).heap[b]? = some (vO p q z u) := Go.heap_setCell_same _ b 1 _ _ q h1
  have h3 : (((w.setCell ⟨b, 0, none⟩ p).setCell ⟨b, 1, none⟩ q).setCell ⟨b, 2, none⟩ r).heap[b]? = some (vO p q r u) := Go.heap_setCell_same _ b 2 _ _ r h2
  exact Go.heap_setCell_same _ b 3 _ _ s h3
theorem TK.fin {w wc w6 W9 : World} {h k : Nat} {T : ByteArray} {cv dv lv : Value} {ok : Nat → Prop} {l : List V} {gk ck g6 c6 n : Nat} {ks : List Bs} {xs : List Value} {o : Obj} {z s1 s2 : Value} {t : Bs} (H : TK w wc h k T cv dv lv ok l gk ck ks)
    (hx : wc.ownsRow (h + 2) 33 4 lv n xs) (hn : n = l.length)
    (he : ∀ (i : Nat) (x : V), l[i]? = some x → ∃ a b c d, xs[i * 4]? = some a ∧ xs[i * 4 + 1]? = some b ∧ xs[i * 4 + 2]? = some c ∧ xs[i * 4 + 3]? = some d ∧ Vt wc ok (.agg #[a, b, c, d]) x)
    (hg6 : (wc.alloc o).grownBy w6 lv.ownBlock) (own6 : w6.ownsRow (h + 2) 33 4 (.slice (some ⟨g6, 0, none⟩) (n + 1) c6) (n + 1) (xs ++ [z, .string (txt mrk), s1, s2]))
    (o0 : ∀ g, g ≠ h + 1 → W9.heap[g]? = w6.heap[g]?) (o2 : W9.heap.size = w6.heap.size) (hk : k < 256) (hT : T = txt t) :
    Vt W9 (fun g => w.heap.size ≤ g) (.agg #[.int .u8 k, .string T, .slice (some ⟨g6, 0, none⟩) n c6, .slice (some ⟨gk, 0, none⟩) ks.length ck]) (.mk k t l ks) := by
  subst hn hT
  have hh := H.tw.hh
  obtain ⟨A, c', e, h1, h2, _⟩ := own_shape own6
  injection e with _ _ e3
  obtain ⟨g', e4, hg1, hg2, hc⟩ := own_cells own6 (by omega)
  injection e4 with e4; injection e4 with e4 _ _
  subst e3 e4
  have hs0 : (wc.alloc o).heap.size = wc.heap.size + 1 := by show (wc.heap.push o).size = _; rw [Array.size_push]
  have hsz : wc.heap.size ≤ w6.heap.size := by have := hg6.size; omega
  have kp : ∀ g, g < wc.heap.size → lv.ownBlock ≠ some g → h + 2 ≤ g → W9.heap[g]? = wc.heap[g]? := fun g hg hl h2 => by
    rw [o0 g (by omega), H.tw.old hg6 hg hl]
  have hx1 := hx.1
  have cell : ∀ (j : Nat) (u : Value), (xs ++ [z, .string (txt mrk), s1, s2])[j]? = some u → W9.cell? ⟨g6, j, none⟩ = some u := fun j u hu => cell_eq (o0 g6 (by omega)) (hc j u hu)
  refine .mk k t l ks g6 0 gk 0 c6 ck (fun i j => xs.getD (i * 4 + j) z) hk (by omega) h2 H.cp.1 H.cp.2 (by omega) (by have := H.lo.2.1; omega) (by show w.heap.size ≤ g6; omega) (by show w.heap.size ≤ gk; have := H.lo.1; omega) (fun i s hs => ?_) ?_ (fun i hi j hj => ?_) ?_ (fun i x hi => ?_)
  · rw [Nat.zero_add]
    exact cell_eq (kp gk H.lo.2.1 H.lo.2.2 H.lo.1) (H.el i s hs)
  · rw [Nat.zero_add]
    exact cell_eq (kp gk H.lo.2.1 H.lo.2.2 H.lo.1) H.mark
  · rw [Nat.zero_add]
    have hlt : i * 4 + j < xs.length := by rw [hx1]; omega
    refine cell _ _ ?_
    rw [List.getElem?_append_left hlt, List.getD_eq_getElem?_getD, List.getElem?_eq_getElem hlt]; rfl
  · rw [Nat.zero_add]
    refine cell _ _ ?_
    rw [List.getElem?_append_right (by omega), hx1]
    have e : l.length * 4 + 1 - l.length * 4 = 1 := by omega
    rw [e]; rfl
  · obtain ⟨a, b, c, d, e0, e1, e2, e3, hv⟩ := he i x hi
    have e : ∀ {j : Nat} {y : Value}, xs[i * 4 + j]? = some y → xs.getD (i * 4 + j) z = y := fun h => by rw [List.getD_eq_getElem?_getD, h]; rfl
    show Vt W9 _ (.agg #[xs.getD (i * 4 + 0) z, xs.getD (i * 4 + 1) z, xs.getD (i * 4 + 2) z, xs.getD (i * 4 + 3) z]) x
    rw [e (j := 0) e0, e e1, e e2, e e3]
    refine (hv.keep (fun g hg hlt => ?_) (by omega)).to fun g _ hg => ?_
    · have := H.tw.okb g hg
      exact kp g hlt this.2.2 this.1
    · have := (H.tw.okb g hg).1; omega
theorem Vt.shape {w : World} {ok : Nat → Prop} {u : Value} {x : V} (h : Vt w ok u x) : ∃ (k : Nat) (t : ByteArray) (A B : Option Addr) (n c m d : Nat), u = .agg #[.int .u8 k, .string t, .slice A n c, .slice B m d] := by
  cases h with
  | mk => exact ⟨_, _, _, _, _, _, _, _, rfl⟩
end Va
end Go.Proofs.YtggeiajbcehkjaaGreatDoor
/- The law's own example, made. -/
namespace Go.Proofs.YtggeiajbcehkjaaGreatDoor
open Go.RowKit
namespace Va

theorem al_old {W : World} {o : Obj} {g : Nat} (h : g < W.heap.size) : (W.alloc o).heap[g]? = W.heap[g]? := by
  show (W.heap.push o)[g]? = _
  rw [Array.getElem?_push_lt h, Array.getElem?_eq_getElem h]
end Va
end Go.Proofs.YtggeiajbcehkjaaGreatDoor
/- The law's own: a value with another node in it. -/
namespace Go.Proofs.YtggeiajbcehkjaaGreatDoor
open Go.RowKit
namespace Va
set_option maxRecDepth 100000

/-- A value with another node, midway. -/
structure OW (w wx : World) (h P q k : Nat) (T : ByteArray) (cv dv lv kv : Value) (n m : Nat) (xs ys : List Value) (z : Int) : Prop where
  gr : w.grownBy wx (some P)
  hh : h = w.heap.size
  lo : h + 2 ≤ q ∧ q < wx.heap.size ∧ P < h
  b1 : wx.heap[h]? = some (vO (.int .u8 k) (.string T) cv dv)
  b2 : wx.heap[h + 1]? = some (vO (.int .u8 0) (.string ⟨#[]⟩) (.slice none 0 0) (.slice none 0 0))
  b6 : wx.heap[q]? = some (vO (.int .u8 k) (.string T) lv kv)
  ow : wx.ownsRow (h + 2) 33 4 lv n xs
  ok : wx.ownsRow (h + 2) 9 1 kv m ys
  ap : lv.ownBlock ≠ some q ∧ kv.ownBlock ≠ some q
  pt : wx.heap[P]? = some (.cells #[.int .i64 z] 3)
section
variable {w wx wy : World} {h P q k : Nat} {T : ByteArray} {cv dv lv kv : Value} {n m : Nat} {xs ys : List Value} {z z' : Int}
theorem OW.call (H : OW w wx h P q k T cv dv lv kv n m xs ys z) (hg : wx.grownBy wy (some P)) (hp : wy.heap[P]? = some (.cells #[.int .i64 z'] 3)) : OW w wy h P q k T cv dv lv kv n m xs ys z' := by
  have old : ∀ g, h ≤ g → g < wx.heap.size → wy.heap[g]? = wx.heap[g]? := fun g hg1 hg2 => hg.block g hg2 (fun e => by injection e with e; have := H.lo; omega)
  have hlo := H.lo
  exact ⟨H.gr.trans hg, H.hh, ⟨hlo.1, Nat.lt_of_lt_of_le hlo.2.1 hg.size, hlo.2.2⟩, (old _ (by omega) (by omega)).trans H.b1, (old _ (by omega) (by omega)).trans H.b2, (old _ (by omega) (by omega)).trans H.b6,
    own_on H.ow fun g e => old g (by have := (H.ow.lt g e).1; omega) (H.ow.lt g e).2, own_on H.ok fun g e => old g (by have := (H.ok.lt g e).1; omega) (H.ok.lt g e).2, H.ap, hp⟩
end
theorem grow_below {a b : World} (P : Nat) (h : Below a.heap.size a b) : a.grownBy b (some P) := ⟨h.os, h.tape, h.output, h.size, fun k hk _ => h.block k hk⟩
/-- What holds on whatever a call leaves of the number. -/
theorem OW.upto {w wx wy : World} {h P q k : Nat} {T : ByteArray} {cv dv lv kv : Value} {n m : Nat} {xs ys : List Value} {z : Int} (H : OW w wx h P q k T cv dv lv kv n m xs ys z) (hg : wx.grownBy wy (some P)) :
    w.grownBy wy (some P) ∧ (∀ g, h ≤ g → g < wx.heap.size → wy.heap[g]? = wx.heap[g]?) ∧ wy.heap[h + 1]? = some (vO (.int .u8 0) (.string ⟨#[]⟩) (.slice none 0 0) (.slice none 0 0)) ∧ wy.heap[q]? = some (vO (.int .u8 k) (.string T) lv kv) ∧ wy.ownsRow (h + 2) 33 4 lv n xs ∧ wy.ownsRow (h + 2) 9 1 kv m ys := by
  have old : ∀ g, h ≤ g → g < wx.heap.size → wy.heap[g]? = wx.heap[g]? := fun g hg1 hg2 => hg.block g hg2 (fun e => by injection e with e; have := H.lo; omega)
  have hlo := H.lo
  exact ⟨H.gr.trans hg, old, (old _ (by omega) (by omega)).trans H.b2, (old _ (by omega) (by omega)).trans H.b6,
    own_on H.ow fun g e => old g (by have := (H.ow.lt g e).1; omega) (H.ow.lt g e).2, own_on H.ok fun g e => old g (by have := (H.ok.lt g e).1; omega) (H.ok.lt g e).2⟩
theorem OW.fin {w W3 WF : World} {h P q k : Nat} {T : ByteArray} {cv dv lv kv : Value} {n m : Nat} {xs ys : List Value} {z : Int} (GW : w.grownBy W3 (some P)) (hh : h = w.heap.size) (hP : P < h) (hs3 : h + 2 ≤ W3.heap.size)
    (b1 : W3.heap[h]? = some (vO (.int .u8 k) (.string T) cv dv)) (b2 : W3.heap[h + 1]? = some (vO (.int .u8 0) (.string ⟨#[]⟩) (.slice none 0 0) (.slice none 0 0))) (pt : W3.heap[P]? = some (.cells #[.int .i64 z] 3))
    (hb : Below W3.heap.size W3 WF) (hq : W3.heap.size ≤ q) (hqo : WF.heap[q]? = some (vO (.int .u8 0) (.string ⟨#[]⟩) (.slice none 0 0) (.slice none 0 0)))
    (ow : WF.ownsRow W3.heap.size 33 4 lv n xs) (ok : WF.ownsRow W3.heap.size 9 1 kv m ys) (ap : lv.ownBlock ≠ some q ∧ kv.ownBlock ≠ some q) :
    OW w ((((WF.setCell ⟨q, 0, none⟩ (.int .u8 k)).setCell ⟨q, 1, none⟩ (.string T)).setCell ⟨q, 2, none⟩ lv).setCell ⟨q, 3, none⟩ kv) h P q k T cv dv lv kv n m xs ys z := by
  have hlt : q < WF.heap.size := (Array.getElem?_eq_some_iff.1 hqo).1
  have hb2 : Below W3.heap.size W3 ((((WF.setCell ⟨q, 0, none⟩ (.int .u8 k)).setCell ⟨q, 1, none⟩ (.string T)).setCell ⟨q, 2, none⟩ lv).setCell ⟨q, 3, none⟩ kv) :=
    (((hb.setCell (p := ⟨q, 0, none⟩) hq _).setCell (p := ⟨q, 1, none⟩) hq _).setCell (p := ⟨q, 2, none⟩) hq _).setCell (p := ⟨q, 3, none⟩) hq _
  have o0 : ∀ g, g ≠ q → ((((WF.setCell ⟨q, 0, none⟩ (.int .u8 k)).setCell ⟨q, 1, none⟩ (.string T)).setCell ⟨q, 2, none⟩ lv).setCell ⟨q, 3, none⟩ kv).heap[g]? = WF.heap[g]? := fun g hg => by
    rw [Go.RowKit.Below.heap_setCell _ _ _ _ hg, Go.RowKit.Below.heap_setCell _ _ _ _ hg, Go.RowKit.Below.heap_setCell _ _ _ _ hg, Go.RowKit.Below.heap_setCell _ _ _ _ hg]
  have lower : ∀ {e : TypeId} {s : Nat} {v : Value} {n : Nat} {xs : List Value} {W : World}, W.ownsRow W3.heap.size e s v n xs → W.ownsRow (h + 2) e s v n xs := fun {e s v n xs W} H => ⟨H.1, H.2.imp id fun ⟨g, c, cur, e1, hb, r⟩ => ⟨g, c, cur, e1, Nat.le_trans hs3 hb, r⟩⟩
  refine ⟨GW.trans (grow_below P hb2), hh, ⟨by omega, by simp; exact hlt, hP⟩, (hb2.block _ (by omega)).trans b1, (hb2.block _ (by omega)).trans b2, store4 _ _ _ _ hqo, lower (own_on ow fun g e => o0 g (fun e2 => ap.1 (e2 ▸ e))), lower (own_on ok fun g e => o0 g (fun e2 => ap.2 (e2 ▸ e))), ap, (hb2.block _ (by omega)).trans pt⟩
end Va
end Go.Proofs.YtggeiajbcehkjaaGreatDoor
/- The law's own: a value spoilt, and what stands behind its rows. -/
namespace Go.Proofs.YtggeiajbcehkjaaGreatDoor
open Go.RowKit
namespace Va
set_option maxRecDepth 100000

/-- A row that may be written. -/
def RW (w : World) (g : Nat) : Prop := ∃ cur t, w.heap[g]? = some (.cells cur t (0, 0))
theorem RW.free {w : World} {g : Nat} (h : RW w g) (j : Nat) : w.frozen? ⟨g, j, none⟩ = false := by
  obtain ⟨cur, t, e⟩ := h
  simp [World.frozen?, e]
theorem RW.set {w : World} {g : Nat} (h : RW w g) (j : Nat) (v : Value) : RW (w.setCell ⟨g, j, none⟩ v) g := by
  obtain ⟨cur, t, e⟩ := h
  exact ⟨_, _, Go.heap_setCell_same w g j cur t v e⟩
theorem RW.eq {w w' : World} {g : Nat} (h : RW w g) (e : w'.heap[g]? = w.heap[g]?) : RW w' g := by
  obtain ⟨cur, t, e2⟩ := h
  exact ⟨cur, t, e.trans e2⟩
/-- Blocks of a kind alone have turned. -/
structure Ch (R : Nat → Prop) (a b : World) : Prop where
  os : b.os = a.os
  tape : b.tape = a.tape
  output : b.output = a.output
  size : a.heap.size ≤ b.heap.size
  block : ∀ g, g < a.heap.size → ¬ R g → b.heap[g]? = a.heap[g]?
theorem Ch.refl (R : Nat → Prop) (a : World) : Ch R a a := ⟨rfl, rfl, rfl, Nat.le_refl _, fun _ _ _ => rfl⟩
theorem Ch.trans {R : Nat → Prop} {a b c : World} (h1 : Ch R a b) (h2 : Ch R b c) : Ch R a c :=
  ⟨h2.os.trans h1.os, h2.tape.trans h1.tape, h2.output.trans h1.output, Nat.le_trans h1.size h2.size, fun g hg hr => (h2.block g (Nat.lt_of_lt_of_le hg h1.size) hr).trans (h1.block g hg hr)⟩
theorem Ch.more {R R' : Nat → Prop} {a b : World} (h : Ch R a b) (hi : ∀ g, R g → R' g) : Ch R' a b := ⟨h.os, h.tape, h.output, h.size, fun g hg hr => h.block g hg fun e => hr (hi g e)⟩
theorem Ch.set (R : Nat → Prop) (a : World) {g : Nat} (hg : R g) (j : Nat) (v : Value) : Ch R a (a.setCell ⟨g, j, none⟩ v) :=
  ⟨rfl, rfl, rfl, by simp, fun k _ hr => Go.RowKit.Below.heap_setCell _ _ _ _ (fun e => hr (by rw [e]; exact hg))⟩
theorem Ch.below {R : Nat → Prop} {a b : World} (h : Below a.heap.size a b) : Ch R a b := ⟨h.os, h.tape, h.output, h.size, fun g hg _ => h.block g hg⟩
/-- A value that may be spoilt: all that its rows have room for lies in blocks of its own. -/
def Vp : Nat → World → (Nat → Prop) → Value → Prop
  | 0, _, _, _ => False
  | N + 1, w, ok, v => ∃ (k : Nat) (t : ByteArray) (A B : Option Addr) (n c m d : Nat), v = .agg #[.int .u8 k, .string t, .slice A n c, .slice B m d] ∧ n ≤ c ∧ m ≤ d ∧ c ≤ 1000000 ∧ d ≤ 1000000 ∧ (A = none → c = 0) ∧ (B = none → d = 0) ∧
      (0 < d → ∃ h p, B = some ⟨h, p, none⟩ ∧ ok h ∧ h < w.heap.size ∧ RW w h ∧ ∀ i, i < d → ∃ s, w.cell? ⟨h, p + i, none⟩ = some (.string s)) ∧
      (0 < c → ∃ g o, A = some ⟨g, o, none⟩ ∧ ok g ∧ g < w.heap.size ∧ RW w g ∧ (∀ h p, B = some ⟨h, p, none⟩ → 0 < d → h ≠ g) ∧ ∃ (f : Nat → Nat → Value) (oks : Nat → Nat → Prop), (∀ i, i < c → ∀ j, j < 4 → w.cell? ⟨g, o + i * 4 + j, none⟩ = some (f i j)) ∧
        ∀ i, i < c → Vp N w (oks i) (.agg #[f i 0, f i 1, f i 2, f i 3]) ∧ ∀ q, oks i q → ok q ∧ q < w.heap.size ∧ q ≠ g ∧ (∀ h p, B = some ⟨h, p, none⟩ → 0 < d → q ≠ h) ∧ ∀ j, j < c → j ≠ i → ¬ oks j q)
theorem Vp.keep : ∀ {N : Nat} {w w' : World} {ok : Nat → Prop} {v : Value}, Vp N w ok v → (∀ g, ok g → g < w.heap.size → w'.heap[g]? = w.heap[g]?) → w.heap.size ≤ w'.heap.size → Vp N w' ok v
  | 0, _, _, _, _, h, _, _ => h.elim
  | N + 1, w, w', ok, v, h, hb, hs => by
    obtain ⟨k, t, A, B, n, c, m, d, rfl, h1, h2, h3, h4, h5, h6, hk, hl⟩ := h
    refine ⟨k, t, A, B, n, c, m, d, rfl, h1, h2, h3, h4, h5, h6, fun h0 => ?_, fun h0 => ?_⟩
    · obtain ⟨h, p, e, ho, hh, hr, hc⟩ := hk h0
      refine ⟨h, p, e, ho, Nat.lt_of_lt_of_le hh hs, hr.eq (hb h ho hh), fun i hi => ?_⟩
      obtain ⟨s, hs⟩ := hc i hi
      exact ⟨s, cell_eq (hb h ho hh) hs⟩
    · obtain ⟨g, o, e, ho, hh, hr, hne, f, oks, hc, hv⟩ := hl h0
      refine ⟨g, o, e, ho, Nat.lt_of_lt_of_le hh hs, hr.eq (hb g ho hh), hne, f, oks, fun i hi j hj => cell_eq (hb g ho hh) (hc i hi j hj), fun i hi => ?_⟩
      obtain ⟨v1, v2⟩ := hv i hi
      exact ⟨v1.keep (fun q hq hlt => hb q (v2 q hq).1 hlt) hs, fun q hq => by
        obtain ⟨q1, q2, q3, q4, q5⟩ := v2 q hq
        exact ⟨q1, Nat.lt_of_lt_of_le q2 hs, q3, q4, q5⟩⟩
theorem Vp.shape {N : Nat} {w : World} {ok : Nat → Prop} {v : Value} (h : Vp N w ok v) : ∃ (k : Nat) (t : ByteArray) (A B : Option Addr) (n c m d : Nat), v = .agg #[.int .u8 k, .string t, .slice A n c, .slice B m d] := by
  cases N with
  | zero => exact h.elim
  | succ N =>
    obtain ⟨k, t, A, B, n, c, m, d, e, _⟩ := h
    exact ⟨k, t, A, B, n, c, m, d, e⟩
end Va
end Go.Proofs.YtggeiajbcehkjaaGreatDoor
/- What landed of values, as the laws ask it. -/
namespace Go.Proofs.YtggeiajbcehkjaaGreatDoor
open Go.RowKit
namespace Va
set_option maxRecDepth 100000

/-- The size, or how deep, of a value that may be; else nought. -/
def iM (a : Bool) (n : Nat) : Int := bif a then (n : Int) else 0
structure Ld (Lo : Nat) (Tb : World → Prop) (κ : V → Bs) : Prop where
  on : ∀ {w w' : World}, Tb w → Below Lo w w' → Tb w'
  lo : ∀ {w : World}, Tb w → Lo ≤ w.heap.size
  may : ∀ {x : V} {v : Value} (w : World), Tb w → Vm w v x → wt x ≤ 1000000 → Calls Tryz.prog 30 #[v] w fun e w' => e = .returned (.bool (may x)) ∧ Below w.heap.size w w'
  same : ∀ {x y : V} {v u : Value} (w : World), Tb w → Vm w v x → Vm w u y → wt x ≤ 1000000 → wt y ≤ 1000000 → Calls Tryz.prog 34 #[v, u] w fun e w' => e = .returned (.bool (Va.may x && Va.may y && sm x y)) ∧ Below w.heap.size w w'
  size : ∀ {x : V} {v : Value} (w : World), Tb w → Vm w v x → wt x ≤ 1000000 → Calls Tryz.prog 31 #[v] w fun e w' => e = .returned (.int .i64 (iM (Va.may x) (sz x))) ∧ Below w.heap.size w w'
theorem Ld.up {Lo : Nat} {Tb : World → Prop} {κ : V → Bs} (L : Ld Lo Tb κ) {w w' : World} (h : Tb w) (hb : Below w.heap.size w w') : Tb w' := L.on h (hb.mono (L.lo h))
end Va
end Go.Proofs.YtggeiajbcehkjaaGreatDoor
