/- The law's own: a twin of a value. -/
import Derived.Test.YtnnlgodgaolkkaaGreatDoorHo
import Derived.Test.YtnnlgodgaolkkaaGreatDoorStm
import Derived.Deep.AppendLies
import Derived.Deep.RegionHeldLaw
import Derived.Laws.MakeOwn
namespace Go.Proofs.YtnnlgodgaolkkaaGreatDoor
open Go.RowKit
namespace Va
set_option maxRecDepth 100000

/-- A twin, midway: the value in a block, what is answered in another one, its row of twins. -/
structure TW (w wx : World) (h k : Nat) (T : ByteArray) (cv dv lv : Value) (ok : Nat → Prop) (L : List V) : Prop where
  below : Below w.heap.size w wx
  hh : h = w.heap.size
  sz : h + 2 ≤ wx.heap.size
  b1 : wx.heap[h]? = some (vO (.int .u8 k) (.string T) cv dv)
  b2 : wx.heap[h + 1]? = some (vO (.int .u8 0) (.string ⟨#[]⟩) (.slice none 0 0) (.slice none 0 0))
  ol : ∃ xs, wx.ownsRow (h + 2) 26 4 lv L.length xs ∧ ∀ (i : Nat) (x : V), L[i]? = some x → ∃ a b c d, xs[i * 4]? = some a ∧ xs[i * 4 + 1]? = some b ∧ xs[i * 4 + 2]? = some c ∧ xs[i * 4 + 3]? = some d ∧ Vt wx ok (.agg #[a, b, c, d]) x
  okb : ∀ g, ok g → h + 2 ≤ g ∧ g < wx.heap.size ∧ lv.ownBlock ≠ some g
section
variable {w wx wy : World} {h k : Nat} {T : ByteArray} {cv dv lv : Value} {ok : Nat → Prop} {L : List V}
theorem TW.lvb (H : TW w wx h k T cv dv lv ok L) : ∀ g, lv.ownBlock = some g → h + 2 ≤ g ∧ g < wx.heap.size := fun g hg => by obtain ⟨xs, ho, _⟩ := H.ol; exact ho.lt g hg
theorem TW.call (H : TW w wx h k T cv dv lv ok L) (hb : Below wx.heap.size wx wy) : TW w wy h k T cv dv lv ok L where
  below := below_tr H.below hb
  hh := H.hh
  sz := Nat.le_trans H.sz hb.size
  b1 := by rw [hb.block _ (by have := H.sz; omega)]; exact H.b1
  b2 := by rw [hb.block _ (by have := H.sz; omega)]; exact H.b2
  ol := by
    obtain ⟨xs, h1, h2⟩ := H.ol
    refine ⟨xs, own_on h1 fun g hg => hb.block g (H.lvb g hg).2, fun i x hx => ?_⟩
    obtain ⟨a, b, c, d, e0, e1, e2, e3, hv⟩ := h2 i x hx
    exact ⟨a, b, c, d, e0, e1, e2, e3, hv.on hb⟩
  okb := fun g hg => by obtain ⟨a, b, c⟩ := H.okb g hg; exact ⟨a, Nat.lt_of_lt_of_le b hb.size, c⟩
theorem TW.more (H : TW w wx h k T cv dv lv ok L) {ok' : Nat → Prop} (h1 : ∀ g, ok g → ok' g) (h2 : ∀ g, ok' g → h + 2 ≤ g ∧ g < wx.heap.size ∧ lv.ownBlock ≠ some g) : TW w wx h k T cv dv lv ok' L :=
  { H with
    ol := by
      obtain ⟨xs, o1, o2⟩ := H.ol
      refine ⟨xs, o1, fun i x hx => ?_⟩
      obtain ⟨a, b, c, d, e0, e1, e2, e3, hv⟩ := o2 i x hx
      exact ⟨a, b, c, d, e0, e1, e2, e3, hv.to fun g _ => h1 g⟩
    okb := h2 }
/-- Blocks far from the row that grows. -/
theorem TW.old (_H : TW w wx h k T cv dv lv ok L) {o : Obj} {w2 : World} (hg2 : (wx.alloc o).grownBy w2 lv.ownBlock) {g : Nat} (hg : g < wx.heap.size) (hk : lv.ownBlock ≠ some g) : w2.heap[g]? = wx.heap[g]? := by
  have hs0 : (wx.alloc o).heap.size = wx.heap.size + 1 := by show (wx.heap.push o).size = _; rw [Array.size_push]
  rw [hg2.block g (by omega) (fun e => hk e.symm)]
  show (wx.heap.push o)[g]? = _
  rw [Array.getElem?_push_lt hg, Array.getElem?_eq_getElem hg]
theorem TW.val (H : TW w wx h k T cv dv lv ok L) {o : Obj} {w2 : World} {lv2 a b c d : Value} {x : V} {n : Nat} {xs : List Value} (hn : n = L.length) (hx : wx.ownsRow (h + 2) 26 4 lv n xs)
    (he : ∀ (i : Nat) (x : V), L[i]? = some x → ∃ a b c d, xs[i * 4]? = some a ∧ xs[i * 4 + 1]? = some b ∧ xs[i * 4 + 2]? = some c ∧ xs[i * 4 + 3]? = some d ∧ Vt wx ok (.agg #[a, b, c, d]) x)
    (own2 : w2.ownsRow (h + 2) 26 4 lv2 (n + 1) (xs ++ [a, b, c, d])) (hv : Vt wx ok (.agg #[a, b, c, d]) x) (hg2 : (wx.alloc o).grownBy w2 lv.ownBlock) (hb2 : lv2.ownBlock = lv.ownBlock ∨ lv2.ownBlock = some (wx.alloc o).heap.size) :
    TW w w2 h k T cv dv lv2 ok (L ++ [x]) := by
  have hs0 : (wx.alloc o).heap.size = wx.heap.size + 1 := by show (wx.heap.push o).size = _; rw [Array.size_push]
  have hsz := H.sz
  have hlv : ∀ g, lv.ownBlock = some g → h + 2 ≤ g ∧ g < wx.heap.size := H.lvb
  have lo : ∀ g, g < h + 2 → lv.ownBlock ≠ some g := fun g hg e => by have := (hlv g e).1; omega
  have hsz2 : wx.heap.size ≤ w2.heap.size := by have := hg2.size; omega
  have kp : ∀ g, ok g → g < wx.heap.size → w2.heap[g]? = wx.heap[g]? := fun g hg hlt => H.old hg2 hlt (H.okb g hg).2.2
  refine ⟨Below.grown (H.below.alloc (by have := H.hh; omega) o) hg2 (by have := H.hh; omega) fun g hg => by have := (hlv g hg).1; have := H.hh; omega, H.hh, by omega, by rw [H.old hg2 (by omega) (lo _ (by omega))]; exact H.b1, by rw [H.old hg2 (by omega) (lo _ (by omega))]; exact H.b2, ?_, ?_⟩
  · subst hn
    refine ⟨xs ++ [a, b, c, d], by rw [List.length_append]; exact own2, fun i y hy => ?_⟩
    rcases Nat.lt_or_ge i L.length with hi | hi
    · rw [List.getElem?_append_left hi] at hy
      obtain ⟨p, q, r, s, h0, h1, h2, h3, hm⟩ := he i y hy
      have hl := hx.1
      exact ⟨p, q, r, s, by rw [List.getElem?_append_left (by omega)]; exact h0, by rw [List.getElem?_append_left (by omega)]; exact h1, by rw [List.getElem?_append_left (by omega)]; exact h2, by rw [List.getElem?_append_left (by omega)]; exact h3, hm.keep kp hsz2⟩
    · have hi2 : i = L.length := by
        have := (List.getElem?_eq_some_iff.1 hy).1
        simp at this; omega
      subst hi2
      rw [List.getElem?_append_right (by omega), Nat.sub_self] at hy
      obtain rfl : x = y := by simpa using hy
      have hl := hx.1
      exact ⟨a, b, c, d, by rw [List.getElem?_append_right (by omega), hl, Nat.sub_self]; rfl, by rw [List.getElem?_append_right (by omega), hl, Nat.add_sub_cancel_left]; rfl, by rw [List.getElem?_append_right (by omega), hl, Nat.add_sub_cancel_left]; rfl, by rw [List.getElem?_append_right (by omega), hl, Nat.add_sub_cancel_left]; rfl, hv.keep kp hsz2⟩
  · intro g hg
    obtain ⟨a1, b1, c1⟩ := H.okb g hg
    refine ⟨a1, by omega, ?_⟩
    rcases hb2 with e | e
    · rw [e]; exact c1
    · rw [e]; intro e2; injection e2 with e2; omega
end
/-- A twin, midway, and its row of keys with the mark behind them. -/
structure TK (w wx : World) (h k : Nat) (T : ByteArray) (cv dv lv : Value) (ok : Nat → Prop) (L : List V) (gk ck : Nat) (ks : List Bs) : Prop where
  tw : TW w wx h k T cv dv lv ok L
  cp : ks.length < ck ∧ ck ≤ maxLen
  lo : h + 2 ≤ gk ∧ gk < wx.heap.size ∧ lv.ownBlock ≠ some gk
  el : ∀ i s, ks[i]? = some s → wx.cell? ⟨gk, i, none⟩ = some (.string (txt s))
  mark : wx.cell? ⟨gk, ks.length, none⟩ = some (.string (txt mrk))
theorem TK.of {w wr w6 : World} {h k : Nat} {T : ByteArray} {cv dv lv : Value} {ok : Nat → Prop} {L : List V} {g m c : Nat} {ks : List Bs} (H : TW w wr h k T cv dv lv ok L) (hb : Below wr.heap.size wr w6)
    (own6 : w6.ownsRow wr.heap.size 9 1 (.slice (some ⟨g, 0, none⟩) (m + 1) c) (m + 1) ((ks.map fun t => .string (txt t)) ++ [.string (txt mrk)])) (hm : m = ks.length) : TK w w6 h k T cv dv lv ok L g c ks := by
  subst hm
  obtain ⟨A, c', e, h1, h2, _⟩ := own_shape own6
  injection e with _ _ e3
  obtain ⟨g', e4, hg1, hg2, hc⟩ := own_cells own6 (by omega)
  injection e4 with e4; injection e4 with e4 _ _
  subst e3 e4
  refine ⟨H.call hb, ⟨by omega, h2⟩, ⟨by have := H.sz; omega, hg2, fun e => by have := H.lvb _ e; omega⟩, fun i s hs => ?_, ?_⟩
  · refine hc i _ ?_
    have hi := (List.getElem?_eq_some_iff.1 hs).1
    rw [List.getElem?_append_left (by rw [List.length_map]; exact hi), List.getElem?_map, hs]; rfl
  · refine hc ks.length _ ?_
    rw [List.getElem?_append_right (by rw [List.length_map]; exact Nat.le_refl _), List.length_map, Nat.sub_self]; rfl
/-- Keys put behind nothing, in a region that draws. -/
theorem step_keys {ops : Array Oper} {o : Oper} {a : Act} {W : World} {K : Act → World → Prop} {Q : Exit → Act → World → Prop} {E : Prop} (hgd : o.guard = none) (s x : Operand)
    (ho : o.op = .call { callee := .builtin .append, args := #[s, x], argTypes := #[24, 24] })
    {i9 : TypeInfo} (hi9 : Tryz.prog.info? 9 = some i9) (y0 : i9.zero = some (.string ⟨#[]⟩)) (y1 : i9.size = 1) (y2 : i9.bytes = 16)
    (q base m cc : Nat) (hs : a.eval s = .slice (some ⟨q, 0, none⟩) 0 cc) (hown : W.ownsRow base 9 1 (.slice (some ⟨q, 0, none⟩) 0 cc) 0 []) (B : Option Addr) (d : Nat) (ks : List Bs)
    (hx : a.eval x = .slice B m d) (hm : m = ks.length) (hK : Tx W B ks) (hB : B = none → d = 0) (hm5 : m ≤ 1000000) (hbase : base ≤ W.heap.size)
    (h : ∀ A5 c5 w5, w5.ownsRow base 9 1 (.slice A5 m c5) m (ks.map fun t => .string (txt t)) → W.grownBy w5 (some q) → K (a.put o.dst (.slice A5 m c5)) w5) :
    if Region.wanted o (yielded ops a.tmps) = true then Oper.wp Tryz.prog o a W K Q else E := by
  have hw : Region.wanted o (yielded ops a.tmps) = true := by simp [Region.wanted, hgd]
  rw [if_pos hw]
  cases B with
  | some ad =>
    have hnews : ∀ (j : Nat) (u : Value), (ks.map fun t => Value.string (txt t))[j]? = some u → W.cell? (ad.add j) = some u := fun j u hu => by
      have hj : j < ks.length := by have := (List.getElem?_eq_some_iff.1 hu).1; simpa using this
      obtain ⟨g, o', e, _, hf⟩ := hK (by omega)
      injection e with e
      subst e
      rw [List.getElem?_map] at hu
      obtain ⟨t, ht, rfl⟩ := Option.map_eq_some_iff.1 hu
      have e : (⟨g, o', none⟩ : Addr).add j = ⟨g, o' + j, none⟩ := by unfold Addr.add; split <;> simp_all
      rw [e]; exact hf j t ht
    obtain ⟨v', w', hrun, r1, r2, _, r3⟩ := run_append_own_at (P := Tryz.prog) W base 24 o.type 9 i9 _ 1 16 Tryz.underlying24 hi9 y0 y1 y2 rfl (by decide) _ 0 [] hown ad m d (ks.map fun t => .string (txt t)) (by simp [hm]) hnews (fun u hu => by
      obtain ⟨t, _, rfl⟩ := List.mem_map.1 hu; rfl) (by unfold maxLen; omega) (by omega) hbase
    rw [Nat.zero_add, List.nil_append] at r1
    obtain ⟨A5, c5, rfl, _⟩ := own_shape r1
    unfold Oper.wp
    simp [execOp, ho, resolve, invoke, builtin, hs, hx, hrun, Result.andThen]
    exact h A5 c5 w' r1 r2
  | none =>
    obtain rfl := hB rfl
    have hm0 : ks = [] := by
      cases ks with
      | nil => rfl
      | cons t r => obtain ⟨_, _, e, _⟩ := hK (by simp); cases e
    subst hm0
    obtain rfl : m = 0 := hm
    have hrun := run_append_owned_none (P := Tryz.prog) W base 24 o.type 9 i9 1 Tryz.underlying24 hi9 _ 0 [] hown
    unfold Oper.wp
    simp [execOp, ho, resolve, invoke, builtin, hs, hx, hrun, Result.andThen]
    exact h _ _ W hown (World.grownBy.refl _ _)
theorem cell_one {w : World} {g : Nat} {u : Value} (h : w.cell? ⟨g, 0, none⟩ = some u) : ∀ (j : Nat) (x : Value), [u][j]? = some x → w.cell? ((⟨g, 0, none⟩ : Addr).add j) = some x := fun j x hx => by
  rw [addAt]
  cases j with
  | zero => obtain rfl : u = x := by simpa using hx
            exact h
  | succ j => simp at hx
theorem own_cap {w : World} {base : Nat} {e : TypeId} {s : Nat} {A : Option Addr} {n c : Nat} {xs : List Value} (h : w.ownsRow base e s (.slice A n c) n xs) : n ≤ c := by
  obtain ⟨A', c', e1, h1, _⟩ := own_shape h
  injection e1 with _ _ e2
  omega
theorem store4 {w : World} {b : Nat} {x y z u : Value} (p q r s : Value) (h : w.heap[b]? = some (vO x y z u)) : ((((w.setCell ⟨b, 0, none⟩ p).setCell ⟨b, 1, none⟩ q).setCell ⟨b, 2, none⟩ r).setCell ⟨b, 3, none⟩ s).heap[b]? = some (vO p q r s) := by
  have h1 : (w.setCell ⟨b, 0, none⟩ p).heap[b]? = some (vO p y z u) := Go.heap_setCell_same w b 0 _ _ p h
  have h2 : ((w.setCell ⟨b, 0, none⟩ p).setCell ⟨b, 1, none⟩ q).heap[b]? = some (vO p q z u) := Go.heap_setCell_same _ b 1 _ _ q h1
  have h3 : (((w.setCell ⟨b, 0, none⟩ p).setCell ⟨b, 1, none⟩ q).setCell ⟨b, 2, none⟩ r).heap[b]? = some (vO p q r u) := Go.heap_setCell_same _ b 2 _ _ r h2
  exact Go.heap_setCell_same _ b 3 _ _ s h3
theorem TK.fin {w wc w6 W9 : World} {h k : Nat} {T : ByteArray} {cv dv lv : Value} {ok : Nat → Prop} {l : List V} {gk ck g6 c6 n : Nat} {ks : List Bs} {xs : List Value} {o : Obj} {z s1 s2 : Value} {t : Bs} (H : TK w wc h k T cv dv lv ok l gk ck ks)
    (hx : wc.ownsRow (h + 2) 26 4 lv n xs) (hn : n = l.length)
    (he : ∀ (i : Nat) (x : V), l[i]? = some x → ∃ a b c d, xs[i * 4]? = some a ∧ xs[i * 4 + 1]? = some b ∧ xs[i * 4 + 2]? = some c ∧ xs[i * 4 + 3]? = some d ∧ Vt wc ok (.agg #[a, b, c, d]) x)
    (hg6 : (wc.alloc o).grownBy w6 lv.ownBlock) (own6 : w6.ownsRow (h + 2) 26 4 (.slice (some ⟨g6, 0, none⟩) (n + 1) c6) (n + 1) (xs ++ [z, .string (txt mrk), s1, s2]))
    (o0 : ∀ g, g ≠ h + 1 → W9.heap[g]? = w6.heap[g]?) (o2 : W9.heap.size = w6.heap.size) (hk : k < 256) (hT : T = txt t) :
    Vt W9 (fun g => w.heap.size ≤ g) (.agg #[.int .u8 k, .string T, .slice (some ⟨g6, 0, none⟩) n c6, .slice (some ⟨gk, 0, none⟩) ks.length ck]) (.mk k t l ks) := by
  subst hn hT
  have hh := H.tw.hh
  obtain ⟨A, c', e, h1, h2, _⟩ := own_shape own6
  injection e with _ _ e3
  obtain ⟨g', e4, hg1, hg2, hc⟩ := own_cells own6 (by omega)
  injection e4 with e4; injection e4 with e4 _ _
  subst e3 e4
  have hs0 : (wc.alloc o).heap.size = wc.heap.size + 1 := by show (wc.heap.push o).size = _; rw [Array.size_push]
  have hsz : wc.heap.size ≤ w6.heap.size := by have := hg6.size; omega
  have kp : ∀ g, g < wc.heap.size → lv.ownBlock ≠ some g → h + 2 ≤ g → W9.heap[g]? = wc.heap[g]? := fun g hg hl h2 => by
    rw [o0 g (by omega), H.tw.old hg6 hg hl]
  have hx1 := hx.1
  have cell : ∀ (j : Nat) (u : Value), (xs ++ [z, .string (txt mrk), s1, s2])[j]? = some u → W9.cell? ⟨g6, j, none⟩ = some u := fun j u hu => cell_eq (o0 g6 (by omega)) (hc j u hu)
  refine .mk k t l ks g6 0 gk 0 c6 ck (fun i j => xs.getD (i * 4 + j) z) hk (by omega) h2 H.cp.1 H.cp.2 (by omega) (by have := H.lo.2.1; omega) (by show w.heap.size ≤ g6; omega) (by show w.heap.size ≤ gk; have := H.lo.1; omega) (fun i s hs => ?_) ?_ (fun i hi j hj => ?_) ?_ (fun i x hi => ?_)
  · rw [Nat.zero_add]
    exact cell_eq (kp gk H.lo.2.1 H.lo.2.2 H.lo.1) (H.el i s hs)
  · rw [Nat.zero_add]
    exact cell_eq (kp gk H.lo.2.1 H.lo.2.2 H.lo.1) H.mark
  · rw [Nat.zero_add]
    have hlt : i * 4 + j < xs.length := by rw [hx1]; omega
    refine cell _ _ ?_
    rw [List.getElem?_append_left hlt, List.getD_eq_getElem?_getD, List.getElem?_eq_getElem hlt]; rfl
  · rw [Nat.zero_add]
    refine cell _ _ ?_
    rw [List.getElem?_append_right (by omega), hx1]
    have e : l.length * 4 + 1 - l.length * 4 = 1 := by omega
    rw [e]; rfl
  · obtain ⟨a, b, c, d, e0, e1, e2, e3, hv⟩ := he i x hi
    have e : ∀ {j : Nat} {y : Value}, xs[i * 4 + j]? = some y → xs.getD (i * 4 + j) z = y := fun h => by rw [List.getD_eq_getElem?_getD, h]; rfl
    show Vt W9 _ (.agg #[xs.getD (i * 4 + 0) z, xs.getD (i * 4 + 1) z, xs.getD (i * 4 + 2) z, xs.getD (i * 4 + 3) z]) x
    rw [e (j := 0) e0, e e1, e e2, e e3]
    refine (hv.keep (fun g hg hlt => ?_) (by omega)).to fun g _ hg => ?_
    · have := H.tw.okb g hg
      exact kp g hlt this.2.2 this.1
    · have := (H.tw.okb g hg).1; omega
theorem own_cast2 {w : World} {base : Nat} {e : TypeId} {s : Nat} {v : Value} {n m : Nat} {xs : List Value} (h : w.ownsRow base e s v n xs) (hn : n = m) : w.ownsRow base e s v m xs := hn ▸ h
theorem Vt.shape {w : World} {ok : Nat → Prop} {u : Value} {x : V} (h : Vt w ok u x) : ∃ (k : Nat) (t : ByteArray) (A B : Option Addr) (n c m d : Nat), u = .agg #[.int .u8 k, .string t, .slice A n c, .slice B m d] := by
  cases h with
  | mk => exact ⟨_, _, _, _, _, _, _, _, rfl⟩
theorem four_cells (w : World) (t : TypeId) (a b c d : Value) : ∀ j x, [a, b, c, d][j]? = some x → (w.alloc (.cells #[a, b, c, d] t)).cell? ((⟨w.heap.size, 0, none⟩ : Addr).add j) = some x := fun j x h => by
  rw [addAt, World.cell?_alloc_at _ _ _ _ rfl]
  rcases j with _ | _ | _ | _ | j <;> first | (simp at h; done) | simpa using h
set_option maxHeartbeats 16000000 in
set_option maxRecDepth 100000 in
theorem twin_any : ∀ (N : Nat) (x : V), wt x ≤ N → N ≤ 1000000 → ∀ (w : World) (v : Value), Vm w v x →
    Calls Tryz.prog 7 #[v] w fun e w' => (∃ u, e = .returned u ∧ Vt w' (fun g => w.heap.size ≤ g) u x) ∧ Below w.heap.size w w'
  | 0, x, hx, _, _, _, _ => by have := wt_pos x; omega
  | N + 1, .mk k t l ks, hx, hN, w, v, hv => by
    obtain ⟨A, B, c, d, rfl, hk, hl, hc, hA, hd, hd2, hB, hK, hV⟩ := hv.inv
    have IH := Lib.hid (fun (i : Nat) (x : V) (hi : l[i]? = some x) (w : World) (v : Value) (h : Vm w v x) => twin_any N x (by have := wt_sub (k := k) (t := t) (ks := ks) hi; omega) (by omega) w v h)
    obtain ⟨i1, hi1, hz0, hz1, hz2⟩ := info_parts (show (Tryz.prog.info? 26).map (fun i => (i.zero, i.size, i.bytes)) = some (some (.agg #[.int .u8 0, .string ⟨#[]⟩, .slice none 0 0, .slice none 0 0]), 4, 72) by kernel_rfl)
    obtain ⟨i9, hi9, y0, y1, y2⟩ := info_parts (show (Tryz.prog.info? 9).map (fun i => (i.zero, i.size, i.bytes)) = some (some (.string ⟨#[]⟩), 1, 16) by kernel_rfl)
    obtain ⟨T, hT⟩ : ∃ T, T = txt t := ⟨_, rfl⟩
    obtain ⟨n, HN⟩ : ∃ n, Hid (n = l.length) := ⟨_, Lib.hid rfl⟩
    obtain ⟨m, HM⟩ : ∃ m, Hid (m = ks.length) := ⟨_, Lib.hid rfl⟩
    rw [← HN.out, ← HM.out, ← hT]
    rw [← HN.out] at hl
    rw [← HM.out] at hd
    have hn5 : n ≤ 1000000 := by rw [HN.out]; have := wtL_len l; rw [wt] at hx; omega
    have hm5 : m ≤ 1000000 := by rw [HM.out]; rw [wt] at hx; omega
    have HTX := Lib.hid hT
    have HV1 := Lib.hid hV
    have HK1 := Lib.hid hK
    have HKK := Lib.hid hk
    clear hT hK hV hx hN hv hk
    go_enter Tryz.func7, Tryz.ntmps7
    go_upto_region 1 with fail
    obtain ⟨W2, hW2⟩ : ∃ W, W = (w.alloc (vO (.int .u8 k) (.string T) (.slice A n c) (.slice B m d))).alloc (vO (.int .u8 0) (.string ⟨#[]⟩) (.slice none 0 0) (.slice none 0 0)) := ⟨_, rfl⟩
    rw [← hW2]
    obtain ⟨h, hh⟩ : ∃ h, h = w.heap.size := ⟨_, rfl⟩
    have s1 : ∀ (W : World) (o : Obj), (W.alloc o).heap.size = W.heap.size + 1 := fun W o => by show (W.heap.push o).size = _; rw [Array.size_push]
    have o1 : ∀ (W : World) (o : Obj) (g : Nat), g < W.heap.size → (W.alloc o).heap[g]? = W.heap[g]? := fun W o g hg => by show (W.heap.push o)[g]? = _; rw [Array.getElem?_push_lt hg, Array.getElem?_eq_getElem hg]
    have HS0 := Lib.hid (show W2.heap.size = h + 2 from by rw [hW2, s1, s1, hh])
    have HQ1 := Lib.hid (show W2.heap[h]? = some (vO (.int .u8 k) (.string T) (.slice A n c) (.slice B m d)) from by
      rw [hh, hW2, o1 _ _ _ (by rw [s1]; omega)]; exact heap_alloc_new ..)
    have HQ2 := Lib.hid (show W2.heap[h + 1]? = some (vO (.int .u8 0) (.string ⟨#[]⟩) (.slice none 0 0) (.slice none 0 0)) from by
      have := heap_alloc_new (w.alloc (vO (.int .u8 k) (.string T) (.slice A n c) (.slice B m d))) (vO (.int .u8 0) (.string ⟨#[]⟩) (.slice none 0 0) (.slice none 0 0))
      rw [s1] at this; rw [hh, hW2]; exact this)
    have HQ3 := Lib.hid (show Below w.heap.size w W2 from by rw [hW2]; exact (Below.refl _ _).alloc (Nat.le_refl _) _ |>.alloc (by rw [s1]; omega) _)
    rw [← hh]
    have HH := Lib.hid hh
    clear hW2 hh s1 o1
    have x2 : W2.cell? ⟨h, 2, none⟩ = some (.slice A n c) := by simp [World.cell?, HQ1.out]
    go_wp2_with (at_make; refine wpList_make_own _ rfl _ _ 23 rfl (h + 2) 26 i1 (.agg #[.int .u8 0, .string ⟨#[]⟩, .slice none 0 0, .slice none 0 0]) 4 Tryz.underlying23 hi1 hz0 hz1 .i64 .i64 _ (n + 1) rfl rfl rfl (by rw [hz2]; omega) (by unfold maxLen; omega) (Nat.le_of_eq HS0.out.symm) ?_; intro w3 own3 hg3)
    have hsz3 := hg3.size
    have HTW := Lib.hid (show TW w w3 h k T (.slice A n c) (.slice B m d) (.slice (some ⟨W2.heap.size, 0, none⟩) 0 (n + 1)) (fun _ => False) [] from
      ⟨HQ3.out.grown hg3 HQ3.out.size (fun g e => by cases e), HH.out, by rw [← HS0.out]; exact hsz3, by rw [hg3.block _ (by rw [HS0.out]; omega) (fun e => by cases e)]; exact HQ1.out, by rw [hg3.block _ (by rw [HS0.out]; omega) (fun e => by cases e)]; exact HQ2.out, ⟨[], own3, fun i x h => by simp at h⟩, fun g h => h.elim⟩)
    clear own3 hg3 hsz3 x2
    go_loopw [3, 4] (fun a b wx => ∃ i : Nat, i ≤ n ∧ b = .int .i64 i ∧ ∃ ok : Nat → Prop, Hid (TW w wx h k T (.slice A n c) (.slice B m d) a ok (l.take i))) (fun _ b _ => n - (intOf b).toNat)
    case atStart => exact ⟨0, Nat.zero_le _, rfl, _, Lib.hid (by rw [List.take_zero]; exact HTW.out)⟩
    case round =>
      obtain ⟨i, hi, rfl, ok, HT⟩ := hrel
      have b2 : wr.cell? ⟨h, 2, none⟩ = some (.slice A n c) := by simp [World.cell?, HT.out.b1]
      by_cases hlt : i < n
      · obtain ⟨x, hx⟩ := get_lt (l := l) (i := i) (by rw [← HN.out]; exact hlt)
        have HX := Lib.hid hx
        have hlen : (l.take i).length = i := by rw [List.length_take, ← HN.out]; omega
        have HLEN := Lib.hid hlen
        obtain ⟨g, o, rfl, hg, hf⟩ := HV1.out (by rw [← HN.out]; omega)
        obtain ⟨v0, v1, v2, v3, d0, d1, d2, d3, hvm⟩ := hf i x hx
        have hold : ∀ p v, p.block < w.heap.size → w.cell? p = some v → wr.cell? p = some v := fun p v hp hc => by rw [HT.out.below.cell hp]; exact hc
        have c0 := hold _ _ hg d0
        have c1 := hold _ _ hg d1
        have c2 := hold _ _ hg d2
        have c3 := hold _ _ hg d3
        have CI := Lib.hid (IH.out i x hx wr _ (hvm.on HT.out.below))
        obtain ⟨lv, hlv⟩ : ∃ lv, lv = u3 := ⟨_, rfl⟩
        clear hx d0 d1 d2 d3 hvm hf hold hlen hg
        go_wp2_with fail
        refine CI.out.mono ?_
        rintro e w5 ⟨⟨u, rfl, hu⟩, hb5⟩
        obtain ⟨uk, ut, uA, uB, un, uc, um, ud, rfl⟩ := hu.shape
        have H5 := Lib.hid (show TW w w5 h k T (.slice (some ⟨g, o, none⟩) n c) (.slice B m d) u3 (fun g => ok g ∨ wr.heap.size ≤ g ∧ g < w5.heap.size) (l.take i) ∧ Vt w5 (fun g => ok g ∨ wr.heap.size ≤ g ∧ g < w5.heap.size) (.agg #[.int .u8 uk, .string ut, .slice uA un uc, .slice uB um ud]) x from
          ⟨(HT.out.call hb5).more (fun g h => .inl h) (fun g hg => by
            rcases hg with hg | ⟨h1, h2⟩
            · have := HT.out.okb g hg; exact ⟨this.1, Nat.lt_of_lt_of_le this.2.1 hb5.size, this.2.2⟩
            · exact ⟨by have := HT.out.sz; omega, h2, fun e => by have := HT.out.lvb g e; omega⟩),
          hu.to fun g h1 h2 => .inr ⟨h2, h1⟩⟩)
        obtain ⟨xs, hxs, hel⟩ := H5.out.1.ol
        have HXS := Lib.hid (own_cast2 hxs HLEN.out)
        have HEL := Lib.hid hel
        have HB5 := Lib.hid (show h + 2 ≤ w5.heap.size from H5.out.1.sz)
        clear hu hb5 hxs hel c0 c1 c2 c3 b2 CI
        go_wp2_with (at_builtin; refine wpAppV _ rfl (.tmp 18) (.tmp 25) 23 rfl (h + 2) 26 i1 (.agg #[.int .u8 0, .string ⟨#[]⟩, .slice none 0 0, .slice none 0 0]) 4 72 Tryz.underlying23 hi1 hz0 hz1 hz2 rfl (by decide) u3 i xs rfl (HXS.out.alloc _) ⟨w5.heap.size, 0, none⟩ 1 1 [.int .u8 uk, .string ut, .slice uA un uc, .slice uB um ud] rfl rfl (four_cells _ _ _ _ _ _) (fun u hu => by simp at hu; rcases hu with rfl | rfl | rfl | rfl <;> rfl) (by unfold maxLen; omega) (by omega) (by have := HB5.out; show h + 2 ≤ (w5.heap.push _).size; rw [Array.size_push]; omega) ?_; intro lv4 w4 own4 hg4 hb4)
        have HN4 := Lib.hid (H5.out.1.val (n := i) HLEN.out.symm HXS.out HEL.out own4 H5.out.2 hg4 hb4)
        clear own4 hg4 hb4
        go_roundw
        case rel => exact ⟨i + 1, by omega, by go_num, _, Lib.hid (by rw [List.take_add_one, HX.out]; exact HN4.out)⟩
        case measure => simp [intOf]; omega
      · obtain rfl : i = n := by omega
        have HT2 := Lib.hid (show TW w wr h k T (.slice A i c) (.slice B m d) u3 ok l from by have := HT.out; rwa [List.take_of_length_le (by rw [← HN.out]; omega)] at this)
        obtain ⟨xs, hxs, hel⟩ := HT2.out.ol
        obtain ⟨lA, lc, elv, _⟩ := own_shape hxs
        clear hxs hel
        subst elv
        go_upto_region 6 with fail
        have HTd := Lib.hid (HT2.out.call (Below.refl _ _).drew)
        have b3 : wr.cell? ⟨h, 3, none⟩ = some (.slice B m d) := by simp [World.cell?, HT.out.b1]
        have hsz2 : h + 2 ≤ wr.heap.size := HT2.out.sz
        have s1 : ∀ (W : World) (o : Obj), (W.alloc o).heap.size = W.heap.size + 1 := fun W o => by show (W.heap.push o).size = _; rw [Array.size_push]
        have b4 : ∀ o, (wr.alloc o).cell? ⟨h, 3, none⟩ = some (.slice B m d) := fun o => by rw [World.cell?_alloc_lt _ _ _ (by show h < wr.heap.size; omega)]; exact b3
        have b5 : ∀ o p, ((wr.alloc o).alloc p).cell? ⟨h, 3, none⟩ = some (.slice B m d) := fun o p => by rw [World.cell?_alloc_lt _ _ _ (by show h < (wr.alloc o).heap.size; rw [s1]; omega)]; exact b4 o
        have HBL := Lib.hid (HT2.out.below)
        have HTXK := Lib.hid (fun W (hW : Below wr.heap.size wr W) => HK1.out.on (below_tr HBL.out hW))
        obtain ⟨O, HO⟩ : ∃ O, Hid (O = Obj.cells (madeCells #[.string ⟨#[]⟩] ((m + 1) * 1)) 9) := ⟨_, Lib.hid rfl⟩
        have HMK : ∀ w', (Instr.makeSlice 24 (.int .i64 0) (.int .i64 ((m : Int) + 1))).run Tryz.prog w' = .ok (.slice (some ⟨w'.heap.size, 0, none⟩) 0 (m + 1)) (w'.alloc O) := fun w' => by
          have := run_make (P := Tryz.prog) w' 24 9 i9 _ Tryz.underlying24 hi9 y0 .i64 .i64 0 ((m : Int) + 1) (by omega) (by omega) (by rw [y2]; omega) (by omega)
          rw [this, y1, HO.out]
          have e : ((m : Int) + 1).toNat = m + 1 := by omega
          rw [e]; rfl
        have hwr : IntKind.i64.wrap ((m : Int) + 1) = (m : Int) + 1 := by rw [IntKind.wrap_i64]; omega
        have hm1 : (0 : Int) ≤ (m : Int) + 1 := by omega
        go_cut [5] from 27 to 40 (fun a wx => ∃ gk ck, a = .slice (some ⟨gk, 0, none⟩) m ck ∧ Hid (TK w wx h k T (.slice A i c) (.slice B m d) (.slice lA l.length lc) ok l gk ck ks))
        case first =>
          have OWN := Lib.hid (fun (W : World) (hW : wr.heap.size ≤ W.heap.size) => show (W.alloc O).drew.ownsRow wr.heap.size 9 1 (.slice (some ⟨W.heap.size, 0, none⟩) 0 (m + 1)) 0 [] from by
            have := World.ownsRow_made (base := wr.heap.size) (e := 9) (size := 1) W (madeCells #[.string ⟨#[]⟩] ((m + 1) * 1)) (m + 1) hW (by unfold maxLen; omega) (by rw [size_madeCells])
            rw [← HO.out] at this; exact this)
          have BA := Lib.hid (fun (W : World) (o : Obj) (hb : Below wr.heap.size wr W) => show Below wr.heap.size wr (W.alloc o) from hb.alloc hb.size o)
          have B0 := Lib.hid (Below.refl wr.heap.size wr)
          clear hd hd2 HT HTd
          obtain ⟨M, HMM⟩ : ∃ M, Hid (M = Obj.cells #[.string ⟨#[109, 97, 114, 107]⟩] 9) := ⟨_, Lib.hid rfl⟩
          have OWN3 := Lib.hid (show ((wr.alloc M).alloc O).drew.ownsRow wr.heap.size 9 1 (.slice (some ⟨wr.heap.size + 1, 0, none⟩) 0 (m + 1)) 0 [] from by have := OWN.out (wr.alloc M) (by rw [s1]; omega); rw [s1] at this; exact this)
          have CM2 := Lib.hid (show ((wr.alloc O).alloc M).drew.cell? ⟨wr.heap.size + 1, 0, none⟩ = some (.string (txt mrk)) from by
            show ((wr.alloc O).alloc M).cell? _ = _
            rw [HMM.out, World.cell?_alloc_at _ _ _ _ (by rw [s1])]; rfl)
          have CM3 := Lib.hid (show ((wr.alloc M).alloc O).drew.cell? ⟨wr.heap.size, 0, none⟩ = some (.string (txt mrk)) from by
            show ((wr.alloc M).alloc O).cell? _ = _
            rw [World.cell?_alloc_lt _ _ _ (by show wr.heap.size < (wr.alloc M).heap.size; rw [s1]; omega), HMM.out, World.cell?_alloc_at _ _ _ _ rfl]; rfl)
          have OWN2 := Lib.hid (show ((wr.alloc O).alloc M).drew.ownsRow wr.heap.size 9 1 (.slice (some ⟨wr.heap.size, 0, none⟩) 0 (m + 1)) 0 [] from World.ownsRow.alloc (w := wr.alloc O) (OWN.out wr (Nat.le_refl _)) M)
          rw [HMM.out] at OWN2 OWN3 CM2 CM3
          go_region_held_law (fun w' => w'.cell? ⟨h, 3, none⟩ = some (.slice B m d)) (first | exact b3 | exact b4 _ | exact b5 _ _ | exact d5 | exact d6 _ | exact e6) (first
            | (refine step_keys rfl (.tmp 31) (.tmp 33) rfl hi9 y0 y1 y2 wr.heap.size wr.heap.size m (m + 1) (by simp [Act.eval]) (OWN.out wr (Nat.le_refl _)) B d ks (by simp [Act.eval]) HM.out (HTXK.out _ (BA.out _ O B0.out).drew) hB (by omega) (by show wr.heap.size ≤ (wr.alloc _).heap.size; rw [s1]; omega) ?_; intro A5 c5 w5 own5 hg5; have hb5 := Lib.hid (show Below wr.heap.size wr w5 from (BA.out _ O B0.out).drew.grown hg5 (by show wr.heap.size ≤ (wr.alloc _).heap.size; rw [s1]; omega) (fun g e => by injection e with e; omega)); have d5 := (hb5.out.cell (p := ⟨h, 3, none⟩) (by show h < wr.heap.size; omega)).trans b3; have d6 := fun o => (World.cell?_alloc_lt w5 o ⟨h, 3, none⟩ (by have := hb5.out.size; show h < w5.heap.size; omega)).trans d5)
            | (refine step_keys rfl (.tmp 31) (.tmp 33) rfl hi9 y0 y1 y2 wr.heap.size wr.heap.size m (m + 1) (by simp [Act.eval]) OWN2.out B d ks (by simp [Act.eval]) HM.out (HTXK.out _ (BA.out _ _ (BA.out _ O B0.out)).drew) hB (by omega) (by show wr.heap.size ≤ ((wr.alloc _).alloc _).heap.size; rw [s1, s1]; omega) ?_; intro A5 c5 w5 own5 hg5; have hb5 := Lib.hid (show Below wr.heap.size wr w5 from (BA.out _ _ (BA.out _ O B0.out)).drew.grown hg5 (by show wr.heap.size ≤ ((wr.alloc _).alloc _).heap.size; rw [s1, s1]; omega) (fun g e => by injection e with e; omega)); have d5 := (hb5.out.cell (p := ⟨h, 3, none⟩) (by show h < wr.heap.size; omega)).trans b3; have d6 := fun o => (World.cell?_alloc_lt w5 o ⟨h, 3, none⟩ (by have := hb5.out.size; show h < w5.heap.size; omega)).trans d5; have cm := Lib.hid (hg5.cell_far ⟨wr.heap.size + 1, 0, none⟩ (by show wr.heap.size + 1 < ((wr.alloc _).alloc _).heap.size; rw [s1, s1]; omega) (fun e => by have e : wr.heap.size + 1 = wr.heap.size := Option.some.inj e; omega) |>.trans (CM2.out)))
            | (refine step_keys rfl (.tmp 31) (.tmp 33) rfl hi9 y0 y1 y2 (wr.heap.size + 1) wr.heap.size m (m + 1) (by simp [Act.eval]) OWN3.out B d ks (by simp [Act.eval]) HM.out (HTXK.out _ (BA.out _ O (BA.out _ _ B0.out)).drew) hB (by omega) (by show wr.heap.size ≤ ((wr.alloc _).alloc _).heap.size; rw [s1, s1]; omega) ?_; intro A5 c5 w5 own5 hg5; have hb5 := Lib.hid (show Below wr.heap.size wr w5 from (BA.out _ O (BA.out _ _ B0.out)).drew.grown hg5 (by show wr.heap.size ≤ ((wr.alloc _).alloc _).heap.size; rw [s1, s1]; omega) (fun g e => by injection e with e; omega)); have d5 := (hb5.out.cell (p := ⟨h, 3, none⟩) (by show h < wr.heap.size; omega)).trans b3; have d6 := fun o => (World.cell?_alloc_lt w5 o ⟨h, 3, none⟩ (by have := hb5.out.size; show h < w5.heap.size; omega)).trans d5; have cm := Lib.hid (hg5.cell_far ⟨wr.heap.size, 0, none⟩ (by show wr.heap.size < ((wr.alloc _).alloc _).heap.size; rw [s1, s1]; omega) (fun e => by have e : wr.heap.size = wr.heap.size + 1 := Option.some.inj e; omega) |>.trans (CM3.out)))
            | (refine step_append_lies _ rfl (.tmp 34) (.tmp 35) 24 rfl wr.heap.size 9 i9 (.string ⟨#[]⟩) 1 16 Tryz.underlying24 hi9 y0 y1 y2 rfl (by decide) (.slice A5 m c5) m (ks.map fun t => .string (txt t)) (by simp [Act.eval]) (own5.alloc _) ⟨w5.heap.size, 0, none⟩ 1 1 [.string (txt mrk)] (by simp [Act.eval]) rfl (cell_new1 _ _ _) (fun u hu => by simp at hu; subst hu; rfl) (by omega) (by unfold maxLen; omega) (by omega) (by have := hb5.out.size; show wr.heap.size ≤ (w5.alloc _).heap.size; rw [s1]; omega) _ rfl ?_; intro g6 c6 w6 own6 hg6 hb6 hlt6; have hb7 := Lib.hid (show Below wr.heap.size wr w6 from (BA.out _ _ hb5.out).grown hg6 (by have := hb5.out.size; show wr.heap.size ≤ (w5.alloc _).heap.size; rw [s1]; omega) (fun g e => (own5.lt g e).1)); have e6 := (hb7.out.cell (p := ⟨h, 3, none⟩) (by show h < wr.heap.size; omega)).trans b3; have q6 : m ≤ c6 := Nat.le_of_succ_le (own_cap own6); have HN6 := Lib.hid (TK.of HT2.out hb7.out own6 HM.out))
            | (refine step_append_lies _ rfl (.tmp 34) (.tmp 35) 24 rfl wr.heap.size 9 i9 (.string ⟨#[]⟩) 1 16 Tryz.underlying24 hi9 y0 y1 y2 rfl (by decide) (.slice A5 m c5) m (ks.map fun t => .string (txt t)) (by simp [Act.eval, Act.put]) own5 ⟨(wr.heap.size + 1), 0, none⟩ 1 1 [.string (txt mrk)] (by simp [Act.eval, Act.put]) rfl (cell_one cm.out) (fun u hu => by simp at hu; subst hu; rfl) (by omega) (by unfold maxLen; omega) (by omega) hb5.out.size _ rfl ?_; intro g6 c6 w6 own6 hg6 hb6 hlt6; have hb7 := Lib.hid (show Below wr.heap.size wr w6 from hb5.out.grown hg6 hb5.out.size (fun g e => (own5.lt g e).1)); have e6 := (hb7.out.cell (p := ⟨h, 3, none⟩) (by show h < wr.heap.size; omega)).trans b3; have q6 : m ≤ c6 := Nat.le_of_succ_le (own_cap own6); have HN6 := Lib.hid (TK.of HT2.out hb7.out own6 HM.out))
            | (refine step_append_lies _ rfl (.tmp 34) (.tmp 35) 24 rfl wr.heap.size 9 i9 (.string ⟨#[]⟩) 1 16 Tryz.underlying24 hi9 y0 y1 y2 rfl (by decide) (.slice A5 m c5) m (ks.map fun t => .string (txt t)) (by simp [Act.eval, Act.put]) own5 ⟨wr.heap.size, 0, none⟩ 1 1 [.string (txt mrk)] (by simp [Act.eval, Act.put]) rfl (cell_one cm.out) (fun u hu => by simp at hu; subst hu; rfl) (by omega) (by unfold maxLen; omega) (by omega) hb5.out.size _ rfl ?_; intro g6 c6 w6 own6 hg6 hb6 hlt6; have hb7 := Lib.hid (show Below wr.heap.size wr w6 from hb5.out.grown hg6 hb5.out.size (fun g e => (own5.lt g e).1)); have e6 := (hb7.out.cell (p := ⟨h, 3, none⟩) (by show h < wr.heap.size; omega)).trans b3; have q6 : m ≤ c6 := Nat.le_of_succ_le (own_cap own6); have HN6 := Lib.hid (TK.of HT2.out hb7.out own6 HM.out)))
          all_goals
            simp only [List.getElem_toArray, List.getElem_cons_succ, List.getElem_cons_zero, List.setIfInBounds_toArray, List.set_cons_zero, List.set_cons_succ]
            try go_wp2_with fail
            go_meet
            exact ⟨g6, c6, rfl, HN6⟩
        case rest =>
          obtain ⟨gk, ck, rfl, HTK⟩ := hcut
          obtain ⟨xs, hxs, hel⟩ := HTK.out.tw.ol
          have HXS := Lib.hid hxs
          have HEL := Lib.hid hel
          have HLN := Lib.hid (show l.length = i from HN.out.symm)
          clear hxs hel
          rw [HLN.out] at HXS HTK ⊢
          go_upto_region 7 with fail
          have hszc : h + 2 ≤ wc.heap.size := HTK.out.tw.sz
          have b0 : wc.cell? ⟨h, 0, none⟩ = some (.int .u8 k) := by simp [World.cell?, HTK.out.tw.b1]
          have b1 : wc.cell? ⟨h, 1, none⟩ = some (.string T) := by simp [World.cell?, HTK.out.tw.b1]
          have b2 : wc.cell? ⟨h, 2, none⟩ = some (.slice A i c) := by simp [World.cell?, HTK.out.tw.b1]
          have s1 : ∀ (W : World) (o : Obj), (W.alloc o).heap.size = W.heap.size + 1 := fun W o => by show (W.heap.push o).size = _; rw [Array.size_push]
          have al : ∀ (o : Obj) (j : Nat) (v : Value), wc.cell? ⟨h, j, none⟩ = some v → (wc.alloc o).drew.cell? ⟨h, j, none⟩ = some v := fun o j v e => by
            show (wc.alloc o).cell? _ = _
            rw [World.cell?_alloc_lt _ _ _ (by show h < wc.heap.size; omega)]; exact e
          have OWNc := Lib.hid (fun o => show (wc.alloc o).drew.ownsRow (h + 2) 26 4 (.slice lA i lc) i xs from World.ownsRow.alloc HXS.out o)
          have HTWc := Lib.hid (HTK.out.tw.call (Below.refl _ _).drew)
          have BS := fun (W : World) (a b c d : Value) (j : Nat) => (((((Below.refl (h + 1) W).setCell (p := ⟨h + 1, 0, none⟩) (Nat.le_refl _) a).setCell (p := ⟨h + 1, 1, none⟩) (Nat.le_refl _) b).setCell (p := ⟨h + 1, 2, none⟩) (Nat.le_refl _) c).setCell (p := ⟨h + 1, 3, none⟩) (Nat.le_refl _) d).cell (p := ⟨h, j, none⟩) (Nat.lt_succ_self h)
          go_region_held_law (fun w' => w'.cell? ⟨h, 0, none⟩ = some (.int .u8 k) ∧ w'.cell? ⟨h, 1, none⟩ = some (.string T) ∧ w'.cell? ⟨h, 2, none⟩ = some (.slice A i c))
            (first | with_reducible exact ⟨(BS _ _ _ _ _ 0).trans (by assumption), (BS _ _ _ _ _ 1).trans (by assumption), (BS _ _ _ _ _ 2).trans (by assumption)⟩ | (with_reducible refine ⟨?_, ?_, ?_⟩ <;> assumption) | with_reducible exact ⟨al _ _ _ b0, al _ _ _ b1, al _ _ _ b2⟩ | exact ⟨b0, b1, b2⟩)
            (first
              | (refine step_append_lies _ rfl (.tmp 45) (.tmp 47) 23 rfl (h + 2) 26 i1 (.agg #[.int .u8 0, .string ⟨#[]⟩, .slice none 0 0, .slice none 0 0]) 4 72 Tryz.underlying23 hi1 hz0 hz1 hz2 rfl (by decide) (.slice lA i lc) i xs (by simp [Act.eval]) (OWNc.out _) ⟨wc.heap.size, 0, none⟩ 1 1 [.int .u8 0, .string ⟨#[109, 97, 114, 107]⟩, .slice none 0 0, .slice none 0 0] (by simp [Act.eval]) rfl (four_cells _ _ _ _ _ _) (fun u hu => by simp at hu; rcases hu with rfl | rfl | rfl | rfl <;> rfl) (by omega) (by unfold maxLen; omega) (by omega) (by show h + 2 ≤ (wc.alloc _).heap.size; rw [s1]; omega) _ rfl ?_; intro g6 c6 w6 own6 hg6 hb6 hlt6; have HG6 := Lib.hid hg6; have HO6 := Lib.hid own6; have f6 := fun (p : Nat) (hp : p < h + 2) => (show w6.heap[p]? = wc.heap[p]? from HTWc.out.old (o := .cells #[.int .u8 0, .string ⟨#[109, 97, 114, 107]⟩, .slice none 0 0, .slice none 0 0] 26) (show (wc.drew.alloc _).grownBy w6 _ from hg6) (by show p < wc.heap.size; omega) (fun e => by have := (HTK.out.tw.lvb _ e).1; omega)); have e0 := cell_eq (f6 h (by omega)) b0; have e1 := cell_eq (f6 h (by omega)) b1; have e2 := cell_eq (f6 h (by omega)) b2; have z6 := (f6 (h + 1) (by omega)).trans HTK.out.tw.b2; obtain ⟨⟨z0, z1, z2, z3⟩, t0, t1, t2, t3⟩ := vcells z6; have HZ6 := Lib.hid z6; have q6 : i ≤ c6 := Nat.le_of_succ_le (own_cap own6); clear own6 hg6 z6 f6))
          try simp only [Act.put, List.getElem?_toArray, List.getElem?_cons_succ, List.getElem?_cons_zero, List.getElem_toArray, List.getElem_cons_succ, List.getElem_cons_zero, List.setIfInBounds_toArray, List.set_cons_zero, List.set_cons_succ]
          obtain ⟨W9, hW9⟩ : ∃ W9, W9 = (((w6.setCell ⟨h + 1, 0, none⟩ (.int .u8 k)).setCell ⟨h + 1, 1, none⟩ (.string T)).setCell ⟨h + 1, 2, none⟩ (.slice (some ⟨g6, 0, none⟩) i c6)).setCell ⟨h + 1, 3, none⟩ (.slice (some ⟨gk, 0, none⟩) m ck) := ⟨_, rfl⟩
          rw [← hW9]
          have o0 : ∀ g, g ≠ h + 1 → W9.heap[g]? = w6.heap[g]? := fun g hg => by
            rw [hW9, Go.RowKit.Below.heap_setCell _ _ _ _ hg, Go.RowKit.Below.heap_setCell _ _ _ _ hg, Go.RowKit.Below.heap_setCell _ _ _ _ hg, Go.RowKit.Below.heap_setCell _ _ _ _ hg]
          have o2 : W9.heap.size = w6.heap.size := by rw [hW9]; simp
          have HB9 := Lib.hid (show Below w.heap.size w W9 from by
            have hh := HTK.out.tw.hh
            rw [hW9]
            refine (((Below.setCell ?_ (by show w.heap.size ≤ h + 1; omega) _).setCell (by show w.heap.size ≤ h + 1; omega) _).setCell (by show w.heap.size ≤ h + 1; omega) _).setCell (by show w.heap.size ≤ h + 1; omega) _
            exact Below.grown (HTK.out.tw.below.alloc (by omega) _).drew HG6.out (by show w.heap.size ≤ (wc.alloc _).heap.size; rw [s1]; omega) fun g hg => by have := (HTK.out.tw.lvb g hg).1; omega)
          have HF := Lib.hid (TK.fin HTK.out HXS.out HLN.out.symm HEL.out (show (wc.alloc _).grownBy w6 _ from ⟨HG6.out.os, HG6.out.tape, HG6.out.output, HG6.out.size, HG6.out.block⟩) HO6.out o0 o2 HKK.out HTX.out)
          rw [← HM.out] at HF
          obtain ⟨⟨r0, r1, r2, r3⟩, _⟩ := vcells (show W9.heap[h + 1]? = some (vO (.int .u8 k) (.string T) (.slice (some ⟨g6, 0, none⟩) i c6) (.slice (some ⟨gk, 0, none⟩) m ck)) from by rw [hW9]; exact store4 _ _ _ _ HZ6.out)
          clear hW9 o0 o2 e0 e1 e2 z0 z1 z2 z3 t0 t1 t2 t3 BS
          go_wp2_with fail
          refine bodyPost_ret (v := .agg #[.int .u8 k, .string T, .slice (some ⟨g6, 0, none⟩) i c6, .slice (some ⟨gk, 0, none⟩) m ck]) (by simp [results, Tryz.results7, go_sem, *]) rfl ?_
          exact ⟨⟨_, rfl, HF.out⟩, HB9.out⟩
end Va
end Go.Proofs.YtnnlgodgaolkkaaGreatDoor
