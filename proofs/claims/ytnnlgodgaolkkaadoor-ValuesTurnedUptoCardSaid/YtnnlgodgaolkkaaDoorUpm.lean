/- A map with an entry moved to its end: rows put together of two parts, in a region that draws; the block beside them. -/
import Derived.Test.YtnnlgodgaolkkaaDoorUhm
import Derived.Test.YtnnlgodgaolkkaaDoorUgm
namespace Go.Proofs.YtnnlgodgaolkkaaDoor
open Go.RowKit
namespace Va
set_option maxRecDepth 100000

/-- More behind a row of one's own, in a region that draws. -/
theorem step_grow {ops : Array Oper} {o : Oper} {a : Act} {W : World} {K : Act → World → Prop} {Q : Exit → Act → World → Prop} {E : Prop} (hgd : o.guard = none) (s x : Operand) (t : TypeId)
    (ho : o.op = .call { callee := .builtin .append, args := #[s, x], argTypes := #[t, t] })
    (base : Nat) (e : TypeId) (i : TypeInfo) (z : Value) (size bytes : Nat) (h1 : Tryd.prog.underlying t = some (.slice e)) (h2 : Tryd.prog.info? e = some i) (h3 : i.zero = some z) (h4 : i.size = size) (h5 : i.bytes = bytes) (h6 : z.cells.size = size) (hsz : 0 < size)
    (v : Value) (n0 : Nat) (xs0 : List Value) (hs : a.eval s = v) (hown : W.ownsRow base e size v n0 xs0) (A : Option Addr) (n c : Nat) (hx : a.eval x = .slice A n c) (news : List Value) (hl : news.length = n * size)
    (hnews : 0 < n → ∃ ad, A = some ad ∧ ∀ (j : Nat) (u : Value), news[j]? = some u → W.cell? (ad.add j) = some u) (hA : A = none → c = 0) (hone : ∀ u ∈ news, u.oneCell' = true) (n1 : Nat) (hn1 : n0 + n = n1) (h63 : n1 ≤ maxLen) (hbytes : n1 * bytes ≤ 140737488355328) (hbase : base ≤ W.heap.size)
    (h : ∀ A5 c5 w5, w5.ownsRow base e size (.slice A5 n1 c5) n1 (xs0 ++ news) → W.grownBy w5 v.ownBlock → ((Value.slice A5 n1 c5).ownBlock = v.ownBlock ∨ (Value.slice A5 n1 c5).ownBlock = some W.heap.size) → K (a.put o.dst (.slice A5 n1 c5)) w5) :
    if Region.wanted o (yielded ops a.tmps) = true then Oper.wp Tryd.prog o a W K Q else E := by
  have hw : Region.wanted o (yielded ops a.tmps) = true := by simp [Region.wanted, hgd]
  rw [if_pos hw]
  subst hn1
  cases A with
  | some ad =>
    have hnews2 : ∀ (j : Nat) (u : Value), news[j]? = some u → W.cell? (ad.add j) = some u := fun j u hu => by
      have hj := (List.getElem?_eq_some_iff.1 hu).1
      have hn : 0 < n := by
        rcases Nat.eq_zero_or_pos n with e | e
        · subst e; omega
        · exact e
      obtain ⟨ad', e, hf⟩ := hnews hn
      injection e with e; subst e
      exact hf j u hu
    obtain ⟨v', w', hrun, r1, r2, _, r3⟩ := run_append_own_at (P := Tryd.prog) W base t o.type e i z size bytes h1 h2 h3 h4 h5 h6 hsz v n0 xs0 hown ad n c news hl hnews2 hone h63 hbytes hbase
    obtain ⟨A5, c5, rfl, _⟩ := own_shape r1
    unfold Oper.wp
    simp [execOp, ho, resolve, invoke, builtin, hs, hx, hrun, Result.andThen]
    exact h A5 c5 w' r1 r2 r3
  | none =>
    obtain rfl := hA rfl
    have hn0 : n = 0 := by
      rcases Nat.eq_zero_or_pos n with e | e
      · exact e
      · obtain ⟨_, e, _⟩ := hnews e; cases e
    subst hn0
    have hnl : news = [] := List.eq_nil_of_length_eq_zero (by rw [hl]; omega)
    subst hnl
    obtain ⟨A5, c5, rfl, _⟩ := own_shape hown
    have hrun := run_append_owned_none (P := Tryd.prog) W base t o.type e i size h1 h2 (.slice A5 n0 c5) n0 xs0 hown
    unfold Oper.wp
    simp [execOp, ho, resolve, invoke, builtin, hs, hx, hrun, Result.andThen]
    exact h A5 c5 W (by rw [List.append_nil]; exact hown) (World.grownBy.refl _ _) (.inl rfl)
theorem own_ne {W : World} {base base' : Nat} {e e' : TypeId} {s s' : Nat} {v v' : Value} {n n' : Nat} {xs xs' : List Value} (hne : e ≠ e') (h : W.ownsRow base e s v n xs) (h' : W.ownsRow base' e' s' v' n' xs') : ∀ g, v.ownBlock = some g → v'.ownBlock ≠ some g := by
  intro g hg hg'
  rcases h.2 with ⟨q, _⟩ | ⟨g1, c1, cur1, q, _, hh1, _⟩
  · rw [q] at hg; cases hg
  · rcases h'.2 with ⟨q', _⟩ | ⟨g2, c2, cur2, q', _, hh2, _⟩
    · rw [q'] at hg'; cases hg'
    · rw [q] at hg; rw [q'] at hg'
      injection hg with hg; injection hg' with hg'
      subst hg hg'
      rw [hh1] at hh2; injection hh2 with hh2; injection hh2 with _ hh2 _; exact hne hh2
/-- Both rows, midway; a block that is made for the map, if it is. -/
structure MvS (B W : World) (kv lv : Value) (nk nl : Nat) (ks xs : List Value) (gw : Option Nat) : Prop where
  below : Below B.heap.size B W
  ownK : W.ownsRow B.heap.size 9 1 kv nk ks
  ownL : W.ownsRow B.heap.size 26 4 lv nl xs
  ap : ∀ g, gw = some g → W.heap[g]? = some (vO (.int .u8 0) (.string ⟨#[]⟩) (.slice none 0 0) (.slice none 0 0)) ∧ B.heap.size ≤ g ∧ kv.ownBlock ≠ some g ∧ lv.ownBlock ≠ some g
theorem MvS.start (B : World) : MvS B B.drew (.slice none 0 0) (.slice none 0 0) 0 0 [] [] none :=
  ⟨(Below.refl _ _).drew, World.ownsRow_nil .., World.ownsRow_nil .., fun g h => by cases h⟩
section
variable {B W W5 : World} {kv lv kv' lv' : Value} {nk nl n' : Nat} {ks xs xs' : List Value} {gw : Option Nat}
theorem MvS.k (H : MvS B W kv lv nk nl ks xs gw) (own : W5.ownsRow B.heap.size 9 1 kv' n' xs') (hg : W.grownBy W5 kv.ownBlock) (hb : kv'.ownBlock = kv.ownBlock ∨ kv'.ownBlock = some W.heap.size) : MvS B W5 kv' lv n' nl xs' xs gw where
  below := Below.grown H.below hg H.below.size (fun g e => (H.ownK.lt g e).1)
  ownK := own
  ownL := own_on H.ownL fun g e => hg.block g (H.ownL.lt g e).2 (fun e2 => own_ne (by decide) H.ownL H.ownK g e e2.symm)
  ap := fun g e => by
    obtain ⟨h1, h2, h3, h4⟩ := H.ap g e
    have hlt : g < W.heap.size := (Array.getElem?_eq_some_iff.1 h1).1
    refine ⟨(hg.block g hlt (fun e2 => h3 e2.symm)).trans h1, h2, ?_, h4⟩
    rcases hb with hb | hb
    · rw [hb]; exact h3
    · rw [hb]; intro e2; injection e2 with e2; omega
theorem MvS.l (H : MvS B W kv lv nk nl ks xs gw) (own : W5.ownsRow B.heap.size 26 4 lv' n' xs') (hg : W.grownBy W5 lv.ownBlock) (hb : lv'.ownBlock = lv.ownBlock ∨ lv'.ownBlock = some W.heap.size) : MvS B W5 kv lv' nk n' ks xs' gw where
  below := Below.grown H.below hg H.below.size (fun g e => (H.ownL.lt g e).1)
  ownK := own_on H.ownK fun g e => hg.block g (H.ownK.lt g e).2 (fun e2 => own_ne (by decide) H.ownK H.ownL g e e2.symm)
  ownL := own
  ap := fun g e => by
    obtain ⟨h1, h2, h3, h4⟩ := H.ap g e
    have hlt : g < W.heap.size := (Array.getElem?_eq_some_iff.1 h1).1
    refine ⟨(hg.block g hlt (fun e2 => h4 e2.symm)).trans h1, h2, h3, ?_⟩
    rcases hb with hb | hb
    · rw [hb]; exact h4
    · rw [hb]; intro e2; injection e2 with e2; omega
theorem MvS.al (H : MvS B W kv lv nk nl ks xs none) : MvS B (W.alloc (vO (.int .u8 0) (.string ⟨#[]⟩) (.slice none 0 0) (.slice none 0 0))) kv lv nk nl ks xs (some W.heap.size) where
  below := H.below.alloc H.below.size _
  ownK := H.ownK.alloc _
  ownL := H.ownL.alloc _
  ap := fun g e => by
    injection e with e; subst e
    exact ⟨heap_alloc_new _ _, H.below.size, fun e => by have := (H.ownK.lt _ e).2; omega, fun e => by have := (H.ownL.lt _ e).2; omega⟩
theorem MvS.al0 (B : World) : MvS B (B.alloc (vO (.int .u8 0) (.string ⟨#[]⟩) (.slice none 0 0) (.slice none 0 0))).drew (.slice none 0 0) (.slice none 0 0) 0 0 [] [] (some B.heap.size) where
  below := ((Below.refl _ _).alloc (Nat.le_refl _) _).drew
  ownK := World.ownsRow_nil ..
  ownL := World.ownsRow_nil ..
  ap := fun g e => by
    injection e with e; subst e
    exact ⟨heap_alloc_new B _, Nat.le_refl _, (by intro e; cases e), (by intro e; cases e)⟩
/-- The map's block and its rows. -/
structure MvR (B W : World) (gw : Nat) (kv lv : Value) (nk nl : Nat) (ks xs : List Value) : Prop where
  below : Below B.heap.size B W
  blk : W.heap[gw]? = some (vO (.int .u8 8) (.string ⟨#[]⟩) lv kv)
  lo : B.heap.size ≤ gw
  ownK : W.ownsRow B.heap.size 9 1 kv nk ks
  ownL : W.ownsRow B.heap.size 26 4 lv nl xs
  apK : kv.ownBlock ≠ some gw
  apL : lv.ownBlock ≠ some gw
theorem MvS.fin1 {g : Nat} (H : MvS B W kv lv nk nl ks xs (some g)) : MvR B ((((W.setCell ⟨g, 0, none⟩ (.int .u8 8)).setCell ⟨g, 1, none⟩ (.string ⟨#[]⟩)).setCell ⟨g, 2, none⟩ lv).setCell ⟨g, 3, none⟩ kv) g kv lv nk nl ks xs := by
  obtain ⟨h1, h2, h3, h4⟩ := H.ap g rfl
  have o0 : ∀ q, q ≠ g → ((((W.setCell ⟨g, 0, none⟩ (.int .u8 8)).setCell ⟨g, 1, none⟩ (.string ⟨#[]⟩)).setCell ⟨g, 2, none⟩ lv).setCell ⟨g, 3, none⟩ kv).heap[q]? = W.heap[q]? := fun q hq => by
    rw [Go.RowKit.Below.heap_setCell _ _ _ _ hq, Go.RowKit.Below.heap_setCell _ _ _ _ hq, Go.RowKit.Below.heap_setCell _ _ _ _ hq, Go.RowKit.Below.heap_setCell _ _ _ _ hq]
  exact ⟨(((H.below.setCell (p := ⟨g, 0, none⟩) h2 _).setCell (p := ⟨g, 1, none⟩) h2 _).setCell (p := ⟨g, 2, none⟩) h2 _).setCell (p := ⟨g, 3, none⟩) h2 _, store4 _ _ _ _ h1, h2,
    own_on H.ownK fun q e => o0 q (fun e2 => h3 (e2 ▸ e)), own_on H.ownL fun q e => o0 q (fun e2 => h4 (e2 ▸ e)), h3, h4⟩
theorem MvS.fin2 (H : MvS B W kv lv nk nl ks xs none) : MvR B (W.alloc (vO (.int .u8 8) (.string ⟨#[]⟩) lv kv)) W.heap.size kv lv nk nl ks xs :=
  ⟨H.below.alloc H.below.size _, heap_alloc_new _ _, H.below.size, H.ownK.alloc _, H.ownL.alloc _, fun e => by have := (H.ownK.lt _ e).2; omega, fun e => by have := (H.ownL.lt _ e).2; omega⟩
end
section
variable {B W W5 : World} {gw : Nat} {kv lv kv' lv' : Value} {nk nl n' : Nat} {ks xs xs' : List Value}
theorem MvR.lt (H : MvR B W gw kv lv nk nl ks xs) : gw < W.heap.size := (Array.getElem?_eq_some_iff.1 H.blk).1
theorem MvR.on (H : MvR B W gw kv lv nk nl ks xs) (hb : Below W.heap.size W W5) : MvR B W5 gw kv lv nk nl ks xs :=
  ⟨below_tr H.below hb, (hb.block _ H.lt).trans H.blk, H.lo, own_up H.ownK hb, own_up H.ownL hb, H.apK, H.apL⟩
theorem MvR.bx (H : MvR B W gw kv lv nk nl ks xs) : Bx W gw (.int .u8 8) (.string ⟨#[]⟩) lv kv := ⟨H.lt, (vcells H.blk).1.1, (vcells H.blk).1.2.1, (vcells H.blk).1.2.2.1, (vcells H.blk).1.2.2.2⟩
theorem alloc_size (W : World) (o : Obj) : (W.alloc o).heap.size = W.heap.size + 1 := by show (W.heap.push o).size = _; rw [Array.size_push]
theorem alloc_old (W : World) (o : Obj) {g : Nat} (h : g < W.heap.size) : (W.alloc o).heap[g]? = W.heap[g]? := by show (W.heap.push o)[g]? = _; rw [Array.getElem?_push_lt h, Array.getElem?_eq_getElem h]
theorem MvR.midK (H : MvR B W gw kv lv nk nl ks xs) {o : Obj} (hg : (W.alloc o).grownBy W5 kv.ownBlock) : W5.heap[gw]? = some (vO (.int .u8 8) (.string ⟨#[]⟩) lv kv) := by
  rw [hg.block gw (by rw [alloc_size]; have := H.lt; omega) (fun e => H.apK e.symm), alloc_old _ _ H.lt]; exact H.blk
theorem MvR.midL (H : MvR B W gw kv lv nk nl ks xs) {o : Obj} (hg : (W.alloc o).grownBy W5 lv.ownBlock) : W5.heap[gw]? = some (vO (.int .u8 8) (.string ⟨#[]⟩) lv kv) := by
  rw [hg.block gw (by rw [alloc_size]; have := H.lt; omega) (fun e => H.apL e.symm), alloc_old _ _ H.lt]; exact H.blk
theorem MvR.k (H : MvR B W gw kv lv nk nl ks xs) {o : Obj} (own : W5.ownsRow B.heap.size 9 1 kv' n' xs') (hg : (W.alloc o).grownBy W5 kv.ownBlock) (hb : kv'.ownBlock = kv.ownBlock ∨ kv'.ownBlock = some (W.alloc o).heap.size) :
    MvR B (W5.setCell ⟨gw, 3, none⟩ kv') gw kv' lv n' nl xs' xs := by
  have hm := H.midK hg
  have hlt := H.lt
  have hz := alloc_size W o
  have hne : kv'.ownBlock ≠ some gw := by
    rcases hb with hb | hb
    · rw [hb]; exact H.apK
    · rw [hb]; intro e; injection e with e; omega
  have o0 : ∀ q, q ≠ gw → (W5.setCell ⟨gw, 3, none⟩ kv').heap[q]? = W5.heap[q]? := fun q hq => by rw [Go.RowKit.Below.heap_setCell _ _ _ _ hq]
  refine ⟨(Below.grown (H.below.alloc H.below.size o) hg (Nat.le_trans H.below.size (by omega)) (fun g e => (H.ownK.lt g e).1)).setCell (p := ⟨gw, 3, none⟩) H.lo _, Go.heap_setCell_same _ gw 3 _ _ kv' hm, H.lo,
    own_on own fun q e => o0 q (fun e2 => hne (e2 ▸ e)), own_on H.ownL fun q e => ?_, hne, H.apL⟩
  have hq := (H.ownL.lt q e).2
  rw [o0 q (fun e2 => H.apL (e2 ▸ e)), hg.block q (by omega) (fun e2 => own_ne (by decide) H.ownL H.ownK q e e2.symm), alloc_old _ _ hq]
theorem MvR.midK2 (H : MvR B W gw kv lv nk nl ks xs) (hg : W.grownBy W5 kv.ownBlock) : W5.heap[gw]? = some (vO (.int .u8 8) (.string ⟨#[]⟩) lv kv) := by
  rw [hg.block gw H.lt (fun e => H.apK e.symm)]; exact H.blk
theorem MvR.k2 (H : MvR B W gw kv lv nk nl ks xs) (own : W5.ownsRow B.heap.size 9 1 kv' n' xs') (hg : W.grownBy W5 kv.ownBlock) (hb : kv'.ownBlock = kv.ownBlock ∨ kv'.ownBlock = some W.heap.size) :
    MvR B (W5.setCell ⟨gw, 3, none⟩ kv') gw kv' lv n' nl xs' xs := by
  have hm := H.midK2 hg
  have hlt := H.lt
  have hne : kv'.ownBlock ≠ some gw := by
    rcases hb with hb | hb
    · rw [hb]; exact H.apK
    · rw [hb]; intro e; injection e with e; omega
  have o0 : ∀ q, q ≠ gw → (W5.setCell ⟨gw, 3, none⟩ kv').heap[q]? = W5.heap[q]? := fun q hq => by rw [Go.RowKit.Below.heap_setCell _ _ _ _ hq]
  refine ⟨(Below.grown H.below hg H.below.size (fun g e => (H.ownK.lt g e).1)).setCell (p := ⟨gw, 3, none⟩) H.lo _, Go.heap_setCell_same _ gw 3 _ _ kv' hm, H.lo,
    own_on own fun q e => o0 q (fun e2 => hne (e2 ▸ e)), own_on H.ownL fun q e => ?_, hne, H.apL⟩
  have hq := (H.ownL.lt q e).2
  rw [o0 q (fun e2 => H.apL (e2 ▸ e)), hg.block q hq (fun e2 => own_ne (by decide) H.ownL H.ownK q e e2.symm)]
theorem MvR.l (H : MvR B W gw kv lv nk nl ks xs) {o : Obj} (own : W5.ownsRow B.heap.size 26 4 lv' n' xs') (hg : (W.alloc o).grownBy W5 lv.ownBlock) (hb : lv'.ownBlock = lv.ownBlock ∨ lv'.ownBlock = some (W.alloc o).heap.size) :
    MvR B (W5.setCell ⟨gw, 2, none⟩ lv') gw kv lv' nk n' ks xs' := by
  have hm := H.midL hg
  have hlt := H.lt
  have hz := alloc_size W o
  have hne : lv'.ownBlock ≠ some gw := by
    rcases hb with hb | hb
    · rw [hb]; exact H.apL
    · rw [hb]; intro e; injection e with e; omega
  have o0 : ∀ q, q ≠ gw → (W5.setCell ⟨gw, 2, none⟩ lv').heap[q]? = W5.heap[q]? := fun q hq => by rw [Go.RowKit.Below.heap_setCell _ _ _ _ hq]
  refine ⟨(Below.grown (H.below.alloc H.below.size o) hg (Nat.le_trans H.below.size (by omega)) (fun g e => (H.ownL.lt g e).1)).setCell (p := ⟨gw, 2, none⟩) H.lo _, Go.heap_setCell_same _ gw 2 _ _ lv' hm, H.lo,
    own_on H.ownK fun q e => ?_, own_on own fun q e => o0 q (fun e2 => hne (e2 ▸ e)), H.apK, hne⟩
  have hq := (H.ownK.lt q e).2
  rw [o0 q (fun e2 => H.apK (e2 ▸ e)), hg.block q (by omega) (fun e2 => own_ne (by decide) H.ownK H.ownL q e e2.symm), alloc_old _ _ hq]
end
/-- The cells of m values from one on. -/
def cels (f : Nat → Nat → Value) (a m : Nat) : List Value := (List.range (m * 4)).map fun j => f (a + j / 4) (j % 4)
theorem cels_len (f : Nat → Nat → Value) (a m : Nat) : (cels f a m).length = m * 4 := by simp [cels]
theorem cels_get {f : Nat → Nat → Value} {a m j : Nat} (h : j < m * 4) : (cels f a m)[j]? = some (f (a + j / 4) (j % 4)) := by
  simp [cels, h]
theorem cels_one {f : Nat → Nat → Value} {a m : Nat} (h : ∀ i, i < m → ∀ j, j < 4 → (f (a + i) j).oneCell' = true) : ∀ u ∈ cels f a m, u.oneCell' = true := fun u hu => by
  obtain ⟨j, hj, rfl⟩ := List.mem_map.1 hu
  have := List.mem_range.1 hj
  exact h _ (by omega) _ (by omega)
/-- The parts of a value's rows, as they are appended. -/
theorem part_vals {W : World} {A : Option Addr} {l : List V} {f : Nat → Nat → Value} {a m : Nat} (hl : a + m ≤ l.length) (h : 0 < l.length → ∃ g o, A = some ⟨g, o, none⟩ ∧ g < W.heap.size ∧ ∀ i, i < l.length → ∀ j, j < 4 → W.cell? ⟨g, o + i * 4 + j, none⟩ = some (f i j)) :
    0 < m → ∃ g o, A = some ⟨g, o, none⟩ ∧ ∀ (j : Nat) (u : Value), (cels f a m)[j]? = some u → W.cell? ((⟨g, o + a * 4, none⟩ : Addr).add j) = some u := fun hm => by
  obtain ⟨g, o, rfl, _, hf⟩ := h (by omega)
  refine ⟨g, o, rfl, fun j u hu => ?_⟩
  have hj := (List.getElem?_eq_some_iff.1 hu).1
  rw [cels_len] at hj
  rw [cels_get hj] at hu
  injection hu with hu
  subst hu
  have := hf (a + j / 4) (by omega) (j % 4) (Nat.mod_lt _ (by omega))
  have e : (⟨g, o + a * 4, none⟩ : Addr).add j = ⟨g, o + (a + j / 4) * 4 + j % 4, none⟩ := by
    unfold Addr.add
    have : o + a * 4 + j = o + (a + j / 4) * 4 + j % 4 := by omega
    split <;> simp_all
  rw [e]; exact this
theorem part_keys {W : World} {A : Option Addr} {ks : List Bs} {a m : Nat} (hl : a + m ≤ ks.length) (h : Tx W A ks) :
    0 < m → ∃ g o, A = some ⟨g, o, none⟩ ∧ ∀ (j : Nat) (u : Value), (((ks.drop a).take m).map fun t => Value.string (txt t))[j]? = some u → W.cell? ((⟨g, o + a, none⟩ : Addr).add j) = some u := fun hm => by
  obtain ⟨g, o, rfl, _, hf⟩ := h (by omega)
  refine ⟨g, o, rfl, fun j u hu => ?_⟩
  rw [List.getElem?_map] at hu
  obtain ⟨t, ht, rfl⟩ := Option.map_eq_some_iff.1 hu
  have hj := (List.getElem?_eq_some_iff.1 ht).1
  simp at hj
  rw [List.getElem?_take, if_pos (by omega), List.getElem?_drop] at ht
  have e : (⟨g, o + a, none⟩ : Addr).add j = ⟨g, o + (a + j), none⟩ := by
    unfold Addr.add
    have : o + a + j = o + (a + j) := by omega
    split <;> simp_all
  rw [e]; exact hf _ _ ht
/-- The map with the entry at its end, as a value. -/
theorem MvR.val {B W : World} {gw i : Nat} {kv lv : Value} {l : List V} {ks : List Bs} {s : Bs} {x : V} {f : Nat → Nat → Value} {a b c d : Value}
    (H : MvR B W gw kv lv (ks.length - 1 + 1) (l.length - 1 + 1) (((ks.take i ++ ks.drop (i + 1)).map fun t => Value.string (txt t)) ++ [.string (txt s)]) ((cels f 0 i ++ cels f (i + 1) (l.length - (i + 1))) ++ [a, b, c, d]))
    (hks : ks.length = l.length) (hs : ks[i]? = some s) (hx : l[i]? = some x) (hV : ∀ (j : Nat) (y : V), l[j]? = some y → Vm W (.agg #[f j 0, f j 1, f j 2, f j 3]) y) (hu : Vm W (.agg #[a, b, c, d]) x) :
    Vm W (.agg #[.int .u8 8, .string ⟨#[]⟩, lv, kv]) (.mk 8 [] (mvE l i x) (mvE ks i s)) := by
  have hi := (List.getElem?_eq_some_iff.1 hx).1
  have nl := mvE_len hx
  have nk := mvE_len hs
  have e1 : l.length - 1 + 1 = (mvE l i x).length := by omega
  have e2 : ks.length - 1 + 1 = (mvE ks i s).length := by omega
  have hL := H.ownL
  have hK := H.ownK
  rw [e1] at hL
  rw [e2] at hK
  have key := OV.value (w := W) (base := B.heap.size) (k := 8) (ok := fun _ => True) (t := []) (l := mvE l i x) (ks := mvE ks i s) (lv := lv) (kv := kv) (by decide) ⟨_, hL, fun p y hy => ?_⟩ (by
    show W.ownsRow _ _ _ _ _ _
    have : ((mvE ks i s).map fun t => Value.string (txt t)) = ((ks.take i ++ ks.drop (i + 1)).map fun t => Value.string (txt t)) ++ [.string (txt s)] := by unfold mvE; rw [List.map_append]; rfl
    rw [this]; exact hK)
  · exact Vk.vm key
  · have hp : p < l.length := by have := (List.getElem?_eq_some_iff.1 hy).1; omega
    rw [mvE_at hi hp hx] at hy
    have h0 := cels_len f 0 i
    have h1 := cels_len f (i + 1) (l.length - (i + 1))
    have g1 : ∀ j, j < 4 → p < i → ((cels f 0 i ++ cels f (i + 1) (l.length - (i + 1))) ++ [a, b, c, d])[p * 4 + j]? = some (f p j) := fun j hj hpi => by
      rw [List.getElem?_append_left (by rw [List.length_append]; omega), List.getElem?_append_left (by omega), cels_get (by omega)]
      congr 2 <;> omega
    have g2 : ∀ j, j < 4 → i ≤ p → p + 1 < l.length → ((cels f 0 i ++ cels f (i + 1) (l.length - (i + 1))) ++ [a, b, c, d])[p * 4 + j]? = some (f (p + 1) j) := fun j hj h2 h3 => by
      rw [List.getElem?_append_left (by rw [List.length_append]; omega), List.getElem?_append_right (by omega), cels_get (by omega)]
      congr 2 <;> omega
    have g3 : ∀ j, j < 4 → p + 1 = l.length → ((cels f 0 i ++ cels f (i + 1) (l.length - (i + 1))) ++ [a, b, c, d])[p * 4 + j]? = [a, b, c, d][j]? := fun j hj h3 => by
      rw [List.getElem?_append_right (by rw [List.length_append]; omega), List.length_append]
      congr 1; omega
    split at hy
    · rename_i hpi
      exact ⟨_, _, _, _, g1 0 (by omega) hpi, g1 1 (by omega) hpi, g1 2 (by omega) hpi, g1 3 (by omega) hpi, hV p y hy⟩
    · split at hy
      · rename_i hpi hpn
        exact ⟨_, _, _, _, g2 0 (by omega) (by omega) hpn, g2 1 (by omega) (by omega) hpn, g2 2 (by omega) (by omega) hpn, g2 3 (by omega) (by omega) hpn, hV (p + 1) y hy⟩
      · rename_i hpi hpn
        have e : x = y := Option.some.inj (hx.symm.trans hy)
        subst e
        exact ⟨a, b, c, d, (g3 0 (by omega) (by omega)).trans rfl, (g3 1 (by omega) (by omega)).trans rfl, (g3 2 (by omega) (by omega)).trans rfl, (g3 3 (by omega) (by omega)).trans rfl, hu⟩
/-- The map without the entry, as a value. -/
theorem MvR.val0 {B W : World} {gw i : Nat} {kv lv : Value} {l : List V} {ks : List Bs} {f : Nat → Nat → Value}
    (H : MvR B W gw kv lv (ks.length - 1) (l.length - 1) ((ks.take i ++ ks.drop (i + 1)).map fun t => Value.string (txt t)) (cels f 0 i ++ cels f (i + 1) (l.length - (i + 1))))
    (hks : ks.length = l.length) (hi : i < l.length) (hV : ∀ (j : Nat) (y : V), l[j]? = some y → Vm W (.agg #[f j 0, f j 1, f j 2, f j 3]) y) :
    Vm W (.agg #[.int .u8 8, .string ⟨#[]⟩, lv, kv]) (.mk 8 [] (l.take i ++ l.drop (i + 1)) (ks.take i ++ ks.drop (i + 1))) := by
  have e1 : l.length - 1 = (l.take i ++ l.drop (i + 1)).length := by rw [List.length_append, List.length_take, List.length_drop]; omega
  have e2 : ks.length - 1 = (ks.take i ++ ks.drop (i + 1)).length := by rw [List.length_append, List.length_take, List.length_drop]; omega
  have hL := H.ownL
  have hK := H.ownK
  rw [e1] at hL
  rw [e2] at hK
  have key := OV.value (w := W) (base := B.heap.size) (k := 8) (ok := fun _ => True) (t := []) (l := l.take i ++ l.drop (i + 1)) (ks := ks.take i ++ ks.drop (i + 1)) (lv := lv) (kv := kv) (by decide) ⟨_, hL, fun p y hy => ?_⟩ hK
  · exact Vk.vm key
  · have hp : p < l.length - 1 := by have := (List.getElem?_eq_some_iff.1 hy).1; omega
    have h0 := cels_len f 0 i
    have h1 := cels_len f (i + 1) (l.length - (i + 1))
    rcases Nat.lt_or_ge p i with hpi | hpi
    · rw [List.getElem?_append_left (by rw [List.length_take]; omega), List.getElem?_take, if_pos hpi] at hy
      have g1 : ∀ j, j < 4 → (cels f 0 i ++ cels f (i + 1) (l.length - (i + 1)))[p * 4 + j]? = some (f p j) := fun j hj => by
        rw [List.getElem?_append_left (by omega), cels_get (by omega)]
        congr 2 <;> omega
      exact ⟨_, _, _, _, g1 0 (by omega), g1 1 (by omega), g1 2 (by omega), g1 3 (by omega), hV p y hy⟩
    · have h2 : (l.take i).length = i := by rw [List.length_take]; omega
      rw [List.getElem?_append_right (by omega), List.getElem?_drop, h2, show i + 1 + (p - i) = p + 1 by omega] at hy
      have g2 : ∀ j, j < 4 → (cels f 0 i ++ cels f (i + 1) (l.length - (i + 1)))[p * 4 + j]? = some (f (p + 1) j) := fun j hj => by
        rw [List.getElem?_append_right (by omega), cels_get (by omega)]
        congr 2 <;> omega
      exact ⟨_, _, _, _, g2 0 (by omega), g2 1 (by omega), g2 2 (by omega), g2 3 (by omega), hV (p + 1) y hy⟩
end Va
end Go.Proofs.YtnnlgodgaolkkaaDoor
