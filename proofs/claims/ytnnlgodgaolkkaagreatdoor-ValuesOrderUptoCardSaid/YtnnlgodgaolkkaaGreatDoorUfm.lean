/- The law's own: a value with another node in it. -/
import Derived.Test.YtnnlgodgaolkkaaGreatDoorHg
import Derived.Test.YtnnlgodgaolkkaaGreatDoorUem
import Derived.Test.YtnnlgodgaolkkaaGreatDoorHo
namespace Go.Proofs.YtnnlgodgaolkkaaGreatDoor
open Go.RowKit
namespace Va
set_option maxRecDepth 100000

def OthP (P B : Nat) (ok : Nat → Prop) (r : Oth V) (e : Ending) (w' : World) : Prop := match r with
  | .done y => ∃ u, e = .returned (.tuple #[u, .bool true]) ∧ Vk w' (fun g => ok g ∨ B ≤ g) u y
  | .left m => ∃ (k : Nat) (t : ByteArray) (A B : Option Addr) (n c b d : Nat), e = .returned (.tuple #[.agg #[.int .u8 k, .string t, .slice A n c, .slice B b d], .bool false]) ∧ w'.heap[P]? = some (.cells #[.int .i64 (m : Nat)] 3)
def othR (l : List V) (i : Nat) : Oth (List V) → Oth (List V)
  | .done r => .done (l.take i ++ r)
  | .left m => .left m
def othC (k : Nat) (t : Bs) (ks : List Bs) : Oth (List V) → Oth V
  | .done l => .done (.mk k t l ks)
  | .left m => .left m
theorem oth_succ (k : Nat) (t : Bs) (l : List V) (ks : List Bs) (n : Nat) : oth (.mk k t l ks) (n + 1) = othC k t ks (othL l n) := by
  rw [oth]
  cases othL l n <;> rfl
mutual
theorem oth_left : ∀ {x : V} {n m : Nat}, oth x n = .left m → m ≤ n
  | .mk k t l ks, 0, m, h => by rw [oth] at h; cases h
  | .mk k t l ks, n + 1, m, h => by
    rw [oth_succ] at h
    cases ho : othL l n with
    | done r => rw [ho] at h; cases h
    | left p =>
      rw [ho] at h
      obtain rfl := Oth.left.inj h
      have := othL_left ho; omega
theorem othL_left : ∀ {l : List V} {n m : Nat}, othL l n = .left m → m ≤ n
  | [], n, m, h => by rw [othL] at h; rw [Oth.left.inj h]; exact Nat.le_refl _
  | x :: r, n, m, h => by
    rw [othL] at h
    cases ho : oth x n with
    | done y => rw [ho] at h; cases h
    | left p =>
      rw [ho] at h
      simp only at h
      have h1 := oth_left ho
      cases hr : othL r p with
      | done r' => rw [hr] at h; cases h
      | left q =>
        rw [hr] at h
        rw [← Oth.left.inj h]
        have := othL_left hr; omega
end
theorem othR_nil (l : List V) (r : Oth (List V)) : othR l 0 r = r := by cases r <;> rfl
theorem othR_left {l : List V} {i n m : Nat} {x : V} (hx : l[i]? = some x) (h : oth x n = .left m) : othR l i (othL (l.drop i) n) = othR l (i + 1) (othL (l.drop (i + 1)) m) := by
  have hl := List.getElem?_eq_some_iff.1 hx
  rw [List.drop_eq_getElem_cons hl.1, hl.2, othL, h]
  simp only
  cases othL (l.drop (i + 1)) m with
  | done r =>
    show Oth.done (l.take i ++ x :: r) = .done (l.take (i + 1) ++ r)
    rw [List.take_add_one, hx]; simp
  | left p => rfl
theorem othR_done {l : List V} {i n : Nat} {x y : V} (hx : l[i]? = some x) (h : oth x n = .done y) : othR l i (othL (l.drop i) n) = .done (l.set i y) := by
  have hl := List.getElem?_eq_some_iff.1 hx
  rw [List.drop_eq_getElem_cons hl.1, hl.2, othL, h]
  show Oth.done (l.take i ++ y :: l.drop (i + 1)) = _
  rw [List.set_eq_take_append_cons_drop, if_pos hl.1]
theorem othR_end {l : List V} {i n : Nat} (hi : l.length ≤ i) : othR l i (othL (l.drop i) n) = .left n := by
  rw [List.drop_eq_nil_of_le hi, othL]; rfl
/-- Elements put behind nothing, in a region that draws. -/
theorem step_nil {ops : Array Oper} {o : Oper} {a : Act} {W : World} {K : Act → World → Prop} {Q : Exit → Act → World → Prop} {E : Prop} (hgd : o.guard = none) (s x : Operand) (t : TypeId)
    (ho : o.op = .call { callee := .builtin .append, args := #[s, x], argTypes := #[t, t] })
    (base : Nat) (e : TypeId) (i : TypeInfo) (z : Value) (size bytes : Nat) (h1 : Tryz.prog.underlying t = some (.slice e)) (h2 : Tryz.prog.info? e = some i) (h3 : i.zero = some z) (h4 : i.size = size) (h5 : i.bytes = bytes) (h6 : z.cells.size = size) (hsz : 0 < size)
    (hs : a.eval s = .slice none 0 0) (A : Option Addr) (n c : Nat) (hx : a.eval x = .slice A n c) (news : List Value) (hl : news.length = n * size)
    (hnews : 0 < n → ∃ ad, A = some ad ∧ ∀ (j : Nat) (u : Value), news[j]? = some u → W.cell? (ad.add j) = some u) (hA : A = none → c = 0) (hone : ∀ u ∈ news, u.oneCell' = true) (h63 : n ≤ maxLen) (hbytes : n * bytes ≤ 140737488355328) (hbase : base ≤ W.heap.size)
    (h : ∀ A5 c5 w5, w5.ownsRow base e size (.slice A5 n c5) n news → W.grownBy w5 none → (∀ g, (Value.slice A5 n c5).ownBlock = some g → g = W.heap.size) → K (a.put o.dst (.slice A5 n c5)) w5) :
    if Region.wanted o (yielded ops a.tmps) = true then Oper.wp Tryz.prog o a W K Q else E := by
  have hw : Region.wanted o (yielded ops a.tmps) = true := by simp [Region.wanted, hgd]
  rw [if_pos hw]
  cases A with
  | some ad =>
    have hnews2 : ∀ (j : Nat) (u : Value), news[j]? = some u → W.cell? (ad.add j) = some u := fun j u hu => by
      have hj := (List.getElem?_eq_some_iff.1 hu).1
      have hn : 0 < n := by
        rcases Nat.eq_zero_or_pos n with e | e
        · subst e; omega
        · exact e
      obtain ⟨ad', e, hf⟩ := hnews hn
      injection e with e; subst e
      exact hf j u hu
    obtain ⟨v', w', hrun, r1, r2, _, r3⟩ := run_append_own_at (P := Tryz.prog) W base t o.type e i z size bytes h1 h2 h3 h4 h5 h6 hsz (.slice none 0 0) 0 [] (World.ownsRow_nil W base e size) ad n c news hl hnews2 hone (by omega) (by rw [Nat.zero_add]; exact hbytes) hbase
    rw [Nat.zero_add, List.nil_append] at r1
    obtain ⟨A5, c5, rfl, _⟩ := own_shape r1
    unfold Oper.wp
    simp [execOp, ho, resolve, invoke, builtin, hs, hx, hrun, Result.andThen]
    exact h A5 c5 w' r1 r2 (fun g hg => by
      rcases r3 with r3 | r3
      · rw [r3] at hg; cases hg
      · rw [r3] at hg; exact (Option.some.inj hg).symm)
  | none =>
    obtain rfl := hA rfl
    have hn0 : n = 0 := by
      rcases Nat.eq_zero_or_pos n with e | e
      · exact e
      · obtain ⟨_, e, _⟩ := hnews e; cases e
    subst hn0
    have hnl : news = [] := List.eq_nil_of_length_eq_zero (by rw [hl]; omega)
    subst hnl
    have hrun := run_append_owned_none (P := Tryz.prog) W base t o.type e i size h1 h2 (.slice none 0 0) 0 [] (World.ownsRow_nil W base e size)
    unfold Oper.wp
    simp [execOp, ho, resolve, invoke, builtin, hs, hx, hrun, Result.andThen]
    exact h none 0 W (World.ownsRow_nil W base e size) (World.grownBy.refl _ _) (fun g hg => by cases hg)
/-- A value with another node, midway. -/
structure OW (w wx : World) (h P q k : Nat) (T : ByteArray) (cv dv lv kv : Value) (n m : Nat) (xs ys : List Value) (z : Int) : Prop where
  gr : w.grownBy wx (some P)
  hh : h = w.heap.size
  lo : h + 2 ≤ q ∧ q < wx.heap.size ∧ P < h
  b1 : wx.heap[h]? = some (vO (.int .u8 k) (.string T) cv dv)
  b2 : wx.heap[h + 1]? = some (vO (.int .u8 0) (.string ⟨#[]⟩) (.slice none 0 0) (.slice none 0 0))
  b6 : wx.heap[q]? = some (vO (.int .u8 k) (.string T) lv kv)
  ow : wx.ownsRow (h + 2) 26 4 lv n xs
  ok : wx.ownsRow (h + 2) 9 1 kv m ys
  ap : lv.ownBlock ≠ some q ∧ kv.ownBlock ≠ some q
  pt : wx.heap[P]? = some (.cells #[.int .i64 z] 3)
section
variable {w wx wy : World} {h P q k : Nat} {T : ByteArray} {cv dv lv kv : Value} {n m : Nat} {xs ys : List Value} {z z' : Int}
theorem grow_tr {a b c : World} {r : Option Nat} (h1 : a.grownBy b r) (h2 : b.grownBy c r) : a.grownBy c r := h1.trans h2
theorem OW.call (H : OW w wx h P q k T cv dv lv kv n m xs ys z) (hg : wx.grownBy wy (some P)) (hp : wy.heap[P]? = some (.cells #[.int .i64 z'] 3)) : OW w wy h P q k T cv dv lv kv n m xs ys z' := by
  have old : ∀ g, h ≤ g → g < wx.heap.size → wy.heap[g]? = wx.heap[g]? := fun g hg1 hg2 => hg.block g hg2 (fun e => by injection e with e; have := H.lo; omega)
  have hlo := H.lo
  exact ⟨H.gr.trans hg, H.hh, ⟨hlo.1, Nat.lt_of_lt_of_le hlo.2.1 hg.size, hlo.2.2⟩, (old _ (by omega) (by omega)).trans H.b1, (old _ (by omega) (by omega)).trans H.b2, (old _ (by omega) (by omega)).trans H.b6,
    own_on H.ow fun g e => old g (by have := (H.ow.lt g e).1; omega) (H.ow.lt g e).2, own_on H.ok fun g e => old g (by have := (H.ok.lt g e).1; omega) (H.ok.lt g e).2, H.ap, hp⟩
end
theorem grow_some {a b : World} (P : Nat) (h : a.grownBy b none) : a.grownBy b (some P) := ⟨h.os, h.tape, h.output, h.size, fun k hk _ => h.block k hk (fun e => by cases e)⟩
theorem grow_below {a b : World} (P : Nat) (h : Below a.heap.size a b) : a.grownBy b (some P) := ⟨h.os, h.tape, h.output, h.size, fun k hk _ => h.block k hk⟩
/-- What holds on whatever a call leaves of the number. -/
theorem OW.upto {w wx wy : World} {h P q k : Nat} {T : ByteArray} {cv dv lv kv : Value} {n m : Nat} {xs ys : List Value} {z : Int} (H : OW w wx h P q k T cv dv lv kv n m xs ys z) (hg : wx.grownBy wy (some P)) :
    w.grownBy wy (some P) ∧ (∀ g, h ≤ g → g < wx.heap.size → wy.heap[g]? = wx.heap[g]?) ∧ wy.heap[h + 1]? = some (vO (.int .u8 0) (.string ⟨#[]⟩) (.slice none 0 0) (.slice none 0 0)) ∧ wy.heap[q]? = some (vO (.int .u8 k) (.string T) lv kv) ∧ wy.ownsRow (h + 2) 26 4 lv n xs ∧ wy.ownsRow (h + 2) 9 1 kv m ys := by
  have old : ∀ g, h ≤ g → g < wx.heap.size → wy.heap[g]? = wx.heap[g]? := fun g hg1 hg2 => hg.block g hg2 (fun e => by injection e with e; have := H.lo; omega)
  have hlo := H.lo
  exact ⟨H.gr.trans hg, old, (old _ (by omega) (by omega)).trans H.b2, (old _ (by omega) (by omega)).trans H.b6,
    own_on H.ow fun g e => old g (by have := (H.ow.lt g e).1; omega) (H.ow.lt g e).2, own_on H.ok fun g e => old g (by have := (H.ok.lt g e).1; omega) (H.ok.lt g e).2⟩
theorem OW.fin {w W3 WF : World} {h P q k : Nat} {T : ByteArray} {cv dv lv kv : Value} {n m : Nat} {xs ys : List Value} {z : Int} (GW : w.grownBy W3 (some P)) (hh : h = w.heap.size) (hP : P < h) (hs3 : h + 2 ≤ W3.heap.size)
    (b1 : W3.heap[h]? = some (vO (.int .u8 k) (.string T) cv dv)) (b2 : W3.heap[h + 1]? = some (vO (.int .u8 0) (.string ⟨#[]⟩) (.slice none 0 0) (.slice none 0 0))) (pt : W3.heap[P]? = some (.cells #[.int .i64 z] 3))
    (hb : Below W3.heap.size W3 WF) (hq : W3.heap.size ≤ q) (hqo : WF.heap[q]? = some (vO (.int .u8 0) (.string ⟨#[]⟩) (.slice none 0 0) (.slice none 0 0)))
    (ow : WF.ownsRow W3.heap.size 26 4 lv n xs) (ok : WF.ownsRow W3.heap.size 9 1 kv m ys) (ap : lv.ownBlock ≠ some q ∧ kv.ownBlock ≠ some q) :
    OW w ((((WF.setCell ⟨q, 0, none⟩ (.int .u8 k)).setCell ⟨q, 1, none⟩ (.string T)).setCell ⟨q, 2, none⟩ lv).setCell ⟨q, 3, none⟩ kv) h P q k T cv dv lv kv n m xs ys z := by
  have hlt : q < WF.heap.size := (Array.getElem?_eq_some_iff.1 hqo).1
  have hb2 : Below W3.heap.size W3 ((((WF.setCell ⟨q, 0, none⟩ (.int .u8 k)).setCell ⟨q, 1, none⟩ (.string T)).setCell ⟨q, 2, none⟩ lv).setCell ⟨q, 3, none⟩ kv) :=
    (((hb.setCell (p := ⟨q, 0, none⟩) hq _).setCell (p := ⟨q, 1, none⟩) hq _).setCell (p := ⟨q, 2, none⟩) hq _).setCell (p := ⟨q, 3, none⟩) hq _
  have o0 : ∀ g, g ≠ q → ((((WF.setCell ⟨q, 0, none⟩ (.int .u8 k)).setCell ⟨q, 1, none⟩ (.string T)).setCell ⟨q, 2, none⟩ lv).setCell ⟨q, 3, none⟩ kv).heap[g]? = WF.heap[g]? := fun g hg => by
    rw [Go.RowKit.Below.heap_setCell _ _ _ _ hg, Go.RowKit.Below.heap_setCell _ _ _ _ hg, Go.RowKit.Below.heap_setCell _ _ _ _ hg, Go.RowKit.Below.heap_setCell _ _ _ _ hg]
  have lower : ∀ {e : TypeId} {s : Nat} {v : Value} {n : Nat} {xs : List Value} {W : World}, W.ownsRow W3.heap.size e s v n xs → W.ownsRow (h + 2) e s v n xs := fun {e s v n xs W} H => ⟨H.1, H.2.imp id fun ⟨g, c, cur, e1, hb, r⟩ => ⟨g, c, cur, e1, Nat.le_trans hs3 hb, r⟩⟩
  refine ⟨GW.trans (grow_below P hb2), hh, ⟨by omega, by simp; exact hlt, hP⟩, (hb2.block _ (by omega)).trans b1, (hb2.block _ (by omega)).trans b2, store4 _ _ _ _ hqo, lower (own_on ow fun g e => o0 g (fun e2 => ap.1 (e2 ▸ e))), lower (own_on ok fun g e => o0 g (fun e2 => ap.2 (e2 ▸ e))), ap, (hb2.block _ (by omega)).trans pt⟩
theorem OW.fin2 {w W3 WF : World} {h P k : Nat} {T : ByteArray} {cv dv lv kv : Value} {n m : Nat} {xs ys : List Value} {z : Int} (GW : w.grownBy W3 (some P)) (hh : h = w.heap.size) (hP : P < h) (hs3 : h + 2 ≤ W3.heap.size)
    (b1 : W3.heap[h]? = some (vO (.int .u8 k) (.string T) cv dv)) (b2 : W3.heap[h + 1]? = some (vO (.int .u8 0) (.string ⟨#[]⟩) (.slice none 0 0) (.slice none 0 0))) (pt : W3.heap[P]? = some (.cells #[.int .i64 z] 3))
    (hb : Below W3.heap.size W3 WF) (ow : WF.ownsRow W3.heap.size 26 4 lv n xs) (ok : WF.ownsRow W3.heap.size 9 1 kv m ys) :
    OW w (WF.alloc (vO (.int .u8 k) (.string T) lv kv)) h P WF.heap.size k T cv dv lv kv n m xs ys z := by
  have hs0 : (WF.alloc (vO (.int .u8 k) (.string T) lv kv)).heap.size = WF.heap.size + 1 := by show (WF.heap.push _).size = _; rw [Array.size_push]
  have hb2 : Below W3.heap.size W3 (WF.alloc (vO (.int .u8 k) (.string T) lv kv)) := hb.alloc hb.size _
  have lower : ∀ {e : TypeId} {s : Nat} {v : Value} {n : Nat} {xs : List Value} {W : World}, W.ownsRow W3.heap.size e s v n xs → W.ownsRow (h + 2) e s v n xs := fun {e s v n xs W} H => ⟨H.1, H.2.imp id fun ⟨g, c, cur, e1, hb, r⟩ => ⟨g, c, cur, e1, Nat.le_trans hs3 hb, r⟩⟩
  refine ⟨GW.trans (grow_below P hb2), hh, ⟨by have := hb.size; omega, by omega, hP⟩, (hb2.block _ (by omega)).trans b1, (hb2.block _ (by omega)).trans b2, heap_alloc_new _ _, lower (ow.alloc _), lower (ok.alloc _), ⟨fun e => by have := (ow.lt _ e).2; omega, fun e => by have := (ok.lt _ e).2; omega⟩, (hb2.block _ (by omega)).trans pt⟩
theorem blk_up {a b : World} {g : Nat} {o : Obj} (hb : Below a.heap.size a b) (h : a.heap[g]? = some o) : b.heap[g]? = some o := (hb.block g (Array.getElem?_eq_some_iff.1 h).1).trans h
theorem own_up {a b : World} {base : Nat} {e : TypeId} {s : Nat} {v : Value} {n : Nat} {xs : List Value} (h : a.ownsRow base e s v n xs) (hb : Below a.heap.size a b) : b.ownsRow base e s v n xs := own_on h fun g hg => hb.block g (h.lt g hg).2
theorem below_none {a b : World} (h : a.grownBy b none) : Below a.heap.size a b := (Below.refl _ _).grown h (Nat.le_refl _) fun g e => by cases e
theorem vk_shape {w : World} {ok : Nat → Prop} {u : Value} {x : V} (h : Vk w ok u x) : ∃ (k : Nat) (t : ByteArray) (A B : Option Addr) (n c m d : Nat), u = .agg #[.int .u8 k, .string t, .slice A n c, .slice B m d] := by
  cases h with
  | mk => exact ⟨_, _, _, _, _, _, _, _, rfl⟩
theorem vk_inv {w : World} {ok : Nat → Prop} {v : Value} {k : Nat} {t : Bs} {l : List V} {ks : List Bs} (h : Vk w ok v (.mk k t l ks)) :
    ∃ (A B : Option Addr) (c d : Nat) (f : Nat → Nat → Value), v = .agg #[.int .u8 k, .string (txt t), .slice A l.length c, .slice B ks.length d] ∧ k < 256 ∧ l.length ≤ c ∧ c ≤ maxLen ∧ (A = none → c = 0) ∧ ks.length ≤ d ∧ d ≤ maxLen ∧ (B = none → d = 0) ∧ Tx w B ks ∧
      (0 < l.length → ∃ g o, A = some ⟨g, o, none⟩ ∧ g < w.heap.size ∧ ∀ i, i < l.length → ∀ j, j < 4 → w.cell? ⟨g, o + i * 4 + j, none⟩ = some (f i j)) ∧ (0 < l.length → ∀ g o, A = some ⟨g, o, none⟩ → ok g) ∧ (0 < ks.length → ∀ g o, B = some ⟨g, o, none⟩ → ok g) ∧
      (∀ i x, l[i]? = some x → Vk w ok (.agg #[f i 0, f i 1, f i 2, f i 3]) x) := by
  cases h with
  | mk _ _ _ _ A B c d f hk hl hc hA hd hd2 hB hK hL ha hb hV => exact ⟨A, B, c, d, f, rfl, hk, hl, hc, hA, hd, hd2, hB, hK, hL, ha, hb, hV⟩
theorem row4 {w : World} {g b : Nat} {x y z u : Value} (p q r s : Value) (h0 : w.cell? ⟨g, b, none⟩ = some x) (h1 : w.cell? ⟨g, b + 1, none⟩ = some y) (h2 : w.cell? ⟨g, b + 2, none⟩ = some z) (h3 : w.cell? ⟨g, b + 3, none⟩ = some u) :
    ((((((w.setCell ⟨g, b, none⟩ p).setCell ⟨g, b + 1, none⟩ q).setCell ⟨g, b + 2, none⟩ r).setCell ⟨g, b + 3, none⟩ s).cell? ⟨g, b, none⟩ = some p ∧ ((((w.setCell ⟨g, b, none⟩ p).setCell ⟨g, b + 1, none⟩ q).setCell ⟨g, b + 2, none⟩ r).setCell ⟨g, b + 3, none⟩ s).cell? ⟨g, b + 1, none⟩ = some q) ∧
     (((((w.setCell ⟨g, b, none⟩ p).setCell ⟨g, b + 1, none⟩ q).setCell ⟨g, b + 2, none⟩ r).setCell ⟨g, b + 3, none⟩ s).cell? ⟨g, b + 2, none⟩ = some r ∧ ((((w.setCell ⟨g, b, none⟩ p).setCell ⟨g, b + 1, none⟩ q).setCell ⟨g, b + 2, none⟩ r).setCell ⟨g, b + 3, none⟩ s).cell? ⟨g, b + 3, none⟩ = some s)) ∧
    ∀ j, (j < b ∨ b + 3 < j) → ((((w.setCell ⟨g, b, none⟩ p).setCell ⟨g, b + 1, none⟩ q).setCell ⟨g, b + 2, none⟩ r).setCell ⟨g, b + 3, none⟩ s).cell? ⟨g, j, none⟩ = w.cell? ⟨g, j, none⟩ := by
  have ne : ∀ {i j : Nat}, i ≠ j → (⟨g, i, none⟩ : Addr) ≠ ⟨g, j, none⟩ := fun h e => h (by injection e)
  have S : ∀ (W : World) (i j : Nat) (v : Value), i ≠ j → (W.setCell ⟨g, i, none⟩ v).cell? ⟨g, j, none⟩ = W.cell? ⟨g, j, none⟩ := fun W i j v h => by apply World.cell?_setCell_other; exact ne h
  have T : ∀ (W : World) (i : Nat) (u v : Value), W.cell? ⟨g, i, none⟩ = some u → (W.setCell ⟨g, i, none⟩ v).cell? ⟨g, i, none⟩ = some v := fun W i u v h => by apply World.cell?_setCell_same; exact h
  refine ⟨⟨⟨?_, ?_⟩, ?_, ?_⟩, fun j hj => ?_⟩
  · rw [S _ _ _ _ (by omega), S _ _ _ _ (by omega), S _ _ _ _ (by omega)]; exact T _ _ _ _ h0
  · rw [S _ _ _ _ (by omega), S _ _ _ _ (by omega)]; exact T _ _ y _ (by rw [S _ _ _ _ (by omega)]; exact h1)
  · rw [S _ _ _ _ (by omega)]; exact T _ _ z _ (by rw [S _ _ _ _ (by omega), S _ _ _ _ (by omega)]; exact h2)
  · exact T _ _ u _ (by rw [S _ _ _ _ (by omega), S _ _ _ _ (by omega), S _ _ _ _ (by omega)]; exact h3)
  · rw [S _ _ _ _ (by omega), S _ _ _ _ (by omega), S _ _ _ _ (by omega), S _ _ _ _ (by omega)]
/-- The copy with another element in it. -/
theorem set_vk {w w6 W8 : World} {h P k p m g6 lc kc i B0 : Nat} {kA : Option Addr} {ok : Nat → Prop} {t : Bs} {l : List V} {ks : List Bs} {f : Nat → Nat → Value} {x0 x1 x2 x3 : Value} {y : V} {xs ys : List Value} {cur : Array Value}
    (hk : k < 256) (hp : p = l.length) (hm : m = ks.length) (hi : i < p) (hh : h = w.heap.size) (hok : ∀ g, ok g → g ≠ P)
    (hxs : xs = (List.range (p * 4)).map fun j => f (j / 4) (j % 4)) (hys : ys = ks.map fun t => Value.string (txt t))
    (gr : w.grownBy w6 (some P)) (hsz : w6.heap.size ≤ W8.heap.size) (o8 : ∀ g, g ≠ g6 → g ≠ h + 1 → W8.heap[g]? = w6.heap[g]?) (hlo : h + 2 ≤ g6) (hB : g6 < B0 ∧ h + 2 ≤ B0)
    (ow : w6.ownsRow (h + 2) 26 4 (.slice (some ⟨g6, 0, none⟩) p lc) p xs) (okk : w6.ownsRow (h + 2) 9 1 (.slice kA m kc) m ys) (hcur : w6.heap[g6]? = some (.cells cur 26 (0, 0))) (hg6s : g6 < W8.heap.size)
    (hc : ∀ (j : Nat) (u : Value), xs[j]? = some u → w6.cell? ⟨g6, j, none⟩ = some u)
    (e0 : W8.cell? ⟨g6, i * 4, none⟩ = some x0) (e1 : W8.cell? ⟨g6, i * 4 + 1, none⟩ = some x1) (e2 : W8.cell? ⟨g6, i * 4 + 2, none⟩ = some x2) (e3 : W8.cell? ⟨g6, i * 4 + 3, none⟩ = some x3)
    (eo : ∀ j, (j < i * 4 ∨ i * 4 + 3 < j) → W8.cell? ⟨g6, j, none⟩ = w6.cell? ⟨g6, j, none⟩)
    (hu : Vk w6 (fun g => (ok g ∧ g < w.heap.size) ∨ B0 ≤ g) (.agg #[x0, x1, x2, x3]) y) (hV : ∀ (i : Nat) (x : V), l[i]? = some x → Vk w (fun g => ok g ∧ g < w.heap.size) (.agg #[f i 0, f i 1, f i 2, f i 3]) x) :
    Vk W8 (fun g => ok g ∨ w.heap.size ≤ g) (.agg #[.int .u8 k, .string (txt t), .slice (some ⟨g6, 0, none⟩) p lc, .slice kA m kc]) (.mk k t (l.set i y) ks) := by
  obtain ⟨A', c', ea, h1, h2, _⟩ := own_shape ow
  injection ea with _ _ ea; subst ea
  obtain ⟨A2, c2, eb, h3, h4, h5⟩ := own_shape okk
  injection eb with eb _ ec; subst eb ec
  have hlen : (l.set i y).length = p := by rw [List.length_set, hp]
  have key := Vk.mk (w := W8) (ok := fun g => ok g ∨ w.heap.size ≤ g) k t (l.set i y) ks (some ⟨g6, 0, none⟩) kA lc kc (fun i' j => if i' = i then (if j = 0 then x0 else if j = 1 then x1 else if j = 2 then x2 else x3) else f i' j) hk (by rw [hlen]; exact h1) h2 (fun e => by cases e) (by rw [← hm]; exact h3) h4 h5
    (fun h0 => by
      obtain ⟨gk, rfl, hgk, hgk2, hcc⟩ := own_cells okk (by rw [hm]; exact h0)
      have hne : gk ≠ g6 := fun e => by
        subst e
        rcases okk.2 with ⟨q, _⟩ | ⟨g7, c7, cur7, q, _, hh7, _⟩
        · cases q
        · injection q with q _ _; injection q with q; injection q with q _ _; subst q
          rw [hcur] at hh7; injection hh7 with hh7; injection hh7 with _ hh7 _
          exact absurd hh7 (by decide)
      exact ⟨gk, 0, rfl, by omega, fun j s hs => by
        rw [Nat.zero_add]
        exact cell_eq (o8 gk hne (by omega)) (hcc j _ (by rw [hys, List.getElem?_map, hs]; rfl))⟩)
    (fun _ => ⟨g6, 0, rfl, hg6s, fun i' hi' j hj => by
      rw [Nat.zero_add]
      rw [hlen] at hi'
      by_cases hii : i' = i
      · subst hii
        rw [if_pos rfl]
        rcases (show j = 0 ∨ j = 1 ∨ j = 2 ∨ j = 3 by omega) with rfl | rfl | rfl | rfl
        · exact e0
        · exact e1
        · exact e2
        · exact e3
      · rw [if_neg hii, eo _ (by omega)]
        refine hc _ _ ?_
        rw [hxs, List.getElem?_map, List.getElem?_range (by omega)]
        show some (f ((i' * 4 + j) / 4) ((i' * 4 + j) % 4)) = _
        rw [show (i' * 4 + j) / 4 = i' by omega, show (i' * 4 + j) % 4 = j by omega]⟩)
    (fun _ g' o e => by injection e with e; injection e with e _ _; exact .inr (by omega)) (fun h0 g' o e => by
      obtain ⟨gk, e2, hgk, _⟩ := own_cells okk (by rw [hm]; exact h0)
      rw [e2] at e; injection e with e; injection e with e _ _; exact .inr (by omega))
    (fun i' x hx => by
      by_cases hii : i' = i
      · subst hii
        rw [List.getElem?_set_self (by rw [← hp]; exact hi)] at hx
        obtain rfl := Option.some.inj hx
        simp only [if_true]
        refine (hu.keep (fun g hg _ => ?_) hsz).to fun g _ hg => ?_
        · rcases hg with hg | hg
          · exact o8 g (by omega) (by omega)
          · exact o8 g (by omega) (by omega)
        · rcases hg with hg | hg
          · exact .inl hg.1
          · exact .inr (by omega)
      · rw [List.getElem?_set_ne (fun e => hii e.symm)] at hx
        simp only [if_neg hii]
        refine ((hV i' x hx).keep (fun g hg _ => ?_) (Nat.le_trans gr.size hsz)).to fun g _ hg => .inl hg.1
        rw [o8 g (by omega) (by omega)]
        exact gr.block g hg.2 (fun e => hok g hg.1 (Option.some.inj e)))
  rw [hlen, ← hm] at key
  exact key
end Va
end Go.Proofs.YtnnlgodgaolkkaaGreatDoor
