/- Rows of tokens; a fault's block; the document's next token at any place. -/
import Derived.Test.YtdclhepjoifpiaaGreatDoorTom
import Derived.Test.YtdclhepjoifpiaaGreatDoorAw
import Derived.Test.YtdclhepjoifpiaaGreatDoorAt
import Derived.OwnWalk
import Derived.Maps.AppendAt
namespace Go.Proofs.YtdclhepjoifpiaaGreatDoor
open Go.RowKit
namespace Jk

/-- The document's next token. -/
theorem rnext_is {l : List UInt8} {A : Option Addr} (n c i : Nat) {B : Nat} {x : Int} (w : World) (hn : n = l.length) (hnc : n ≤ c) (hc6 : c ≤ maxLen) (hA : Byt w B A l) (hB : B ≤ w.heap.size) (hm : n ≤ 1000000) (hx : x = i) :
    Calls Tryz.prog 32 #[.slice A n c, .int .i64 x] w fun e w' => e = .returned (nxA i (nx (l.drop i))) ∧ Below w.heap.size w w' := by
  by_cases hi : i < l.length
  · cases h0 : spc (bt l i)
    · cases h1 : mrk (bt l i)
      · cases h2 : ltr (bt l i)
        · by_cases h3 : bt l i = 45
          · cases h4 : dg (bt l (i + 1))
            · exact rnext_minus n c i w hn hA hB hm hx h3 h4
            · exact rnext_negd n c i w hn hA hB hm hx h3 h4
          · cases h4 : dg (bt l i)
            · by_cases h5 : bt l i = 34
              · exact rnext_str n c i w hn hA hB hm hx h5
              · exact rnext_other n c i w hn hA hB hm hx hi h0 h1 h2 h3 h4 h5
            · exact rnext_digit n c i w hn hA hB hm hx h4
        · exact rnext_word n c i w hn hnc hc6 hA hB hm hx h2
      · exact rnext_mark n c i w hn hA hB hm hx h1
    · exact rnext_space n c i w hn hA hB hm hx h0
  · exact rnext_end n c i w hn hx (by omega)

abbrev Tok := Nat × Nat × Nat
/-- Tokens' cells. -/
def tkC (kd : IntKind) (t : Tok) : List Value := [.int kd (t.1 : Int), .int .i64 (t.2.1 : Int), .int .i64 (t.2.2 : Int)]
def tkL (kd : IntKind) (ts : List Tok) : List Value := ts.flatMap (tkC kd)
theorem tkL_app (kd : IntKind) (a b : List Tok) : tkL kd (a ++ b) = tkL kd a ++ tkL kd b := by simp [tkL]
theorem tkL_cons (kd : IntKind) (t : Tok) (b : List Tok) : tkL kd (t :: b) = tkC kd t ++ tkL kd b := by simp [tkL]
theorem tkL_len (kd : IntKind) : ∀ ts : List Tok, (tkL kd ts).length = ts.length * 3
  | [] => rfl
  | t :: ts => by rw [tkL_cons, List.length_append, tkL_len kd ts, List.length_cons]; simp only [tkC, List.length_cons, List.length_nil]; omega
theorem tkL_at (kd : IntKind) : ∀ (ts : List Tok) (k : Nat) (t : Tok), ts[k]? = some t →
    (tkL kd ts)[k * 3]? = some (.int kd (t.1 : Int)) ∧ (tkL kd ts)[k * 3 + 1]? = some (.int .i64 (t.2.1 : Int)) ∧ (tkL kd ts)[k * 3 + 2]? = some (.int .i64 (t.2.2 : Int))
  | [], k, t, h => by simp at h
  | t0 :: ts, 0, t, h => by
    obtain rfl : t0 = t := by simpa using h
    rw [tkL_cons]; simp [tkC]
  | t0 :: ts, k + 1, t, h => by
    have ih := tkL_at kd ts k t (by simpa using h)
    rw [tkL_cons]
    have e : ∀ r, (tkC kd t0 ++ tkL kd ts)[(k + 1) * 3 + r]? = (tkL kd ts)[k * 3 + r]? := fun r => by
      rw [List.getElem?_append_right (by simp [tkC]; omega)]
      simp only [tkC, List.length_cons, List.length_nil]
      congr 1; omega
    have e0 := e 0
    simp only [Nat.add_zero] at e0
    rw [e0, e 1, e 2]; exact ih
theorem one3 (kd : IntKind) (a b c : Int) : ∀ u ∈ [Value.int kd a, .int .i64 b, .int .i64 c], u.oneCell' = true := by
  intro u hu
  simp at hu
  rcases hu with rfl | rfl | rfl <;> rfl
/-- A fault's block in the world's next place; nothing that was there has turned. -/
structure FB (w wx : World) (c a : Int) : Prop where
  below : Below w.heap.size w wx
  v : wx.heap[w.heap.size]? = some (fvO c a)
section
variable {w wx wy : World} {c a c' a' : Int}
theorem FB.start : FB w (w.alloc (fvO c a)) c a := ⟨(Below.refl _ _).alloc (Nat.le_refl _) _, by show (w.heap.push _)[w.heap.size]? = _; simp⟩
theorem FB.lt (H : FB w wx c a) : w.heap.size < wx.heap.size := lt_blk H.v
theorem FB.on (H : FB w wx c a) (hb : Below wx.heap.size wx wy) : FB w wy c a := ⟨below_tr H.below hb, by rw [hb.block _ (lt_blk H.v)]; exact H.v⟩
theorem FB.alloc (H : FB w wx c a) (o : Obj) : FB w (wx.alloc o) c a := H.on ((Below.refl _ _).alloc (Nat.le_refl _) _)
theorem FB.grown (H : FB w wx c a) {row : Option Nat} (hg : wx.grownBy wy row) (hr : ∀ k, row = some k → w.heap.size + 1 ≤ k) : FB w wy c a :=
  ⟨H.below.grown hg H.below.size (fun k e => by have := hr k e; omega), by
    rw [hg.block _ (lt_blk H.v) (fun e => by have := hr _ e.symm; omega)]; exact H.v⟩
theorem FB.cells (H : FB w wx c a) : (wx.cell? ⟨w.heap.size, 0, none⟩ = some (.int .i64 c) ∧ wx.cell? ⟨w.heap.size, 1, none⟩ = some (.int .i64 a)) ∧ wx.frozen? ⟨w.heap.size, 0, none⟩ = false ∧ wx.frozen? ⟨w.heap.size, 1, none⟩ = false := by
  simp [World.cell?, World.frozen?, H.v]
theorem FB.set (H : FB w wx c a) : FB w ((wx.setCell ⟨w.heap.size, 0, none⟩ (.int .i64 c')).setCell ⟨w.heap.size, 1, none⟩ (.int .i64 a')) c' a' := by
  have h1 := heap_setCell_same wx w.heap.size 0 _ _ (.int .i64 c') H.v
  have h2 := heap_setCell_same _ w.heap.size 1 _ _ (.int .i64 a') h1
  exact ⟨(H.below.setCell (by simp) _).setCell (by simp) _, h2⟩
end
section
variable {w w' : World} {base : Nat} {e : TypeId} {size : Nat} {v : Value} {n : Nat} {xs : List Value}
theorem own_below (h : w.ownsRow base e size v n xs) {B : Nat} (hb : Below B w w') (hB : w.heap.size ≤ B) : w'.ownsRow base e size v n xs := by
  refine ⟨h.1, ?_⟩
  rcases h.2 with hn | ⟨g, cap, cur, rfl, hbg, hg, rest⟩
  · exact .inl hn
  · refine .inr ⟨g, cap, cur, rfl, hbg, ?_, rest⟩
    rw [hb.block g (by have := lt_blk hg; omega)]; exact hg
theorem own_set (h : w.ownsRow base e size v n xs) {p : Addr} {u : Value} (hp : p.block < base) : (w.setCell p u).ownsRow base e size v n xs := by
  refine ⟨h.1, ?_⟩
  rcases h.2 with hn | ⟨g, cap, cur, rfl, hbg, hg, rest⟩
  · exact .inl hn
  · refine .inr ⟨g, cap, cur, rfl, hbg, ?_, rest⟩
    rw [heap_setCell_other w p g u (by omega)]; exact hg
theorem own_base (h : w.ownsRow base e size v n xs) {b : Nat} (hb : b ≤ base) : w.ownsRow b e size v n xs := by
  refine ⟨h.1, ?_⟩
  rcases h.2 with hn | ⟨g, cap, cur, rfl, hbg, rest⟩
  · exact .inl hn
  · exact .inr ⟨g, cap, cur, rfl, by omega, rest⟩
theorem own_row {k : Nat} (h : w.ownsRow base e size v n xs) (hk : v.ownBlock = some k) : base ≤ k ∧ k < w.heap.size := h.lt k hk
end
/-- Two blocks more: a token's, a fault's. -/
structure W2 (W W' : World) (o : Obj) (c a : Int) : Prop where
  below : Below W.heap.size W W'
  size : W'.heap.size = W.heap.size + 2
  r : W'.heap[W.heap.size]? = some o
  v : W'.heap[W.heap.size + 1]? = some (fvO c a)
theorem W2.start {W : World} {o : Obj} {c a : Int} : W2 W ((W.alloc o).alloc (fvO c a)) o c a :=
  ⟨((Below.refl _ _).alloc (Nat.le_refl _) _).alloc (by simp) _, by show ((W.heap.push _).push _).size = _; simp, by
    show ((W.heap.push _).push _)[W.heap.size]? = _
    rw [Array.getElem?_push, if_neg (by simp), Array.getElem?_push, if_pos rfl], by
    show ((W.heap.push _).push _)[W.heap.size + 1]? = _
    rw [Array.getElem?_push, if_pos (by simp)]⟩
theorem W2.faults {W W' : World} {o : Obj} {c a : Int} (h : W2 W W' o c a) : W'.cell? ⟨W.heap.size + 1, 0, none⟩ = some (.int .i64 c) ∧ W'.cell? ⟨W.heap.size + 1, 1, none⟩ = some (.int .i64 a) := by
  simp [World.cell?, h.v]
theorem W2.toks {W W' : World} {x y z : Value} {t : TypeId} {c a : Int} (h : W2 W W' (.cells #[x, y, z] t) c a) : W'.cell? ⟨W.heap.size, 0, none⟩ = some x ∧ W'.cell? ⟨W.heap.size, 1, none⟩ = some y ∧ W'.cell? ⟨W.heap.size, 2, none⟩ = some z := by
  simp [World.cell?, h.r]
theorem cells_new {w : World} {t : TypeId} (cs : Array Value) (xs : List Value) (h : cs.toList = xs) : ∀ j u, xs[j]? = some u → (w.alloc (.cells cs t)).cell? ((⟨w.heap.size, 0, none⟩ : Addr).add j) = some u := fun j u hu => by
  rw [addAt, World.cell?_alloc_at _ _ _ _ rfl, ← Array.getElem?_toList, h, Nat.zero_add, hu]
/-- What is told of a fault. -/
def ftV : Option Nat → Value
  | none => fvV 0 0
  | some a => fvV 3 (a : Nat)
end Jk
end Go.Proofs.YtdclhepjoifpiaaGreatDoor
