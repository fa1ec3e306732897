/- What landed of TOML's keys: Read, round a reader of words that is given. -/
import Derived.Test.YtpdaelcoiilkkaaDoorTyc
import Derived.Test.YtpdaelcoiilkkaaDoorTyd
import Derived.Maps.AppendAt
namespace Go.Proofs.YtpdaelcoiilkkaaDoor
open Go.RowKit
namespace Ty

/-- What a word's reading answers. -/
inductive WR1 where
  | ok (t : Bs) (e : Nat)
  | bad (c a : Nat)
deriving DecidableEq
def wrv : WR1 → Value
  | .ok t e => .tuple #[.string (txt t), .int .i64 e, .agg #[.int .i64 0, .int .i64 0]]
  | .bad c a => .tuple #[.string ⟨#[]⟩, .int .i64 0, .agg #[.int .i64 c, .int .i64 a]]
/-- A key so far: words and spans. -/
abbrev Ky := List (Bs × (Nat × Nat))
inductive KR where
  | ok (k : Ky) (e : Nat)
  | bad (c a : Nat)
  | out
deriving DecidableEq
/-- Behind a word that ends at e: where the next one begins. -/
def nxt (l : Bs) (e : Nat) : Option Nat := if endP blK l e < l.length ∧ bt l (endP blK l e) = 46 then some (endP blK l (endP blK l e + 1)) else none
def krun (wd : Nat → WR1) (l : Bs) : Nat → Nat → Ky → KR
  | 0, _, _ => .out
  | f + 1, p, k => match wd p with
    | .bad c a => .bad c a
    | .ok t e => match nxt l e with
      | none => .ok (k ++ [(t, (p, e))]) e
      | some q => krun wd l f q (k ++ [(t, (p, e))])
def kwC (k : Ky) : List Value := k.map fun x => .string (txt x.1)
def ksC (k : Ky) : List Value := k.flatMap fun x => [.int .i64 (x.2.1 : Nat), .int .i64 (x.2.2 : Nat)]
theorem endP_ge (p : Int → Bool) (l : Bs) (i : Nat) : i ≤ endP p l i := by
  by_cases h : i < l.length ∧ p (bt l i) = true
  · rw [endP_on h.1 h.2]
    have := endP_ge p l (i + 1)
    omega
  · rw [endP, if_neg h]; exact Nat.le_refl _
termination_by l.length - i
theorem endP_le (p : Int → Bool) (l : Bs) (i : Nat) (hi : i ≤ l.length) : endP p l i ≤ l.length := by
  by_cases h : i < l.length ∧ p (bt l i) = true
  · rw [endP_on h.1 h.2]
    exact endP_le p l (i + 1) (by omega)
  · rw [endP, if_neg h]; exact hi
termination_by l.length - i
/-- The key so far in its block; the result's fault behind it; both rows the call's own. -/
structure KS (w wr : World) (vW vS : Value) (nw : Nat) (cw : List Value) (ns : Nat) (cs : List Value) : Prop where
  below : Below w.heap.size w wr
  key : wr.heap[w.heap.size]? = some (.cells #[vW, vS] 26)
  ft : wr.heap[w.heap.size + 1]? = some ftO
  ow : wr.ownsRow (w.heap.size + 2) 9 1 vW nw cw
  os : wr.ownsRow (w.heap.size + 2) 39 2 vS ns cs
  ne : ∀ b, vW.ownBlock = some b → vS.ownBlock ≠ some b
theorem lt_of {w : World} {b : Nat} {o : Obj} (h : w.heap[b]? = some o) : b < w.heap.size := (Array.getElem?_eq_some_iff.1 h).1
theorem al_size (w : World) (o : Obj) : (w.alloc o).heap.size = w.heap.size + 1 := by show (w.heap.push o).size = _; simp
theorem own_shape {w : World} {base size n : Nat} {e : TypeId} {v : Value} {xs : List Value} (h : w.ownsRow base e size v n xs) : ∃ A c, v = .slice A n c ∧ n ≤ c ∧ c ≤ maxLen := by
  rcases h.2 with ⟨rfl, rfl⟩ | ⟨g, cap, cur, rfl, _, _, h1, h2, _⟩
  · exact ⟨none, 0, rfl, Nat.le_refl _, Nat.zero_le _⟩
  · exact ⟨_, _, rfl, h1, h2⟩
theorem own_keep {w w' : World} {base size n : Nat} {e : TypeId} {v : Value} {xs : List Value} (h : w.ownsRow base e size v n xs) (hb : ∀ k, v.ownBlock = some k → w'.heap[k]? = w.heap[k]?) : w'.ownsRow base e size v n xs := by
  refine ⟨h.1, ?_⟩
  rcases h.2 with h0 | ⟨g, cap, cur, rfl, hbg, hg, r⟩
  · exact .inl h0
  · exact .inr ⟨g, cap, cur, rfl, hbg, by rw [hb g rfl]; exact hg, r⟩
section
variable {w wr w' w9 : World} {vW vS v' : Value} {nw ns : Nat} {cw cs news : List Value} {o : Obj}
theorem KS.on (h : KS w wr vW vS nw cw ns cs) (hb : Below wr.heap.size wr w') : KS w w' vW vS nw cw ns cs :=
  ⟨below_tr h.below hb, by rw [hb.block _ (lt_of h.key)]; exact h.key, by rw [hb.block _ (lt_of h.ft)]; exact h.ft, own_below h.ow hb, own_below h.os hb, h.ne⟩
theorem KS.cells (h : KS w wr vW vS nw cw ns cs) : wr.cell? ⟨w.heap.size, 0, none⟩ = some vW ∧ wr.cell? ⟨w.heap.size, 1, none⟩ = some vS ∧ wr.cell? ⟨w.heap.size + 1, 0, none⟩ = some (.int .i64 0) ∧ wr.cell? ⟨w.heap.size + 1, 1, none⟩ = some (.int .i64 0) := by
  simp [World.cell?, h.key, h.ft]
theorem KS.free (h : KS w wr vW vS nw cw ns cs) : wr.frozen? ⟨w.heap.size, 0, none⟩ = false ∧ wr.frozen? ⟨w.heap.size, 1, none⟩ = false ∧ wr.frozen? ⟨w.heap.size + 1, 0, none⟩ = false ∧ wr.frozen? ⟨w.heap.size + 1, 1, none⟩ = false := by
  simp [World.frozen?, h.key, h.ft]
/-- A row has grown, and stands in its cell. -/
theorem KS.word (h : KS w wr vW vS nw cw ns cs) (hg : (wr.alloc o).grownBy w9 vW.ownBlock) (hl : v'.ownBlock = vW.ownBlock ∨ v'.ownBlock = some (wr.alloc o).heap.size) (ho : w9.ownsRow (w.heap.size + 2) 9 1 v' (nw + 1) (cw ++ news)) :
    KS w (w9.setCell ⟨w.heap.size, 0, none⟩ v') v' vS (nw + 1) (cw ++ news) ns cs := by
  have hF := lt_of h.ft
  have hown : ∀ b, vW.ownBlock = some b → w.heap.size + 2 ≤ b ∧ b < wr.heap.size := fun b e => h.ow.lt b e
  have hos : ∀ b, vS.ownBlock = some b → w.heap.size + 2 ≤ b ∧ b < wr.heap.size := fun b e => h.os.lt b e
  have old : ∀ b, b < wr.heap.size → vW.ownBlock ≠ some b → w9.heap[b]? = wr.heap[b]? := fun b hb hn => by
    rw [hg.block b (by rw [al_size]; omega) (fun e => hn e.symm)]; exact Below.heap_alloc wr o b hb
  have nW : ∀ b, b < w.heap.size + 2 → vW.ownBlock ≠ some b := fun b hb e => by have := (hown b e).1; omega
  have hv : ∀ b, v'.ownBlock = some b → vW.ownBlock = some b ∨ wr.heap.size < b + 1 := fun b e => by
    rcases hl with q | q
    · exact .inl (q.symm.trans e)
    · rw [q, al_size] at e; injection e with e; exact .inr (by omega)
  have hsz := h.below.size
  refine ⟨((h.below.alloc hsz o).grown hg (by rw [al_size]; omega) (fun b e => by have := (hown b e).1; omega)).setCell (Nat.le_refl _) _, ?_, ?_, ?_, ?_, ?_⟩
  · have hk : w9.heap[w.heap.size]? = some (.cells #[vW, vS] 26) := by rw [old _ (by omega) (nW _ (by omega))]; exact h.key
    exact heap_setCell_same _ _ _ _ _ _ hk
  · rw [heap_setCell_other _ _ _ _ (by show w.heap.size + 1 ≠ w.heap.size; omega), old _ hF (nW _ (by omega))]; exact h.ft
  · exact ownsRow_setCell_other ho (fun e => by have h9 : w.heap.size + 2 ≤ w.heap.size := (ho.lt _ e).1; omega) _
  · refine ownsRow_setCell_other (own_keep h.os fun b hb => old b (hos b hb).2 fun e => h.ne b e hb) (fun e => by have h9 : w.heap.size + 2 ≤ w.heap.size := (hos _ e).1; omega) _
  · intro b e hs
    rcases hv b e with q | q
    · exact h.ne b q hs
    · have := (hos b hs).2; omega
theorem KS.span (h : KS w wr vW vS nw cw ns cs) (hg : (wr.alloc o).grownBy w9 vS.ownBlock) (hl : v'.ownBlock = vS.ownBlock ∨ v'.ownBlock = some (wr.alloc o).heap.size) (ho : w9.ownsRow (w.heap.size + 2) 39 2 v' (ns + 1) (cs ++ news)) :
    KS w (w9.setCell ⟨w.heap.size, 1, none⟩ v') vW v' nw cw (ns + 1) (cs ++ news) := by
  have hF := lt_of h.ft
  have hown : ∀ b, vS.ownBlock = some b → w.heap.size + 2 ≤ b ∧ b < wr.heap.size := fun b e => h.os.lt b e
  have how : ∀ b, vW.ownBlock = some b → w.heap.size + 2 ≤ b ∧ b < wr.heap.size := fun b e => h.ow.lt b e
  have old : ∀ b, b < wr.heap.size → vS.ownBlock ≠ some b → w9.heap[b]? = wr.heap[b]? := fun b hb hn => by
    rw [hg.block b (by rw [al_size]; omega) (fun e => hn e.symm)]; exact Below.heap_alloc wr o b hb
  have nS : ∀ b, b < w.heap.size + 2 → vS.ownBlock ≠ some b := fun b hb e => by have := (hown b e).1; omega
  have hv : ∀ b, v'.ownBlock = some b → vS.ownBlock = some b ∨ wr.heap.size < b + 1 := fun b e => by
    rcases hl with q | q
    · exact .inl (q.symm.trans e)
    · rw [q, al_size] at e; injection e with e; exact .inr (by omega)
  have hsz := h.below.size
  refine ⟨((h.below.alloc hsz o).grown hg (by rw [al_size]; omega) (fun b e => by have := (hown b e).1; omega)).setCell (Nat.le_refl _) _, ?_, ?_, ?_, ?_, ?_⟩
  · have hk : w9.heap[w.heap.size]? = some (.cells #[vW, vS] 26) := by rw [old _ (by omega) (nS _ (by omega))]; exact h.key
    exact heap_setCell_same _ _ _ _ _ _ hk
  · rw [heap_setCell_other _ _ _ _ (by show w.heap.size + 1 ≠ w.heap.size; omega), old _ hF (nS _ (by omega))]; exact h.ft
  · refine ownsRow_setCell_other (own_keep h.ow fun b hb => old b (how b hb).2 fun e => h.ne b hb e) (fun e => by have h9 : w.heap.size + 2 ≤ w.heap.size := (how _ e).1; omega) _
  · exact ownsRow_setCell_other ho (fun e => by have h9 : w.heap.size + 2 ≤ w.heap.size := (ho.lt _ e).1; omega) _
  · intro b e hs
    rcases hv b hs with q | q
    · exact h.ne b e q
    · have := (how b e).2; omega
end
theorem KS.start (w : World) : KS w ((w.alloc (.cells #[.slice none 0 0, .slice none 0 0] 26)).alloc ftO) (.slice none 0 0) (.slice none 0 0) 0 [] 0 [] := by
  refine ⟨((Below.refl _ _).alloc (Nat.le_refl _) _).alloc (by show w.heap.size ≤ (w.heap.push _).size; simp) _, ?_, ?_, World.ownsRow_nil _ _ _ _, World.ownsRow_nil _ _ _ _, fun b h => by cases h⟩
  · show ((w.heap.push _).push _)[w.heap.size]? = _
    rw [Array.getElem?_push_lt (by simp)]; simp
  · show ((w.heap.push _).push _)[w.heap.size + 1]? = _
    rw [Array.getElem?_push, if_pos (by simp)]
theorem zcS : (Value.agg #[.int .i64 0, .int .i64 0]).cells.size = 2 := by simp [Value.cells]
theorem oneSpan (p q : Int) : ∀ u ∈ [Value.int .i64 p, .int .i64 q], u.oneCell' = true := by
  intro u hu
  simp at hu
  rcases hu with rfl | rfl <;> rfl
theorem cells_new {w : World} {t : TypeId} (cs : Array Value) (xs : List Value) (h : cs.toList = xs) : ∀ j u, xs[j]? = some u → (w.alloc (.cells cs t)).cell? ((⟨w.heap.size, 0, none⟩ : Addr).add j) = some u := fun j u hu => by
  rw [addAt, World.cell?_alloc_at _ _ _ _ rfl, ← Array.getElem?_toList, h, Nat.zero_add, hu]
/-- What Read leaves. -/
def KPost (w : World) (r : KR) (e : Ending) (w' : World) : Prop :=
  Below w.heap.size w w' ∧ match r with
  | .bad c a => e = .returned (.tuple #[.agg #[.slice none 0 0, .slice none 0 0], .int .i64 0, .agg #[.int .i64 c, .int .i64 a]])
  | .ok k en => ∃ A B cA cB, e = .returned (.tuple #[.agg #[.slice A k.length k.length, .slice B k.length k.length], .int .i64 en, .agg #[.int .i64 0, .int .i64 0]]) ∧
      w'.ownsRow (w.heap.size + 2) 9 1 (.slice A k.length cA) k.length (kwC k) ∧ w'.ownsRow (w.heap.size + 2) 39 2 (.slice B k.length cB) k.length (ksC k)
  | .out => False
end Ty
end Go.Proofs.YtpdaelcoiilkkaaDoor
