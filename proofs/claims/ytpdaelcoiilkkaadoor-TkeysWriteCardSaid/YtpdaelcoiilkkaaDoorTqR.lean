/- A string's reader in memory: what it holds, and what keeps it. -/
import Derived.Test.YtpdaelcoiilkkaaDoorTqW
import Derived.Test.YtpdaelcoiilkkaaDoorApp
import Derived.Test.YtpdaelcoiilkkaaDoorPut
import Derived.OneCell
import Derived.Lib.AppendStr
import Derived.BigQuiet
import Derived.Deep.QuietTactic
import Derived.Deep.RegionLaw
import Derived.Deep.RegionWith
import Derived.LoopTactic
import Derived.Outline
import Derived.Deep.LoopGhost
namespace Go.Proofs.YtpdaelcoiilkkaaDoor
open Go.RowKit

/-- A reader's kind: its type, and its mark. -/
structure Kd where
  T : Nat
  q : UInt8
  m : Int
  hm : m = (q.toNat : Int)
  h5 : T ≠ 5
abbrev tdo (K : Kd) (s : ByteArray) (p : Int) (v : Value) : Obj := .cells #[.string s, .int .i64 p, .int .u8 K.m, v] K.T
/-- The reader, of the kind K, lies in block b, of the text s, at place p; it has told t; nothing that W had has turned. -/
def TR (W : World) (b : Nat) (K : Kd) (s : ByteArray) (w : World) (p : Int) (t : List UInt8) : Prop :=
  Below W.heap.size W w ∧ W.heap.size ≤ b ∧ ∃ v, w.heap[b]? = some (tdo K s p v) ∧ w.ownsRow W.heap.size 5 1 v t.length (bytV t)
theorem td_cells {w : World} {b : Nat} {K : Kd} {s : ByteArray} {p : Int} {v : Value} (h : w.heap[b]? = some (tdo K s p v)) :
    w.cell? ⟨b, 0, none⟩ = some (.string s) ∧ w.cell? ⟨b, 1, none⟩ = some (.int .i64 p) ∧ w.cell? ⟨b, 2, none⟩ = some (.int .u8 K.m) ∧ w.cell? ⟨b, 3, none⟩ = some v ∧ ∀ i, w.frozen? ⟨b, i, none⟩ = false := by
  simp [World.cell?, World.frozen?, h]
theorem tnot_own {w : World} {b base n : Nat} {K : Kd} {s : ByteArray} {p : Int} {v u : Value} {xs : List Value} (h : w.heap[b]? = some (tdo K s p v)) (hown : w.ownsRow base 5 1 u n xs) : u.ownBlock ≠ some b := by
  rcases hown.2 with ⟨rfl, _⟩ | ⟨g, cap, cur, rfl, _, hg, _⟩
  · intro h; cases h
  · intro e
    obtain rfl : g = b := by simpa [Value.ownBlock] using e
    rw [h] at hg
    injection hg with hg
    injection hg with _ h2 _
    exact absurd h2 K.h5
section
variable {W w w' : World} {b : Nat} {K : Kd} {s : ByteArray} {p : Int} {t : List UInt8}
theorem TR.drewN (h : TR W b K s w p t) (n : Nat) : TR W b K s (w.drewN n) p t := by
  obtain ⟨h1, h2, v, h3, h4⟩ := h
  exact ⟨⟨h1.os, h1.tape, h1.output, h1.size, h1.block⟩, h2, v, h3, h4⟩
theorem TR.drew (h : TR W b K s w p t) : TR W b K s w.drew p t := h.drewN 1
theorem TR.lt (h : TR W b K s w p t) : b < w.heap.size := by
  obtain ⟨_, _, v, h3, _⟩ := h
  exact lt_of_block h3
theorem TR.grown (h : TR W b K s w p t) (hg : w.grownBy w' none) : TR W b K s w' p t := by
  have hl := h.lt
  obtain ⟨h1, h2, v, h3, h4⟩ := h
  exact ⟨h1.grown hg h1.size (fun _ e => by cases e), h2, v, (hg.block b hl (fun e => by cases e)).trans h3, h4.kept hg (by
    rcases h : v.ownBlock with _ | g
    · exact .inl rfl
    · exact .inr (by simp))⟩
theorem TR.alloc (h : TR W b K s w p t) (o : Obj) : TR W b K s (w.alloc o) p t := h.grown (World.grownBy_alloc w o none)
theorem TR.below (h : TR W b K s w p t) (hb : Below w.heap.size w w') : TR W b K s w' p t := h.grown ⟨hb.os, hb.tape, hb.output, hb.size, fun k hk _ => hb.block k hk⟩
theorem TR.pos (h : TR W b K s w p t) (q : Int) : TR W b K s (w.setCell ⟨b, 1, none⟩ (.int .i64 q)) q t := by
  obtain ⟨h1, h2, v, h3, h4⟩ := h
  exact ⟨h1.setCell h2 _, h2, v, by rw [heap_setCell_same _ _ _ _ _ _ h3]; rfl, ownsRow_setCell_other h4 (tnot_own h3 h4) _⟩
/-- The same, with the text's slice named. -/
def TV (W : World) (b : Nat) (K : Kd) (s : ByteArray) (w : World) (p : Int) (t : List UInt8) (v : Value) : Prop :=
  Below W.heap.size W w ∧ W.heap.size ≤ b ∧ w.heap[b]? = some (tdo K s p v) ∧ w.ownsRow W.heap.size 5 1 v t.length (bytV t)
theorem TR.rv (h : TR W b K s w p t) : ∃ v, TV W b K s w p t v := by
  obtain ⟨h1, h2, v, h3, h4⟩ := h
  exact ⟨v, h1, h2, h3, h4⟩
theorem TV.rs {v : Value} (h : TV W b K s w p t v) : TR W b K s w p t := ⟨h.1, h.2.1, v, h.2.2.1, h.2.2.2⟩
theorem TV.drewN {v : Value} (h : TV W b K s w p t v) (n : Nat) : TV W b K s (w.drewN n) p t v := by
  obtain ⟨h1, h2, h3, h4⟩ := h
  exact ⟨⟨h1.os, h1.tape, h1.output, h1.size, h1.block⟩, h2, h3, h4⟩
theorem TV.drew {v : Value} (h : TV W b K s w p t v) : TV W b K s w.drew p t v := h.drewN 1
theorem TV.grown {v : Value} (h : TV W b K s w p t v) (hg : w.grownBy w' none) : TV W b K s w' p t v := by
  obtain ⟨h1, h2, h3, h4⟩ := h
  exact ⟨h1.grown hg h1.size (fun _ e => by cases e), h2, (hg.block b (lt_of_block h3) (fun e => by cases e)).trans h3, h4.kept hg (by
    rcases h : v.ownBlock with _ | g
    · exact .inl rfl
    · exact .inr (by simp))⟩
theorem TV.alloc {v : Value} (h : TV W b K s w p t v) (o : Obj) : TV W b K s (w.alloc o) p t v := h.grown (World.grownBy_alloc w o none)
theorem TV.below {v : Value} (h : TV W b K s w p t v) (hb : Below w.heap.size w w') : TV W b K s w' p t v := h.grown ⟨hb.os, hb.tape, hb.output, hb.size, fun k hk _ => hb.block k hk⟩
theorem TV.cells {v : Value} (h : TV W b K s w p t v) : w.cell? ⟨b, 0, none⟩ = some (.string s) ∧ w.cell? ⟨b, 1, none⟩ = some (.int .i64 p) ∧ w.cell? ⟨b, 2, none⟩ = some (.int .u8 K.m) ∧ w.cell? ⟨b, 3, none⟩ = some v ∧ ∀ i, w.frozen? ⟨b, i, none⟩ = false := td_cells h.2.2.1
/-- More is told. -/
theorem TR.text {v v' : Value} {u : List UInt8} (h1 : Below W.heap.size W w) (h2 : W.heap.size ≤ b) (h3 : w.heap[b]? = some (tdo K s p v)) (h4 : w.ownsRow W.heap.size 5 1 v t.length (bytV t))
    (hown : w'.ownsRow W.heap.size 5 1 v' (t.length + u.length) (bytV t ++ bytV u)) (hg : w.grownBy w' v.ownBlock) : (∃ A n c, v' = .slice A n c) ∧ w'.heap[b]? = some (tdo K s p v) ∧ TR W b K s (w'.setCell ⟨b, 3, none⟩ v') p (t ++ u) := by
  have h5 : w'.heap[b]? = some (tdo K s p v) := (hg.block b (lt_of_block h3) (fun e => tnot_own h3 h4 e.symm)).trans h3
  refine ⟨?_, h5, (h1.grown hg h1.size (fun g e => ?_)).setCell h2 _, h2, v', by rw [heap_setCell_same _ _ _ _ _ _ h5]; rfl, ownsRow_setCell_other ?_ (tnot_own h5 hown) _⟩
  · rcases hown.2 with ⟨rfl, _⟩ | ⟨g', cap, cur, rfl, _⟩
    · exact ⟨_, _, _, rfl⟩
    · exact ⟨_, _, _, rfl⟩
  · rcases h4.2 with ⟨rfl, _⟩ | ⟨g', cap, cur, rfl, hb, _⟩
    · cases e
    · obtain rfl : g' = g := by simpa [Value.ownBlock] using e
      exact hb
  · have e : bytV (t ++ u) = bytV t ++ bytV u := by simp [bytV]
    rw [e, List.length_append]; exact hown
theorem TV.text {v v' : Value} {u : List UInt8} (h : TV W b K s w p t v) (hown : w'.ownsRow W.heap.size 5 1 v' (t.length + u.length) (bytV t ++ bytV u)) (hg : w.grownBy w' v.ownBlock) :
    (∃ A n c, v' = .slice A n c) ∧ w'.heap[b]? = some (tdo K s p v) ∧ TR W b K s (w'.setCell ⟨b, 3, none⟩ v') p (t ++ u) := TR.text h.1 h.2.1 h.2.2.1 h.2.2.2 hown hg
end
theorem strCells_txt (l : List UInt8) : Lib.strCells (txt l) = bytV l := by
  simp [Lib.strCells, bytV, txt]

/-- append within a region that draws, from a row that is known. -/
theorem tstep_app {P : Program} {w : World} {ops : Array Oper} {o : Oper} {a : Act} {K : Act → World → Prop} {Q : Exit → Act → World → Prop} {E : Prop} (hgd : o.guard = none) (s x : Operand) (t : TypeId)
    (ho : o.op = .call { callee := .builtin .append, args := #[s, x], argTypes := #[t, t] })
    (base : Nat) (e : TypeId) (i : TypeInfo) (z : Value) (bytes : Nat) (h1 : P.underlying t = some (.slice e)) (h2 : P.info? e = some i) (h3 : i.zero = some z) (h4 : i.size = 1) (h5 : i.bytes = bytes) (h6 : z.cells.size = 1)
    (v : Value) (n : Nat) (xs : List Value) (hs : a.eval s = v) (hown : w.ownsRow base e 1 v n xs) (ao : Option Addr) (m c : Nat) (B : Nat) (l : List UInt8) (hx : a.eval x = .slice ao m c) (hm : m = l.length) (hA : Byt w B ao l) (hnone : ao = none → c = 0)
    (h63 : n + m ≤ maxLen) (hbytes : (n + m) * bytes ≤ 140737488355328) (hbase : base ≤ w.heap.size)
    (hK : ∀ v' w', w'.ownsRow base e 1 v' (n + m) (xs ++ bytV l) → w.grownBy w' v.ownBlock → K (a.put o.dst v') w') :
    if Region.wanted o (yielded ops a.tmps) = true then Oper.wp P o a w K Q else E := by
  have hw : Region.wanted o (yielded ops a.tmps) = true := by simp [Region.wanted, hgd]
  rw [if_pos hw]
  cases ao with
  | some ad =>
    obtain ⟨v', w', hrun, r1, r2, _, r3⟩ := run_append_own_at (P := P) w base t o.type e i z 1 bytes h1 h2 h3 h4 h5 h6 (by omega) v n xs hown ad m c (bytV l) (by rw [bytV_len]; omega) (bytV_cells hA) (bytV_one l) h63 hbytes hbase
    unfold Oper.wp
    simp [execOp, ho, resolve, invoke, builtin, hs, hx, hrun, Result.andThen]
    exact hK v' w' r1 r2
  | none =>
    obtain rfl := byt_none hA
    obtain rfl : m = 0 := hm
    obtain rfl := hnone rfl
    have hrun := run_append_owned_none (P := P) w base t o.type e i 1 h1 h2 _ n xs hown
    unfold Oper.wp
    simp [execOp, ho, resolve, invoke, builtin, hs, hx, hrun, Result.andThen]
    exact hK v w (by simpa [bytV] using hown) (World.grownBy.refl _ _)
/-- append of a text within a region that draws. -/
theorem tstep_str {P : Program} {w : World} {ops : Array Oper} {o : Oper} {a : Act} {K : Act → World → Prop} {Q : Exit → Act → World → Prop} {E : Prop} (hgd : o.guard = none) (sl x : Operand) (t u : TypeId)
    (ho : o.op = .call { callee := .builtin .append, args := #[sl, x], argTypes := #[t, u] })
    (base : Nat) (e : TypeId) (i : TypeInfo) (ht : P.underlying t = some (.slice e)) (hu : P.underlying u = some .string) (hi : P.info? e = some i) (hz : i.zero = some (.int .u8 0)) (hsize : i.size = 1) (hby : i.bytes = 1)
    (v : Value) (n : Nat) (xs : List Value) (hs : a.eval sl = v) (hown : w.ownsRow base e 1 v n xs) (s : ByteArray) (hx : a.eval x = .string s)
    (h63 : n + s.size ≤ maxLen) (hbytes : n + s.size ≤ 140737488355328) (hbase : base ≤ w.heap.size)
    (h : ∀ v' w', w'.ownsRow base e 1 v' (n + s.size) (xs ++ Lib.strCells s) → w.grownBy w' v.ownBlock → K (a.put o.dst v') w') :
    if Region.wanted o (yielded ops a.tmps) = true then Oper.wp P o a w K Q else E := by
  have hw : Region.wanted o (yielded ops a.tmps) = true := by simp [Region.wanted, hgd]
  rw [if_pos hw]
  obtain ⟨v', w', hr, h2, h3, _⟩ := Lib.run_append_own_string (P := P) w base t u o.type e i ht hu hi hz hsize hby v n xs hown s h63 hbytes hbase
  unfold Oper.wp
  simp [execOp, ho, resolve, invoke, builtin, hs, hx, hr, Result.andThen]
  exact h v' w' h2 h3
/-- Where the reader stands. -/
def posOf (b : Nat) (w : World) : Nat := match w.cell? ⟨b, 1, none⟩ with | some v => (intOf v).toNat | none => 0
theorem TR.posOf {W w : World} {b : Nat} {K : Kd} {s : ByteArray} {p : Nat} {t : List UInt8} (h : TR W b K s w p t) : posOf b w = p := by
  obtain ⟨_, _, v, h3, _⟩ := h
  obtain ⟨_, c1, _⟩ := td_cells h3
  simp [Proofs.YtpdaelcoiilkkaaDoor.posOf, c1, intOf]
end Go.Proofs.YtpdaelcoiilkkaaDoor
