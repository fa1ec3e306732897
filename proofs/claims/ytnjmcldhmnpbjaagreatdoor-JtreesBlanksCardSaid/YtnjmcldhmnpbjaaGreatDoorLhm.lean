/- The text that the law of blanks makes, as far as it is made. -/
import Derived.Test.YtnjmcldhmnpbjaaGreatDoorLgm
import Derived.Test.YtnjmcldhmnpbjaaGreatDoorKsm
namespace Go.Proofs.YtnjmcldhmnpbjaaGreatDoor
open Go.RowKit
namespace Jt
open Jk (tks)

/-- As far as so many blanks were put. -/
def preL (l : Bs) : List Bs → List Tok → Bs
  | [], _ => []
  | s :: _, [] => s
  | s :: ss, t :: r => s ++ ((if t.1 ≠ 0 then part l t.2 else []) ++ (sepB r ++ preL l ss r))
/-- What one round puts behind its blanks. -/
def chk1 (l : Bs) : List Tok → Bs
  | [] => []
  | t :: r => (if t.1 ≠ 0 then part l t.2 else []) ++ sepB r
theorem preL_snoc (l : Bs) (s : Bs) : ∀ (Ss : List Bs) (T : List Tok), Ss.length ≤ T.length → preL l (Ss ++ [s]) T = preL l Ss T ++ (s ++ chk1 l (T.drop Ss.length))
  | [], [], _ => by simp [preL, chk1]
  | [], t :: r, _ => by
    rw [List.nil_append, preL, preL, preL, List.nil_append, List.length_nil, List.drop_zero, chk1, List.append_nil]
  | a :: Ss, [], h => by simp at h
  | a :: Ss, t :: r, h => by
    rw [List.cons_append, preL, preL, preL_snoc l s Ss r (by simpa using h), List.length_cons, List.drop_succ_cons]
    simp
theorem preL_bld (l : Bs) : ∀ (Ss : List Bs) (T : List Tok) (i : Nat) (S : Nat → Bs), Ss.length = T.length + 1 → (∀ j s, Ss[j]? = some s → S (i + j) = s) → preL l Ss T = bld l S i T
  | [], T, _, _, h, _ => by simp at h
  | [s], [], i, S, _, hS => by
    rw [preL, bld]; exact (hS 0 s rfl).symm
  | _ :: _ :: _, [], _, _, h, _ => by simp at h
  | s :: ss, t :: r, i, S, h, hS => by
    rw [preL, bld, preL_bld l ss r (i + 1) S (by simpa using h) (fun j x hx => by rw [show i + 1 + j = i + (j + 1) by omega]; exact hS (j + 1) x hx), show S i = s from hS 0 s rfl]
theorem preL_len (l : Bs) : ∀ (Ss : List Bs) (T : List Tok), (∀ s ∈ Ss, s.length ≤ 3) → (preL l Ss T).length ≤ Ss.length * (4 + l.length)
  | [], _, _ => by simp [preL]
  | s :: ss, [], h => by
    have := h s List.mem_cons_self
    rw [preL, List.length_cons, Nat.add_mul]; omega
  | s :: ss, t :: r, h => by
    have h1 := h s List.mem_cons_self
    have h2 := preL_len l ss r fun x hx => h x (List.mem_cons_of_mem _ hx)
    have h3 : (if t.1 ≠ 0 then part l t.2 else []).length ≤ l.length := by
      split
      · show ((l.take t.2.2).drop t.2.1).length ≤ _
        rw [List.length_drop, List.length_take]; omega
      · exact Nat.zero_le _
    have h4 : (sepB r).length ≤ 1 := by unfold sepB; split <;> (try split) <;> simp
    rw [preL, List.length_append, List.length_append, List.length_append, List.length_cons, Nat.add_mul]
    omega
theorem few_tks {l : Bs} : ∀ (m i : Nat), l.length - i ≤ m → (tks l i).1.length ≤ l.length - i := by
  intro m
  induction m with
  | zero => intro i hi; rw [Jk.tks_end (by omega)]; exact Nat.zero_le _
  | succ m ih =>
    intro i hi
    by_cases hlt : i < l.length
    · cases hx : Jk.nx (l.drop i) with
      | bad n => rw [Jk.tks_bad hlt hx]; exact Nat.zero_le _
      | tok k n =>
        have hk := Jk.tk_of hx
        have hn := Jk.tk_len hk
        have h1 := ih (i + n) (by omega)
        rw [List.length_drop] at hn
        rw [Jk.tks_tok hk, List.length_cons]
        omega
    · rw [Jk.tks_end (by omega)]; exact Nat.zero_le _
/-- A blank, by its number. -/
def blk (k : Nat) : UInt8 := ([32, 9, 10, 13] : List UInt8).getD k 0
theorem blk_spc {k : Nat} (h : k < 4) : Jk.spc ((blk k).toNat : Int) = true := by
  rcases (show k = 0 ∨ k = 1 ∨ k = 2 ∨ k = 3 by omega) with rfl | rfl | rfl | rfl <;> decide
/-- The bytes so far are the call's own row; what stood ahead of it has not turned. -/
def RB (W wr : World) (t : Bs) (v : Value) : Prop := wr.ownsRow W.heap.size 5 1 v t.length (bytV t) ∧ Below W.heap.size W wr
section
variable {W wr w' : World} {t u : Bs} {v v' : Value}
theorem RB.start : RB W W [] (.slice none 0 0) := ⟨World.ownsRow_nil W _ 5 1, Below.refl _ _⟩
theorem RB.on (h : RB W wr t v) (hb : Below wr.heap.size wr w') : RB W w' t v := ⟨own_keep h.1 fun k hk => hb.block k (h.1.lt k hk).2, Jk.below_tr h.2 hb⟩
theorem RB.block (h : RB W wr t v) : ∀ g, v.ownBlock = some g → W.heap.size ≤ g := fun g e => (h.1.lt g e).1
theorem RB.app {o : Obj} (h : RB W wr t v) (h1 : w'.ownsRow W.heap.size 5 1 v' (t.length + u.length) (bytV t ++ bytV u)) (h2 : (wr.alloc o).grownBy w' v.ownBlock) : RB W w' (t ++ u) v' := by
  refine ⟨?_, (h.2.alloc h.2.size o).grown h2 (by have := h.2.size; simp; omega) h.block⟩
  rw [List.length_append, show bytV (t ++ u) = bytV t ++ bytV u by simp [bytV]]
  exact h1
theorem RB.put (h : RB W wr t v) (h1 : w'.ownsRow W.heap.size 5 1 v' (t.length + u.length) (bytV t ++ bytV u)) (h2 : wr.grownBy w' v.ownBlock) : RB W w' (t ++ u) v' := by
  refine ⟨?_, h.2.grown h2 h.2.size h.block⟩
  rw [List.length_append, show bytV (t ++ u) = bytV t ++ bytV u by simp [bytV]]
  exact h1
end
end Jt
end Go.Proofs.YtnjmcldhmnpbjaaGreatDoor
