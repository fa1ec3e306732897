/- TOML's values as lists: what is read from a place on, step by step: the reader's state. -/
import Derived.Test.YtbeefjhcbphiaaaGreatDoorHm
import Derived.Maps.AppendAt
import Derived.Maps.OwnSet
import Derived.DeepKeys4
import Derived.OwnWalk
namespace Go.Proofs.YtbeefjhcbphiaaaGreatDoor
namespace Tv
open Ty (WR1 KR Ky Bs blK endP endP_on endP_no endP_far)

structure Nd where
  kind : Nat
  text : Bs
  keys : List Bs
  spots : List (Nat × Nat)
  subs : List Nat
  span : Int × Int
deriving DecidableEq
def Nd.addKey (k : Bs) (sp : Nat × Nat) (x : Nd) : Nd := { x with keys := x.keys ++ [k], spots := x.spots ++ [sp] }
def Nd.addSub (n : Nat) (x : Nd) : Nd := { x with subs := x.subs ++ [n] }
def Nd.setTo (e : Nat) (x : Nd) : Nd := { x with span := (x.span.1, (e : Int)) }
def Nd.leaf (k : Nat) (t : Bs) (sp : Int × Int) : Nd := ⟨k, t, [], [], [], sp⟩
/-- The nodes that tables have by words, the latest one first. -/
abbrev Nm := List ((Nat × Bs) × Nat)
def lk : Nm → Nat × Bs → Option Nat
  | [], _ => none
  | x :: m, k => if x.1 = k then some x.2 else lk m k
/-- The reader: where it is, its nodes, their names. -/
structure St where
  a : Nat
  X : List Nd
  m : Nm
deriving DecidableEq
inductive Rs where
  | ok (s : St)
  | bad (c a : Nat)
  | out
deriving DecidableEq
/-- What a token tells: kind, text, how many bytes, what is wrong. -/
structure Tk where
  kind : Nat
  text : Bs
  many : Nat
  code : Nat
deriving DecidableEq
/-- A text, and what strings, keys and tokens tell from a place on. -/
structure Env where
  l : Bs
  sd : Nat → WR1
  kd : Nat → KR
  tk : Nat → Tk
def plC (c : Int) : Bool := decide (c = 9 ∨ 32 ≤ c ∧ c ≤ 126 ∨ 128 ≤ c)
def tkC (c : Int) : Bool := decide (97 ≤ c ∧ c ≤ 122 ∨ 65 ≤ c ∧ c ≤ 90 ∨ 48 ≤ c ∧ c ≤ 57 ∨ c = 43 ∨ c = 45 ∨ c = 95 ∨ c = 46)
/-- Where a comment ends. -/
def cm (l : Bs) (p : Nat) : Nat := if p < l.length ∧ bt l p = 35 then endP plC l (p + 1) else p
inductive GR where
  | ok (e : Nat)
  | bad (a : Nat)
deriving DecidableEq
/-- Where a gap ends. -/
def gp (l : Bs) : Nat → Nat → GR
  | 0, p => .ok p
  | f + 1, p =>
    if bt l (cm l (endP blK l p)) = 10 then gp l f (cm l (endP blK l p) + 1)
    else if bt l (cm l (endP blK l p)) = 13 then (if bt l (cm l (endP blK l p) + 1) = 10 then gp l f (cm l (endP blK l p) + 2) else .bad (cm l (endP blK l p) + 1))
    else .ok (cm l (endP blK l p))
def gap (l : Bs) (p : Nat) : GR := gp l (l.length + 1) p
def St.push (s : St) (n : Nd) (e : Nat) : St := { s with X := s.X ++ [n], a := e }
def St.addSub (s : St) (n : Nat) : St := { s with X := s.X.modify n (Nd.addSub s.X.length) }
/-- A list's, or a table's, last mark. -/
def St.close (s : St) (n : Nat) : St := { s with X := s.X.modify n (Nd.setTo (s.a + 1)), a := s.a + 1 }
def St.hang (s : St) (t : Nat) (w : Bs) (sp : Nat × Nat) : St := { s with X := s.X.modify t fun x => Nd.addSub s.X.length (Nd.addKey w sp x), m := ((t, w), s.X.length) :: s.m }
def St.open_ (s : St) : St := { s with X := s.X ++ [Nd.leaf 8 [] (-1, -1)] }
def lead : Ky → Nat → Nat → St → Rs
  | [], _, _, _ => .out
  | (w, sp) :: k, t, ar, s =>
    match k with
    | [] => (match lk s.m (t, w) with | some _ => .bad 5 sp.1 | none => .ok (s.hang t w sp))
    | _ :: _ => match lk s.m (t, w) with
      | none => if 256 ≤ ar then .bad 4 sp.1 else lead k s.X.length (ar + 1) (s.hang t w sp).open_
      | some n => match s.X[n]? with
        | none => .out
        | some x => if 0 ≤ x.span.1 then .bad 5 sp.1 else lead k n (ar + 1) s
def quo (E : Env) (s : St) : Rs := match E.sd s.a with
  | .bad c a => .bad c a
  | .ok t e => .ok (s.push (Nd.leaf 3 t (s.a, e)) e)
def bare (E : Env) (s : St) : Rs :=
  if (E.tk s.a).code = 0 then .ok (s.push (Nd.leaf (E.tk s.a).kind (E.tk s.a).text (s.a, ((s.a + (E.tk s.a).many : Nat) : Int))) (s.a + (E.tk s.a).many)) else .bad (E.tk s.a).code s.a
mutual
def val (E : Env) : Nat → St → Nat → Rs
  | 0, _, _ => .out
  | f + 1, s, ar =>
    if bt E.l s.a = 34 ∨ bt E.l s.a = 39 then quo E s
    else if bt E.l s.a = 91 then
      (if 256 ≤ ar then .bad 4 s.a else match gap E.l (s.a + 1) with
        | .bad a => .bad 3 a
        | .ok e => items E f s.X.length (s.push (Nd.leaf 7 [] (s.a, ((s.a + 1 : Nat) : Int))) e) ar)
    else if bt E.l s.a = 123 then
      (if 256 ≤ ar then .bad 4 s.a
        else if bt E.l (endP blK E.l (s.a + 1)) = 125 then .ok ((s.push (Nd.leaf 8 [] (s.a, ((s.a + 1 : Nat) : Int))) (endP blK E.l (s.a + 1))).close s.X.length)
        else pairs E f s.X.length (s.push (Nd.leaf 8 [] (s.a, ((s.a + 1 : Nat) : Int))) (endP blK E.l (s.a + 1))) ar)
    else bare E s
def items (E : Env) : Nat → Nat → St → Nat → Rs
  | 0, _, _, _ => .out
  | f + 1, n, s, ar =>
    if bt E.l s.a = 93 then .ok (s.close n)
    else match val E f (s.addSub n) (ar + 1) with
      | .bad c a => .bad c a
      | .out => .out
      | .ok s1 => match gap E.l s1.a with
        | .bad a => .bad 3 a
        | .ok e =>
          if bt E.l e = 44 then (match gap E.l (e + 1) with
            | .bad a => .bad 3 a
            | .ok e2 => items E f n { s1 with a := e2 } ar)
          else if bt E.l e = 93 then .ok ({ s1 with a := e }.close n)
          else .bad 3 e
def pairs (E : Env) : Nat → Nat → St → Nat → Rs
  | 0, _, _, _ => .out
  | f + 1, n, s, ar => match E.kd (endP blK E.l s.a) with
    | .bad c a => .bad c a
    | .out => .out
    | .ok k e => match lead k n (ar + 1) { s with a := endP blK E.l s.a } with
      | .bad c a => .bad c a
      | .out => .out
      | .ok s1 =>
        if bt E.l (endP blK E.l e) = 61 then (match val E f { s1 with a := endP blK E.l (endP blK E.l e + 1) } (ar + k.length) with
          | .bad c a => .bad c a
          | .out => .out
          | .ok s2 =>
            if bt E.l (endP blK E.l s2.a) = 44 then pairs E f n { s2 with a := endP blK E.l s2.a + 1 } ar
            else if bt E.l (endP blK E.l s2.a) = 125 then .ok ({ s2 with a := endP blK E.l s2.a }.close n)
            else .bad 3 (endP blK E.l s2.a))
        else .bad 3 (endP blK E.l e)
end
end Tv
end Go.Proofs.YtbeefjhcbphiaaaGreatDoor
/- Trees' nodes in memory: a row of nodes, each of which has rows of its own; what appends and stores do to them. -/
namespace Go.Proofs.YtbeefjhcbphiaaaGreatDoor
open Go.RowKit
namespace Tv
open Ty (Bs)

theorem lt_blk {w : World} {b : Nat} {o : Obj} (h : w.heap[b]? = some o) : b < w.heap.size := (Array.getElem?_eq_some_iff.1 h).1

/-- Whose a block is: the row of nodes, a row of a node's, the stack's row, a map's, or some other's. -/
inductive Own where
  | nd
  | fld (j i : Nat)
  | no
def Own.tree : Own → Bool
  | .nd => true
  | .fld _ _ => true
  | _ => false
/-- A node with its three rows as they stand. -/
structure Nx where
  nd : Nd
  v : Nat → Value
def ety : Nat → TypeId
  | 0 => 9
  | 1 => 40
  | _ => 3
def esz : Nat → Nat
  | 1 => 2
  | _ => 1
def strC (k : Bs) : List Value := [.string (txt k)]
def spC (s : Nat × Nat) : List Value := [.int .i64 (s.1 : Nat), .int .i64 (s.2 : Nat)]
def inC (k : Nat) : List Value := [.int .i64 k]
def ecs (x : Nd) : Nat → List Value
  | 0 => x.keys.flatMap strC
  | 1 => x.spots.flatMap spC
  | _ => x.subs.flatMap inC
def ecn (x : Nd) : Nat → Nat
  | 0 => x.keys.length
  | 1 => x.spots.length
  | _ => x.subs.length
def ndC (x : Nx) : List Value := [.int .u8 (x.nd.kind : Nat), .string (txt x.nd.text), x.v 0, x.v 1, x.v 2, .int .i64 x.nd.span.1, .int .i64 x.nd.span.2]
def ndL (X : List Nx) : List Value := X.flatMap ndC
theorem ndL_cons (x : Nx) (X : List Nx) : ndL (x :: X) = ndC x ++ ndL X := by simp [ndL]
theorem ndL_app (X Y : List Nx) : ndL (X ++ Y) = ndL X ++ ndL Y := by simp [ndL]
theorem ndL_one (x : Nx) : ndL [x] = ndC x := by simp [ndL]
theorem ndC_len (x : Nx) : (ndC x).length = 7 := rfl
theorem ndL_len : ∀ X : List Nx, (ndL X).length = X.length * 7
  | [] => rfl
  | x :: X => by rw [ndL_cons, List.length_append, ndC_len, ndL_len X, List.length_cons]; omega
theorem ndL_at : ∀ (X : List Nx) (i : Nat) (x : Nx) (r : Nat), X[i]? = some x → r < 7 → (ndL X)[i * 7 + r]? = (ndC x)[r]?
  | [], _, _, _, h, _ => by simp at h
  | y :: X, 0, x, r, h, hr => by
    obtain rfl : y = x := by simpa using h
    rw [ndL_cons, List.getElem?_append_left (by rw [ndC_len]; omega)]; congr 1; omega
  | y :: X, i + 1, x, r, h, hr => by
    have ih := ndL_at X i x r (by simpa using h) hr
    rw [ndL_cons, List.getElem?_append_right (by rw [ndC_len]; omega), ndC_len, ← ih]; congr 1; omega
theorem ndL_set : ∀ (X : List Nx) (i : Nat) (x x' : Nx) (r : Nat) (u : Value), X[i]? = some x → r < 7 → ndC x' = (ndC x).set r u → (ndL X).set (i * 7 + r) u = ndL (X.set i x')
  | [], _, _, _, _, _, h, _, _ => by simp at h
  | y :: X, 0, x, x', r, u, h, hr, e => by
    obtain rfl : y = x := by simpa using h
    rw [ndL_cons, List.set_append_left _ _ (by rw [ndC_len]; omega), List.set_cons_zero, ndL_cons, e]; congr 2; omega
  | y :: X, i + 1, x, x', r, u, h, hr, e => by
    have ih := ndL_set X i x x' r u (by simpa using h) hr e
    rw [ndL_cons, List.set_append_right _ _ (by rw [ndC_len]; omega), ndC_len, List.set_cons_succ, ndL_cons, ← ih]; congr 2; omega
/-- A row to read: as one that is owned, but for what lies behind its capacity. -/
def Rr (w : World) (base : Nat) (e : TypeId) (size : Nat) (v : Value) (n : Nat) (xs : List Value) : Prop :=
  xs.length = n * size ∧
  ((v = .slice none 0 0 ∧ n = 0) ∨
   ∃ g cap cur, v = .slice (some ⟨g, 0, none⟩) n cap ∧ base ≤ g ∧ w.heap[g]? = some (.cells cur e (0, 0)) ∧ n ≤ cap ∧ cap ≤ maxLen ∧ cap * size ≤ cur.size ∧ cur.toList.take (n * size) = xs)
section
variable {w w' : World} {base : Nat} {e : TypeId} {size : Nat} {v : Value} {n : Nat} {xs : List Value}
theorem Rr.of_own (h : w.ownsRow base e size v n xs) : Rr w base e size v n xs := by
  refine ⟨h.1, ?_⟩
  rcases h.2 with hn | ⟨g, cap, cur, e1, hb, hg, h1, h2, h3, h4⟩
  · exact .inl hn
  · exact .inr ⟨g, cap, cur, e1, hb, hg, h1, h2, Nat.le_of_eq h3.symm, h4⟩
theorem Rr.lt (h : Rr w base e size v n xs) : ∀ k, v.ownBlock = some k → base ≤ k ∧ k < w.heap.size := by
  intro k hk
  rcases h.2 with ⟨rfl, _⟩ | ⟨g, cap, cur, rfl, hb, hg, _⟩
  · simp [Value.ownBlock] at hk
  · simp [Value.ownBlock] at hk
    subst hk
    exact ⟨hb, lt_blk hg⟩
theorem Rr.keep (h : Rr w base e size v n xs) (hb : ∀ k, v.ownBlock = some k → w'.heap[k]? = w.heap[k]?) : Rr w' base e size v n xs := by
  refine ⟨h.1, ?_⟩
  rcases h.2 with hn | ⟨g, cap, cur, rfl, hbg, hg, rest⟩
  · exact .inl hn
  · exact .inr ⟨g, cap, cur, rfl, hbg, by rw [hb g rfl]; exact hg, rest⟩
theorem own_keep (h : w.ownsRow base e size v n xs) (hb : ∀ k, v.ownBlock = some k → w'.heap[k]? = w.heap[k]?) : w'.ownsRow base e size v n xs := by
  refine ⟨h.1, ?_⟩
  rcases h.2 with hn | ⟨g, cap, cur, rfl, hbg, hg, rest⟩
  · exact .inl hn
  · exact .inr ⟨g, cap, cur, rfl, hbg, by rw [hb g rfl]; exact hg, rest⟩
theorem Rr.shape (h : Rr w base e size v n xs) : ∃ A c, v = .slice A n c ∧ n ≤ c ∧ c ≤ maxLen ∧ (A = none → c = 0) := by
  rcases h.2 with ⟨rfl, rfl⟩ | ⟨g, cap, cur, rfl, _, _, h1, h2, _⟩
  · exact ⟨none, 0, rfl, Nat.le_refl _, Nat.zero_le _, fun _ => rfl⟩
  · exact ⟨_, cap, rfl, h1, h2, fun h => by cases h⟩
/-- The capacity cut to the length. -/
def clipV : Value → Value
  | .slice A n _ => .slice A n n
  | v => v
theorem Rr.clip (h : Rr w base e size v n xs) : Rr w base e size (clipV v) n xs := by
  refine ⟨h.1, ?_⟩
  rcases h.2 with ⟨rfl, rfl⟩ | ⟨g, cap, cur, rfl, hb, hg, h1, h2, h3, h4⟩
  · exact .inl ⟨rfl, rfl⟩
  · exact .inr ⟨g, n, cur, rfl, hb, hg, Nat.le_refl _, Nat.le_trans h1 h2, Nat.le_trans (Nat.mul_le_mul_right _ h1) h3, h4⟩
theorem clip_block (v : Value) : (clipV v).ownBlock = v.ownBlock := by
  unfold clipV
  split
  · rename_i A _ _; cases A <;> rfl
  · rfl
/-- A store into one's own row. -/
theorem own_store (h : w.ownsRow base e size v n xs) {g k : Nat} (hg : v.ownBlock = some g) (hk : k < n * size) (u : Value) : (w.setCell ⟨g, k, none⟩ u).ownsRow base e size v n (xs.set k u) := by
  refine ⟨by rw [List.length_set]; exact h.1, ?_⟩
  rcases h.2 with ⟨rfl, _⟩ | ⟨g', cap, cur, rfl, hb, hgg, h1, h2, h3, h4⟩
  · simp [Value.ownBlock] at hg
  · simp [Value.ownBlock] at hg
    subst hg
    refine .inr ⟨g', cap, _, rfl, hb, heap_setCell_same w g' k cur e u hgg, h1, h2, by simpa using h3, ?_⟩
    rw [← h4]
    apply List.ext_getElem?
    intro i
    rw [List.getElem?_take, List.getElem?_set, List.length_take, Array.toList_setIfInBounds, List.getElem?_set]
    have hc : n * size ≤ cur.toList.length := by rw [Array.length_toList, h3]; exact Nat.mul_le_mul_right _ h1
    by_cases hi : i < n * size
    · rw [if_pos hi]
      by_cases hki : k = i
      · rw [if_pos hki, if_pos hki, if_pos (by omega), if_pos (by rw [Nat.min_eq_left hc]; omega)]
      · rw [if_neg hki, if_neg hki, List.getElem?_take, if_pos hi]
    · rw [if_neg hi, if_neg (by omega), List.getElem?_take, if_neg hi]
end
/-- One row of a node. -/
structure NE (w : World) (base : Nat) (lab : Nat → Own) (o : Prop) (i : Nat) (x : Nx) (j : Nat) : Prop where
  r : Rr w base (ety j) (esz j) (x.v j) (ecn x.nd j) (ecs x.nd j)
  o : o → w.ownsRow base (ety j) (esz j) (x.v j) (ecn x.nd j) (ecs x.nd j)
  l : ∀ b, (x.v j).ownBlock = some b → lab b = .fld j i
/-- A row of nodes, and theirs. -/
structure NT (w : World) (base : Nat) (lab : Nat → Own) (opn : Nat → Prop) (v : Value) (X : List Nx) : Prop where
  row : w.ownsRow base 42 7 v X.length (ndL X)
  l : ∀ b, v.ownBlock = some b → lab b = .nd
  e : ∀ i x, X[i]? = some x → ∀ j, j < 3 → NE w base lab (opn i) i x j
section
variable {w w' w1 : World} {base : Nat} {lab lab' : Nat → Own} {opn opn' : Nat → Prop} {v v' : Value} {X : List Nx} {i j : Nat} {x : Nx}
theorem NE.keep {o o' : Prop} (h : NE w base lab o i x j) (hb : ∀ k, base ≤ k → k < w.heap.size → lab k = .fld j i → w'.heap[k]? = w.heap[k]?) (hl : ∀ k, k < w.heap.size → lab' k = lab k) (ho : o' → o) : NE w' base lab' o' i x j :=
  ⟨h.r.keep fun k hk => hb k (h.r.lt k hk).1 (h.r.lt k hk).2 (h.l k hk), fun q => own_keep (h.o (ho q)) fun k hk => hb k (h.r.lt k hk).1 (h.r.lt k hk).2 (h.l k hk), fun k hk => (hl k (h.r.lt k hk).2).trans (h.l k hk)⟩
theorem NT.keep (h : NT w base lab opn v X) (hb : ∀ k, base ≤ k → k < w.heap.size → (lab k).tree = true → w'.heap[k]? = w.heap[k]?) (hl : ∀ k, k < w.heap.size → lab' k = lab k) (ho : ∀ i, opn' i → opn i) : NT w' base lab' opn' v X :=
  ⟨own_keep h.row fun k hk => hb k (h.row.lt k hk).1 (h.row.lt k hk).2 (by rw [h.l k hk]; rfl), fun k hk => (hl k (h.row.lt k hk).2).trans (h.l k hk),
    fun i x hx j hj => (h.e i x hx j hj).keep (fun k hkb hk e => hb k hkb hk (by rw [e]; rfl)) hl (ho i)⟩
theorem NT.below (h : NT w base lab opn v X) (hb : Below w.heap.size w w') : NT w' base lab opn v X := h.keep (fun k _ hk _ => hb.block k hk) (fun _ _ => rfl) fun _ h => h
theorem NT.opn_ (h : NT w base lab opn v X) (ho : ∀ i, opn' i → opn i) : NT w base lab opn' v X := h.keep (fun _ _ _ _ => rfl) (fun _ _ => rfl) ho
/-- A label for the block that a slice lies in. -/
def labS (lab : Nat → Own) (v : Value) (o : Own) : Nat → Own := fun b => if v.ownBlock = some b then o else lab b
theorem labS_old {o : Own} {s : Nat} (hv : v'.ownBlock = v.ownBlock ∨ v'.ownBlock = some s) (hl : ∀ b, v.ownBlock = some b → lab b = o) : ∀ k, k < s → labS lab v' o k = lab k := by
  intro k hk
  unfold labS
  split
  · rename_i h
    rcases hv with e | e
    · exact (hl k (e ▸ h)).symm
    · rw [e] at h; injection h with h; omega
  · rfl
theorem labS_self {o : Own} : ∀ b, v'.ownBlock = some b → labS lab v' o b = o := fun _ h => if_pos h
/-- One of them is another one. -/
def upV (f : Nat → Value) (j : Nat) (u : Value) : Nat → Value := fun k => if k = j then u else f k
theorem upV_same (f : Nat → Value) (j : Nat) (u : Value) : upV f j u j = u := if_pos rfl
theorem upV_ne (f : Nat → Value) (j : Nat) (u : Value) {k : Nat} (h : k ≠ j) : upV f j u k = f k := if_neg h
def nil0 : Nat → Value := fun _ => .slice none 0 0
theorem NT.start : NT w base lab opn (.slice none 0 0) [] := ⟨World.ownsRow_nil _ _ _ _, fun b h => (by cases h), fun i x h => (by simp at h)⟩
theorem NT.lt (h : NT w base lab opn v X) : ∀ k, v.ownBlock = some k → base ≤ k ∧ k < w.heap.size := h.row.lt
theorem NT.push {n0 : Nd} (h : NT w base lab opn v X) (hg : w.grownBy w1 v.ownBlock) (ho : w1.ownsRow base 42 7 v' (X.length + 1) (ndL X ++ ndC ⟨n0, nil0⟩))
    (hv : v'.ownBlock = v.ownBlock ∨ v'.ownBlock = some w.heap.size) (hk : n0.keys = []) (hs : n0.spots = []) (hu : n0.subs = []) : NT w1 base (labS lab v' .nd) (fun i => opn i ∨ i = X.length) v' (X ++ [⟨n0, nil0⟩]) := by
  have hlo := labS_old (o := .nd) hv h.l
  refine ⟨by rw [ndL_app, ndL_one, List.length_append]; exact ho, labS_self, fun i x hx j hj => ?_⟩
  by_cases hi : i < X.length
  · rw [List.getElem?_append_left hi] at hx
    exact (h.e i x hx j hj).keep (fun k _ hk e => hg.block k hk (fun e2 => by rw [h.l k e2.symm] at e; cases e)) hlo fun q => q.resolve_right (by omega)
  · have hi2 : i = X.length := by
      have := (List.getElem?_eq_some_iff.1 hx).1
      simp at this; omega
    subst hi2
    simp at hx
    subst hx
    have e1 : ecn n0 j = 0 := by
      have : j = 0 ∨ j = 1 ∨ j = 2 := by omega
      rcases this with rfl | rfl | rfl <;> simp [ecn, hk, hs, hu]
    have e2 : ecs n0 j = [] := by
      have : j = 0 ∨ j = 1 ∨ j = 2 := by omega
      rcases this with rfl | rfl | rfl <;> simp [ecs, hk, hs, hu]
    have q : w1.ownsRow base (ety j) (esz j) (nil0 j) (ecn n0 j) (ecs n0 j) := by rw [e1, e2]; exact World.ownsRow_nil _ _ _ _
    exact ⟨Rr.of_own q, fun _ => q, fun b hb => by cases hb⟩
/-- A node's row is another one; stored. -/
theorem NT.field {nd' : Nd} {g : Nat} (h : NT w base lab opn v X) (hx : X[i]? = some x) (hj : j < 3) (hg : w.grownBy w1 (x.v j).ownBlock) (ho : w1.ownsRow base (ety j) (esz j) v' (ecn nd' j) (ecs nd' j))
    (hv : v'.ownBlock = (x.v j).ownBlock ∨ v'.ownBlock = some w.heap.size) (hkd : nd'.kind = x.nd.kind ∧ nd'.text = x.nd.text ∧ nd'.span = x.nd.span)
    (hoth : ∀ k, k < 3 → k ≠ j → ecn nd' k = ecn x.nd k ∧ ecs nd' k = ecs x.nd k) (hvb : v.ownBlock = some g) :
    NT (w1.setCell ⟨g, i * 7 + (2 + j), none⟩ v') base (labS lab v' (.fld j i)) opn v (X.set i ⟨nd', upV x.v j v'⟩) := by
  have hi : i < X.length := (List.getElem?_eq_some_iff.1 hx).1
  have hE := h.e i x hx j hj
  have hlo := labS_old (o := .fld j i) hv hE.l
  have hgl := h.row.lt g hvb
  have hgn : ∀ k, k < w.heap.size → lab k ≠ .fld j i → w1.heap[k]? = w.heap[k]? := fun k hk ne => hg.block k hk (fun e2 => ne (hE.l k e2.symm))
  have hvg : v'.ownBlock ≠ some g := fun e => by
    have := hlo g hgl.2
    rw [labS_self g e, h.l g hvb] at this; cases this
  refine ⟨?_, fun b hb => (hlo b (h.row.lt b hb).2).trans (h.l b hb), fun k y hy j' hj' => ?_⟩
  · rw [List.length_set]
    have hc : ndC (⟨nd', upV x.v j v'⟩ : Nx) = (ndC x).set (2 + j) v' := by
      have : j = 0 ∨ j = 1 ∨ j = 2 := by omega
      rcases this with rfl | rfl | rfl <;> simp [ndC, hkd, upV]
    rw [← ndL_set X i x _ (2 + j) v' hx (by omega) hc]
    exact own_store (own_keep h.row fun k hk => hgn k (h.row.lt k hk).2 (by rw [h.l k hk]; exact fun e => by cases e)) hvb (by omega) v'
  · have key : ∀ b, b < w1.heap.size → b ≠ g → (w1.setCell ⟨g, i * 7 + (2 + j), none⟩ v').heap[b]? = w1.heap[b]? := fun b _ hb => heap_setCell_other _ _ _ _ hb
    by_cases hki : k = i
    · subst hki
      rw [List.getElem?_set, if_pos rfl, if_pos hi] at hy
      injection hy with hy
      subst hy
      by_cases hjj : j' = j
      · subst hjj
        have q : (w1.setCell ⟨g, k * 7 + (2 + j'), none⟩ v').ownsRow base (ety j') (esz j') v' (ecn nd' j') (ecs nd' j') :=
          own_keep ho fun b hb => key b (ho.lt b hb).2 (fun e => hvg (e ▸ hb))
        have e := upV_same x.v j' v'
        refine ⟨?_, fun _ => ?_, fun b hb => ?_⟩
        · show Rr _ _ _ _ (upV x.v j' v' j') _ _
          rw [e]; exact Rr.of_own q
        · show World.ownsRow _ _ _ _ (upV x.v j' v' j') _ _
          rw [e]; exact q
        · have hb' : (upV x.v j' v' j').ownBlock = some b := hb
          rw [e] at hb'; exact labS_self b hb'
      · obtain ⟨o1, o2⟩ := hoth j' hj' hjj
        have hE2 := h.e k x hx j' hj'
        have e := upV_ne x.v j v' hjj
        have hb2 : ∀ b, (x.v j').ownBlock = some b → (w1.setCell ⟨g, k * 7 + (2 + j), none⟩ v').heap[b]? = w.heap[b]? := fun b hb => by
          have hlt := (hE2.r.lt b hb).2
          have hl := hE2.l b hb
          rw [key b (Nat.lt_of_lt_of_le hlt hg.size) (fun e => by rw [e, h.l g hvb] at hl; cases hl)]
          exact hgn b hlt (by rw [hl]; intro e; injection e with e _; exact hjj e)
        refine ⟨?_, fun q => ?_, fun b hb => ?_⟩
        · show Rr _ _ _ _ (upV x.v j v' j') (ecn nd' j') (ecs nd' j')
          rw [e, o1, o2]; exact hE2.r.keep hb2
        · show World.ownsRow _ _ _ _ (upV x.v j v' j') (ecn nd' j') (ecs nd' j')
          rw [e, o1, o2]; exact own_keep (hE2.o q) hb2
        · have hb' : (upV x.v j v' j').ownBlock = some b := hb
          rw [e] at hb'
          have hb := hb'
          exact (hlo b (hE2.r.lt b hb).2).trans (hE2.l b hb)
    · rw [List.getElem?_set, if_neg (fun e => hki e.symm)] at hy
      have hE2 := h.e k y hy j' hj'
      refine hE2.keep (fun b _ hb hl => ?_) hlo fun q => q
      rw [key b (Nat.lt_of_lt_of_le hb hg.size) (fun e => by rw [e, h.l g hvb] at hl; cases hl)]
      exact hgn b hb (by rw [hl]; intro e; injection e with _ e; exact hki e)
/-- A node's cell is another one, its rows as they were, or cut to their lengths. -/
theorem NT.cell {nd' : Nd} {vs : Nat → Value} {r g : Nat} {u : Value} (h : NT w base lab opn v X) (hx : X[i]? = some x) (hr : r < 7) (hc : ndC ⟨nd', vs⟩ = (ndC x).set r u) (hnd : ∀ k, ecn nd' k = ecn x.nd k ∧ ecs nd' k = ecs x.nd k)
    (hvs : ∀ k, k < 3 → vs k = x.v k ∨ (¬ opn i ∧ vs k = clipV (x.v k))) (hvb : v.ownBlock = some g) :
    NT (w.setCell ⟨g, i * 7 + r, none⟩ u) base lab opn v (X.set i ⟨nd', vs⟩) := by
  have hi : i < X.length := (List.getElem?_eq_some_iff.1 hx).1
  have key : ∀ b, b ≠ g → (w.setCell ⟨g, i * 7 + r, none⟩ u).heap[b]? = w.heap[b]? := fun b hb => heap_setCell_other _ _ _ _ hb
  refine ⟨?_, h.l, fun k y hy j' hj' => ?_⟩
  · rw [List.length_set, ← ndL_set X i x _ r u hx hr hc]
    exact own_store h.row hvb (by omega) u
  · by_cases hki : k = i
    · subst hki
      rw [List.getElem?_set, if_pos rfl, if_pos hi] at hy
      injection hy with hy
      subst hy
      have hE2 := h.e k x hx j' hj'
      have hb2 : ∀ b, (x.v j').ownBlock = some b → (w.setCell ⟨g, k * 7 + r, none⟩ u).heap[b]? = w.heap[b]? := fun b hb => key b (fun e => by have := hE2.l b hb; rw [e, h.l g hvb] at this; cases this)
      obtain ⟨o1, o2⟩ := hnd j'
      rcases hvs j' hj' with e | ⟨hno, e⟩
      · refine ⟨?_, fun q => ?_, fun b hb => ?_⟩
        · show Rr _ _ _ _ (vs j') (ecn nd' j') (ecs nd' j')
          rw [e, o1, o2]; exact hE2.r.keep hb2
        · show World.ownsRow _ _ _ _ (vs j') (ecn nd' j') (ecs nd' j')
          rw [e, o1, o2]; exact own_keep (hE2.o q) hb2
        · exact hE2.l b (e ▸ hb)
      · refine ⟨?_, fun q => absurd q hno, fun b hb => ?_⟩
        · show Rr _ _ _ _ (vs j') (ecn nd' j') (ecs nd' j')
          rw [e, o1, o2]; exact (hE2.r.keep hb2).clip
        · have hb' : (vs j').ownBlock = some b := hb
          rw [e, clip_block] at hb'; exact hE2.l b hb'
    · rw [List.getElem?_set, if_neg (fun e => hki e.symm)] at hy
      exact (h.e k y hy j' hj').keep (fun b _ _ hl => key b (fun e => by rw [e, h.l g hvb] at hl; cases hl)) (fun _ _ => rfl) fun q => q
theorem NT.shape (h : NT w base lab opn v X) (h0 : 0 < X.length) : ∃ g c, v = .slice (some ⟨g, 0, none⟩) X.length c ∧ base ≤ g ∧ g < w.heap.size ∧ X.length ≤ c ∧ c ≤ maxLen ∧ (∀ k, w.frozen? ⟨g, k, none⟩ = false) ∧
    ∀ i x, X[i]? = some x → ∀ r u, (ndC x)[r]? = some u → w.cell? ⟨g, i * 7 + r, none⟩ = some u := by
  rcases h.row.2 with ⟨_, e⟩ | ⟨g, cap, cur, rfl, hb, hg, h1, h2, h3, h4⟩
  · omega
  · refine ⟨g, cap, rfl, hb, lt_blk hg, h1, h2, fun k => ?_, fun i x hx r u hu => ?_⟩
    · simp [World.frozen?, hg]
    · have hr : r < 7 := (List.getElem?_eq_some_iff.1 hu).1
      have e := ndL_at X i x r hx hr
      rw [← h4, hu, List.getElem?_take] at e
      split at e
      · rw [cell_of_row w g _ cur _ (0, 0) hg, ← Array.getElem?_toList]; exact e
      · cases e
end
end Tv
end Go.Proofs.YtbeefjhcbphiaaaGreatDoor
/- The reader's state: how many nodes there are, how long their lists are; what each step does to that. -/
namespace Go.Proofs.YtbeefjhcbphiaaaGreatDoor
namespace Tv
open Ty (WR1 KR Ky Bs blK endP endP_on endP_no endP_far)

/-- As many nodes as b at most; lists no longer than there are nodes, but for p. -/
structure OkS (s : St) (p b : Nat) : Prop where
  len : s.X.length ≤ b
  rows : ∀ x ∈ s.X, x.keys.length ≤ s.X.length + p ∧ x.spots.length ≤ s.X.length + p ∧ x.subs.length ≤ s.X.length + p
  nm : ∀ x ∈ s.m, x.2 < s.X.length + p
  ml : s.m.length ≤ s.X.length + p
theorem mem_modify {X : List Nd} {i : Nat} {f : Nd → Nd} {y : Nd} (h : y ∈ X.modify i f) : y ∈ X ∨ ∃ x ∈ X, y = f x := by
  obtain ⟨k, hk⟩ := List.mem_iff_getElem?.1 h
  rw [List.getElem?_modify] at hk
  cases hx : X[k]? with
  | none => rw [hx] at hk; cases hk
  | some x =>
    rw [hx] at hk
    have hm := List.mem_of_getElem? hx
    by_cases e : i = k
    · simp [e] at hk; exact .inr ⟨x, hm, hk.symm⟩
    · simp [e] at hk; exact .inl (hk ▸ hm)
section
variable {s : St} {p b n e : Nat} {w : Bs} {sp : Nat × Nat}
theorem OkS.mono {b' : Nat} (h : OkS s p b) (hb : b ≤ b') : OkS s p b' := ⟨Nat.le_trans h.len hb, h.rows, h.nm, h.ml⟩
theorem OkS.one (h : OkS s 0 b) : OkS s 1 b := ⟨h.len, fun x hx => by have := h.rows x hx; omega, fun x hx => by have := h.nm x hx; omega, by have := h.ml; omega⟩
theorem OkS.at_ (h : OkS s p b) (a : Nat) : OkS { s with a := a } p b := ⟨h.len, h.rows, h.nm, h.ml⟩
theorem OkS.push (h : OkS s p b) (hp : p ≤ 1) {k : Nat} {t : Bs} {q : Int × Int} : OkS (s.push (Nd.leaf k t q) e) 0 (b + 1) := by
  have hl : (s.push (Nd.leaf k t q) e).X.length = s.X.length + 1 := by simp [St.push]
  refine ⟨by rw [hl]; have := h.len; omega, fun x hx => ?_, fun x hx => ?_, by rw [hl]; have := h.ml; show s.m.length ≤ _; omega⟩
  · rw [hl]
    rcases List.mem_append.1 (show x ∈ s.X ++ [Nd.leaf k t q] from hx) with h1 | h1
    · have := h.rows x h1; omega
    · obtain rfl : x = Nd.leaf k t q := by simpa using h1
      exact ⟨Nat.zero_le _, Nat.zero_le _, Nat.zero_le _⟩
  · rw [hl]; have := h.nm x hx; omega
theorem OkS.open_ (h : OkS s 1 b) : OkS s.open_ 0 (b + 1) := OkS.push (e := s.a) h (Nat.le_refl _)
theorem mod_len (f : Nd → Nd) : (s.X.modify n f).length = s.X.length := List.length_modify ..
theorem OkS.addSub (h : OkS s 0 b) (n : Nat) : OkS (s.addSub n) 1 b := by
  have hl : (s.addSub n).X.length = s.X.length := mod_len _
  refine ⟨by rw [hl]; exact h.len, fun x hx => ?_, fun x hx => ?_, by rw [hl]; have := h.ml; show s.m.length ≤ _; omega⟩
  · rw [hl]
    rcases mem_modify (show x ∈ s.X.modify n _ from hx) with h1 | ⟨y, h1, rfl⟩
    · have := h.rows x h1; omega
    · have := h.rows y h1
      simp [Nd.addSub]; omega
  · rw [hl]; have := h.nm x hx; omega
theorem OkS.close (h : OkS s 0 b) (n : Nat) : OkS (s.close n) 0 b := by
  have hl : (s.close n).X.length = s.X.length := mod_len _
  refine ⟨by rw [hl]; exact h.len, fun x hx => ?_, fun x hx => ?_, by rw [hl]; exact h.ml⟩
  · rw [hl]
    rcases mem_modify (show x ∈ s.X.modify n _ from hx) with h1 | ⟨y, h1, rfl⟩
    · exact h.rows x h1
    · exact h.rows y h1
  · rw [hl]; exact h.nm x hx
theorem OkS.hang (h : OkS s 0 b) (t : Nat) : OkS (s.hang t w sp) 1 b := by
  have hl : (s.hang t w sp).X.length = s.X.length := mod_len _
  refine ⟨by rw [hl]; exact h.len, fun x hx => ?_, fun x hx => ?_, by rw [hl]; have := h.ml; show s.m.length + 1 ≤ _; omega⟩
  · rw [hl]
    rcases mem_modify (show x ∈ s.X.modify t _ from hx) with h1 | ⟨y, h1, rfl⟩
    · have := h.rows x h1; omega
    · have := h.rows y h1
      simp [Nd.addSub, Nd.addKey]; omega
  · rw [hl]
    rcases List.mem_cons.1 (show x ∈ ((t, w), s.X.length) :: s.m from hx) with rfl | h1
    · exact Nat.lt_succ_self _
    · have := h.nm x h1; omega
theorem OkS.start (a : Nat) : OkS ⟨a, [], []⟩ 0 0 := ⟨Nat.le_refl _, fun x h => (by cases h), fun x h => (by cases h), Nat.le_refl _⟩
end
theorem lk_mem {m : Nm} {k : Nat × Bs} {n : Nat} (h : lk m k = some n) : ∃ x ∈ m, x.2 = n := by
  induction m with
  | nil => cases h
  | cons x m ih =>
    unfold lk at h
    split at h
    · injection h with h; exact ⟨x, List.mem_cons_self .., h⟩
    · obtain ⟨y, hy, e⟩ := ih h
      exact ⟨y, List.mem_cons_of_mem _ hy, e⟩
/-- Gaps. -/
theorem cm_ge (l : Bs) (p : Nat) : p ≤ cm l p := by
  unfold cm; split
  · exact Nat.le_trans (Nat.le_succ _) (Ty.endP_ge ..)
  · exact Nat.le_refl _
theorem cm_le (l : Bs) {p : Nat} (h : p ≤ l.length) : cm l p ≤ l.length := by
  unfold cm; split
  · exact Ty.endP_le _ _ _ (by omega)
  · exact h
theorem cb_ge (l : Bs) (p : Nat) : p ≤ cm l (endP blK l p) := Nat.le_trans (Ty.endP_ge ..) (cm_ge ..)
theorem cb_le (l : Bs) {p : Nat} (h : p ≤ l.length) : cm l (endP blK l p) ≤ l.length := cm_le l (Ty.endP_le _ _ _ h)
theorem bt_in {l : Bs} {p : Nat} {c : Int} (h : bt l p = c) (hc : c ≠ 0) : p < l.length := by
  rcases Nat.lt_or_ge p l.length with h1 | h1
  · exact h1
  · refine absurd (h.symm.trans ?_) hc
    unfold bt
    rw [List.getD_eq_getElem?_getD, List.getElem?_eq_none h1]; rfl
theorem gp_ge (l : Bs) : ∀ (f p e : Nat), p ≤ l.length → gp l f p = .ok e → p ≤ e ∧ e ≤ l.length
  | 0, p, e, hp, h => by
    injection h with h; exact ⟨Nat.le_of_eq h, h ▸ hp⟩
  | f + 1, p, e, hp, h => by
    have h1 := cb_ge l p
    have h2 := cb_le l hp
    unfold gp at h
    split at h
    · rename_i hc
      have := bt_in hc (by decide)
      have := gp_ge l f _ e (by omega) h
      omega
    · split at h
      · split at h
        · rename_i hc
          have := bt_in hc (by decide)
          have := gp_ge l f _ e (by omega) h
          omega
        · cases h
      · injection h with h; omega
end Tv
end Go.Proofs.YtbeefjhcbphiaaaGreatDoor
/- The reader in memory: its object, its nodes, and the map of names. -/
namespace Go.Proofs.YtbeefjhcbphiaaaGreatDoor
open Go.RowKit
namespace Tv
open Ty (WR1 KR Ky Bs blK endP endP_on endP_no endP_far)

theorem alloc_size (w : World) (o : Obj) : (w.alloc o).heap.size = w.heap.size + 1 := by show (w.heap.push o).size = _; simp
/-- A name's key in the map. -/
def klit (k : Nat × Bs) : Lit := .string (keyBytes [.int .i64 (k.1 : Nat), .string k.2])
def kval (t : Nat) (w : Bs) : Value := .agg #[.int .i64 (t : Nat), .string (txt w)]
def mpD : Nm → DataW Unit
  | [] => .map []
  | x :: m => (mpD m).put (klit x.1) (.lit (.int .i64 (x.2 : Nat)))
theorem laidOut_ : laidOutB Tryz.prog = true := by kernel_rfl
theorem nmLaw : Maps.Keyed Tryz.prog 196 := Maps.Keyed.of_law (deep_law_laid laidOut_ (m := 3) (by omega) (Nat.le_of_ble_eq_true (by kernel_rfl)) (by kernel_rfl) (by kernel_rfl))
theorem cellsNm : Tryz.prog.cellsOf 196 = 2 := by kernel_rfl
theorem cellsI : Tryz.prog.cellsOf 3 = 1 := by kernel_rfl
theorem cellsS : Tryz.prog.cellsOf 9 = 1 := by kernel_rfl
theorem keyNm : Tryz.prog.keyType 196 = true := by kernel_rfl
theorem typesN : ∃ d, Tryz.prog.types.size + 1 = d + 2 := ⟨Tryz.prog.types.size - 1, by
  have : 1 ≤ Tryz.prog.types.size := Nat.le_of_ble_eq_true (by kernel_rfl)
  omega⟩
theorem key_is {t : Nat} {w : Bs} (ht : t ≤ 1000000) (hw : w.length ≤ 4000000) : keyOf Tryz.prog 196 (kval t w) = some (klit (t, w)) := by
  have hT : (txt w).size ≤ maxLen := by rw [txt_size]; unfold maxLen; omega
  have ht2 : (Lit.int .i64 (t : Nat)).wf = true := by
    have h1 : IntKind.i64.min ≤ ((t : Nat) : Int) := by show (-9223372036854775808 : Int) ≤ _; omega
    have h2 : ((t : Nat) : Int) ≤ IntKind.i64.max := by show _ ≤ (9223372036854775807 : Int); omega
    rw [Lit.wf, Bool.and_eq_true]; exact ⟨decide_eq_true h1, decide_eq_true h2⟩
  obtain ⟨d, hd⟩ := typesN
  have hc : (kval t w).cells = #[.int .i64 (t : Nat), .string (txt w)] := by simp [kval, Value.cells]
  have hf : (kval t w).formed Tryz.prog 196 = true := by
    unfold kval Value.formed; rw [Tryz.underlying196, cellsNm]; rfl
  unfold keyOf
  rw [Tryz.underlying196, keyNm, hf, hd, hc]
  have hk : Tryz.prog.keyLits (d + 2) 196 [.int .i64 (t : Nat), .string (txt w)] = some [.int .i64 (t : Nat), .string w] := by
    unfold Program.keyLits
    rw [Tryz.underlying196]
    simp only [cellsNm]
    have e : (txt w).data.toList = w := by simp [txt]
    simp [Program.keyLits, cellsI, cellsS, Tryz.underlying3, Tryz.underlying9, ht2, hT, e]
  simp [hk, klit]
theorem klit_inj {t t' : Nat} {w w' : Bs} (ht : t ≤ 1000000) (hw : w.length ≤ 4000000) (ht' : t' ≤ 1000000) (hw' : w'.length ≤ 4000000) (h : klit (t, w) = klit (t', w')) : (t, w) = (t', w') := by
  have h1 := nmLaw.inj (key_is ht hw) (by rw [h]; exact key_is ht' hw')
  simp only [kval, Value.agg.injEq, Array.mk.injEq, List.cons.injEq, Value.int.injEq, Value.string.injEq] at h1
  obtain ⟨⟨_, h2⟩, h3, _⟩ := h1
  have h4 := congrArg (fun s => s.data.toList) h3
  simp [txt] at h4
  rw [h4, Int.ofNat.inj h2]
theorem klit_key {k : Nat × Bs} : WideAt.IsKeyLit (klit k) := trivial
theorem mp_isMap : ∀ m : Nm, Maps.IsMap (mpD m)
  | [] => Maps.isMap_empty
  | _x :: m => (mp_isMap m).put _ _
/-- What is known of the names. -/
def NmOk (m : Nm) : Prop := ∀ x ∈ m, x.1.1 ≤ 1000000 ∧ x.1.2.length ≤ 4000000
theorem mp_has {m : Nm} (h : NmOk m) {t : Nat} {w : Bs} (ht : t ≤ 1000000) (hw : w.length ≤ 4000000) : Maps.has (mpD m) (klit (t, w)) = (lk m (t, w)).isSome := by
  induction m with
  | nil => rfl
  | cons x m ih =>
    obtain ⟨⟨t', w'⟩, _⟩ := x
    have hx := h _ (List.mem_cons_self ..)
    have ih := ih fun y hy => h y (List.mem_cons_of_mem _ hy)
    show Maps.has ((mpD m).put (klit (t', w')) _) _ = _
    unfold lk
    by_cases e : (t', w') = (t, w)
    · rw [if_pos e, e, Maps.has_put_same (mp_isMap m) klit_key]; rfl
    · rw [if_neg e, Maps.has_put_other (fun e2 => e (klit_inj hx.1 hx.2 ht hw e2.symm)), ih]
theorem mp_at {m : Nm} (h : NmOk m) {t : Nat} {w : Bs} (ht : t ≤ 1000000) (hw : w.length ≤ 4000000) {n : Nat} (hn : lk m (t, w) = some n) (z : DataW Unit) : (mpD m).atKey (klit (t, w)) z = .lit (.int .i64 (n : Nat)) := by
  induction m with
  | nil => cases hn
  | cons x m ih =>
    obtain ⟨⟨t', w'⟩, n'⟩ := x
    have hx := h _ (List.mem_cons_self ..)
    show ((mpD m).put (klit (t', w')) _).atKey _ _ = _
    unfold lk at hn
    by_cases e : (t', w') = (t, w)
    · rw [if_pos e] at hn
      injection hn with hn
      rw [e, Maps.atKey_put_same (mp_isMap m) klit_key, hn]
    · rw [if_neg e] at hn
      rw [Maps.atKey_put_other (fun e2 => e (klit_inj hx.1 hx.2 ht hw e2.symm))]
      exact ih (fun y hy => h y (List.mem_cons_of_mem _ hy)) hn
theorem map_keep {w w' : World} {b n : Nat} {D : DataW Unit} {k : TypeId} {R : Value → Option (DataW Unit × List MemPlace)} (h : w.ownsMap Tryz.prog k R b n D) (hb : w'.heap[b]? = w.heap[b]?) : w'.ownsMap Tryz.prog k R b n D := by
  obtain ⟨es, clock, h1, r⟩ := h
  exact ⟨es, clock, hb.trans h1, r⟩
abbrev rdO (tv : Value) (S : ByteArray) (a M fc fa : Nat) : Obj :=
  .cells #[tv, .int .i64 0, .string S, .int .i64 (a : Nat), .map (some M), .int .i64 (fc : Nat), .int .i64 (fa : Nat)] 67
/-- The reader between two steps. -/
structure VP (G : List (Nat × Obj)) (W w : World) (B P M : Nat) (S : ByteArray) (s : St) (tv : Value) (fc fa : Nat) (lab : Nat → Own) (X : List Nx) (p b : Nat) : Prop where
  obj : w.heap[P]? = some (rdO tv S s.a M fc fa)
  nt : NT w W.heap.size lab (fun _ => True) tv X
  nds : X.map Nx.nd = s.X
  map : w.ownsMap Tryz.prog 196 (plainElem Tryz.prog 3) M s.m.length (mpD s.m)
  keep : ∀ k, k < W.heap.size → k ≠ P → k ≠ M → w.heap[k]? = W.heap[k]?
  below : Below B W w
  lt : B ≤ P ∧ P < W.heap.size ∧ B ≤ M ∧ M < W.heap.size ∧ M ≠ P
  ok : OkS s p b
  nm : NmOk s.m
  gd : ∀ q ∈ G, w.heap[q.1]? = some q.2 ∧ q.1 ≠ P ∧ q.1 ≠ M ∧ lab q.1 = .no
section
variable {G : List (Nat × Obj)} {W w w' w5 : World} {B P M : Nat} {S : ByteArray} {s : St} {tv v' : Value} {fc fa : Nat} {lab lab' : Nat → Own} {X X' : List Nx} {p b : Nat} {x : Nx}
theorem VP.size (h : VP G W w B P M S s tv fc fa lab X p b) : W.heap.size ≤ w.heap.size := h.below.size
theorem VP.plt (h : VP G W w B P M S s tv fc fa lab X p b) : P < w.heap.size := lt_blk h.obj
theorem VP.xlen (h : VP G W w B P M S s tv fc fa lab X p b) : X.length = s.X.length := by rw [← h.nds, List.length_map]
theorem VP.on (h : VP G W w B P M S s tv fc fa lab X p b) (hb : Below w.heap.size w w') : VP G W w' B P M S s tv fc fa lab X p b :=
  ⟨by rw [hb.block _ h.plt]; exact h.obj, h.nt.below hb, h.nds, map_keep h.map (hb.block _ h.map.lt), fun k h1 h2 h3 => by rw [hb.block k (by have := h.size; omega)]; exact h.keep k h1 h2 h3,
    h.below.trans (hb.mono (by have := h.plt; have := h.lt; omega)), h.lt, h.ok, h.nm, fun q hq => by
    obtain ⟨g1, g2⟩ := h.gd q hq
    exact ⟨(hb.block _ (lt_blk g1)).trans g1, g2⟩⟩
theorem VP.cells (h : VP G W w B P M S s tv fc fa lab X p b) : w.cell? ⟨P, 0, none⟩ = some tv ∧ w.cell? ⟨P, 1, none⟩ = some (.int .i64 0) ∧ w.cell? ⟨P, 2, none⟩ = some (.string S) ∧ w.cell? ⟨P, 3, none⟩ = some (.int .i64 (s.a : Nat)) ∧ w.cell? ⟨P, 4, none⟩ = some (.map (some M)) ∧ w.cell? ⟨P, 5, none⟩ = some (.int .i64 (fc : Nat)) ∧ w.cell? ⟨P, 6, none⟩ = some (.int .i64 (fa : Nat)) := by
  have := h.obj
  refine ⟨?_, ?_, ?_, ?_, ?_, ?_, ?_⟩ <;> simp [World.cell?, this]
theorem VP.free (h : VP G W w B P M S s tv fc fa lab X p b) (k : Nat) : w.frozen? ⟨P, k, none⟩ = false := by simp [World.frozen?, h.obj]
theorem VP.mono {b' : Nat} (h : VP G W w B P M S s tv fc fa lab X p b) (hb : b ≤ b') : VP G W w B P M S s tv fc fa lab X p b' := ⟨h.obj, h.nt, h.nds, h.map, h.keep, h.below, h.lt, h.ok.mono hb, h.nm, h.gd⟩
/-- Cells of the object are stored. -/
theorem VP.turn {a' fc' fa' : Nat} (h : VP G W w B P M S s tv fc fa lab X p b) (ho : w'.heap[P]? = some (rdO tv S a' M fc' fa')) (hb : ∀ k, k ≠ P → w'.heap[k]? = w.heap[k]?) (hB : Below B w w') : VP G W w' B P M S { s with a := a' } tv fc' fa' lab X p b :=
  ⟨ho, h.nt.keep (fun k hk _ _ => hb k (by have := h.lt; omega)) (fun _ _ => rfl) (fun _ q => q), h.nds, map_keep h.map (hb M h.lt.2.2.2.2), fun k h1 h2 h3 => (hb k h2).trans (h.keep k h1 h2 h3), h.below.trans hB, h.lt, h.ok.at_ _, h.nm, fun q hq => by
    obtain ⟨g1, g2⟩ := h.gd q hq
    exact ⟨(hb _ g2.1).trans g1, g2⟩⟩
theorem VP.fault {c k : Nat} (h : VP G W w B P M S s tv 0 0 lab X p b) : VP G W ((w.setCell ⟨P, 5, none⟩ (.int .i64 (c : Nat))).setCell ⟨P, 6, none⟩ (.int .i64 (k : Nat))) B P M S s tv c k lab X p b := by
  refine h.turn (a' := s.a) (heap_setCell_same _ _ _ _ _ _ (heap_setCell_same _ _ _ _ _ _ h.obj)) (fun b hb => ?_) (((Below.refl B _).setCell (show B ≤ P from h.lt.1) _).setCell (show B ≤ P from h.lt.1) _)
  rw [heap_setCell_other _ _ _ _ hb, heap_setCell_other _ _ _ _ hb]
theorem VP.at_ {a' : Nat} (h : VP G W w B P M S s tv 0 0 lab X p b) : VP G W (w.setCell ⟨P, 3, none⟩ (.int .i64 (a' : Nat))) B P M S { s with a := a' } tv 0 0 lab X p b :=
  h.turn (heap_setCell_same _ _ _ _ _ _ h.obj) (fun _ hb => heap_setCell_other _ _ _ _ hb) ((Below.refl B _).setCell (show B ≤ P from h.lt.1) _)
/-- The tree has turned. -/
theorem VP.tree {s' : St} {tv' : Value} {p' b' : Nat} (h : VP G W w B P M S s tv 0 0 lab X p b) (ho : w'.heap[P]? = some (rdO tv' S s.a M 0 0)) (hn : NT w' W.heap.size lab' (fun _ => True) tv' X') (hX : X'.map Nx.nd = s'.X) (ha : s'.a = s.a) (hm : s'.m = s.m)
    (hb : ∀ k, k < W.heap.size → k ≠ P → w'.heap[k]? = w.heap[k]?) (hB : Below B w w') (hk : OkS s' p' b')
    (hgd : ∀ k, k < w.heap.size → k ≠ P → k ≠ M → lab k = .no → lab' k = .no ∧ w'.heap[k]? = w.heap[k]?) : VP G W w' B P M S s' tv' 0 0 lab' X' p' b' :=
  ⟨by rw [ha]; exact ho, hn, hX, by rw [hm]; exact map_keep h.map (hb M h.lt.2.2.2.1 h.lt.2.2.2.2), fun k h1 h2 h3 => (hb k h1 h2).trans (h.keep k h1 h2 h3), h.below.trans hB, h.lt, hk, by rw [hm]; exact h.nm, fun q hq => by
    obtain ⟨g1, g2, g3, g4⟩ := h.gd q hq
    obtain ⟨g5, g6⟩ := hgd _ (lt_blk g1) g2 g3 g4
    exact ⟨g6.trans g1, g2, g3, g5⟩⟩
/-- A node more. -/
theorem VP.push {o : Obj} {k e : Nat} {t : Bs} {q : Int × Int} (h : VP G W w B P M S s tv 0 0 lab X p b) (hp : p ≤ 1) (hg : (w.alloc o).grownBy w5 tv.ownBlock) (ho : w5.ownsRow W.heap.size 42 7 v' (X.length + 1) (ndL X ++ ndC ⟨Nd.leaf k t q, nil0⟩))
    (hl : v'.ownBlock = tv.ownBlock ∨ v'.ownBlock = some (w.alloc o).heap.size) (he : e = s.a) :
    VP G W (w5.setCell ⟨P, 0, none⟩ v') B P M S (s.push (Nd.leaf k t q) e) v' 0 0 (labS lab v' .nd) (X ++ [⟨Nd.leaf k t q, nil0⟩]) 0 (b + 1) := by
  subst he
  have b1 : Below w.heap.size w (w.alloc o) := (Below.refl _ _).alloc (Nat.le_refl _) o
  have h1 := h.on b1
  have hW := h.size
  obtain ⟨hBP, hP, hBM, hM, hMP⟩ := h.lt
  have hs5 : (w.alloc o).heap.size = w.heap.size + 1 := alloc_size _ _
  have hown : ∀ k, tv.ownBlock = some k → W.heap.size ≤ k := fun k e => (h.nt.row.lt k e).1
  have key : ∀ k, k ≠ P → (w5.setCell ⟨P, 0, none⟩ v').heap[k]? = w5.heap[k]? := fun k hk => heap_setCell_other _ _ _ _ hk
  have hN := (h1.nt.push hg ho hl rfl rfl rfl).opn_ (opn' := fun _ => True) fun i _ => .inl trivial
  have old : ∀ b, b < W.heap.size → w5.heap[b]? = w.heap[b]? := fun b hb => by
    rw [hg.block b (by omega) (fun e => by have := hown b e.symm; omega)]
    exact b1.block b (by omega)
  refine h.tree ?_ (hN.keep (fun k hk _ _ => key k (by omega)) (fun _ _ => rfl) fun _ q => q) ?_ rfl rfl (fun b hb hne => (key b hne).trans (old b hb)) ?_ (h.ok.push hp) (fun k hk hkP _ hn => ⟨?_, ?_⟩)
  · refine heap_setCell_same w5 P 0 #[tv, .int .i64 0, .string S, .int .i64 (s.a : Nat), .map (some M), .int .i64 ((0 : Nat) : Int), .int .i64 ((0 : Nat) : Int)] _ v' ?_
    rw [old P hP]; exact h.obj
  · rw [List.map_append, h.nds]; rfl
  · exact (((Below.refl B w).alloc (by omega) o).grown hg (by omega) fun k e => by have := hown k e; omega).setCell (show B ≤ P from hBP) _
  · rw [labS_old hl h1.nt.l k (by omega)]; exact hn
  · rw [key k hkP, hg.block k (by omega) (fun e => by rw [h.nt.l k e.symm] at hn; cases hn)]
    exact b1.block k hk
/-- A node's row has one more. -/
theorem VP.field {o : Obj} {nd' : Nd} {s' : St} {i j g p' : Nat} (h : VP G W w B P M S s tv 0 0 lab X p b) (hx : X[i]? = some x) (hj : j < 3) (hg : (w.alloc o).grownBy w5 (x.v j).ownBlock) (ho : w5.ownsRow W.heap.size (ety j) (esz j) v' (ecn nd' j) (ecs nd' j))
    (hl : v'.ownBlock = (x.v j).ownBlock ∨ v'.ownBlock = some (w.alloc o).heap.size) (hkd : nd'.kind = x.nd.kind ∧ nd'.text = x.nd.text ∧ nd'.span = x.nd.span)
    (hoth : ∀ k, k < 3 → k ≠ j → ecn nd' k = ecn x.nd k ∧ ecs nd' k = ecs x.nd k) (hvb : tv.ownBlock = some g) (hs : s'.X = s.X.set i nd' ∧ s'.a = s.a ∧ s'.m = s.m) (hk : OkS s' p' b) :
    VP G W (w5.setCell ⟨g, i * 7 + (2 + j), none⟩ v') B P M S s' tv 0 0 (labS lab v' (.fld j i)) (X.set i ⟨nd', upV x.v j v'⟩) p' b := by
  have b1 : Below w.heap.size w (w.alloc o) := (Below.refl _ _).alloc (Nat.le_refl _) o
  have h1 := h.on b1
  have hW := h.size
  obtain ⟨hBP, hP, hBM, hM, hMP⟩ := h.lt
  have hs5 : (w.alloc o).heap.size = w.heap.size + 1 := alloc_size _ _
  have hE := h.nt.e i x hx j hj
  have hown : ∀ k, (x.v j).ownBlock = some k → W.heap.size ≤ k := fun k e => (hE.r.lt k e).1
  have hgl := (h.nt.row.lt g hvb).1
  have old : ∀ b, b < W.heap.size → (w5.setCell ⟨g, i * 7 + (2 + j), none⟩ v').heap[b]? = w.heap[b]? := fun b hb => by
    rw [heap_setCell_other _ _ _ _ (show b ≠ g by omega), hg.block b (by omega) (fun e => by have := hown b e.symm; omega)]
    exact b1.block b (by omega)
  refine h.tree (by rw [old P hP]; exact h.obj) (h1.nt.field hx hj hg ho hl hkd hoth hvb) ?_ hs.2.1 hs.2.2 (fun b hb _ => old b hb) ?_ hk (fun k hk _ _ hn => ⟨?_, ?_⟩)
  · rw [List.map_set, h.nds, hs.1]
  · exact (((Below.refl B w).alloc (by omega) o).grown hg (by omega) fun k e => by have := hown k e; omega).setCell (show B ≤ g by omega) _
  · rw [labS_old hl hE.l k (by omega)]; exact hn
  · rw [heap_setCell_other _ _ _ _ (show k ≠ g from fun e => by rw [e, h.nt.l g hvb] at hn; cases hn), hg.block k (by omega) (fun e => by rw [hE.l k e.symm] at hn; cases hn)]
    exact b1.block k hk
theorem map_set {a : Nat} {f : Nd → Nd} {vs : Nat → Value} (hx : X[a]? = some x) : (X.set a ⟨f x.nd, vs⟩).map Nx.nd = (X.map Nx.nd).modify a f := by
  apply List.ext_getElem?
  intro i
  have ha : a < X.length := (List.getElem?_eq_some_iff.1 hx).1
  rw [List.getElem?_map, List.getElem?_modify, List.getElem?_set, List.getElem?_map]
  by_cases h : a = i
  · subst h
    rw [if_pos rfl, if_pos ha, hx]
    show some (f x.nd) = some (if a = a then f x.nd else x.nd)
    rw [if_pos rfl]
  · rw [if_neg h]
    cases X[i]? with
    | none => rfl
    | some y => show some y.nd = some (if a = i then f y.nd else y.nd); rw [if_neg h]
/-- A node's end. -/
theorem VP.to_ {e i g : Nat} (h : VP G W w B P M S s tv 0 0 lab X 0 b) (hx : X[i]? = some x) (hvb : tv.ownBlock = some g) (he : s.a = e + 1) :
    VP G W (w.setCell ⟨g, i * 7 + 6, none⟩ (.int .i64 (s.a : Nat))) B P M S ({ s with a := e }.close i) tv 0 0 lab (X.set i ⟨Nd.setTo s.a x.nd, x.v⟩) 0 b := by
  obtain ⟨hBP, hP, hBM, hM, hMP⟩ := h.lt
  have hgl := (h.nt.row.lt g hvb).1
  have old : ∀ b, b < W.heap.size → (w.setCell ⟨g, i * 7 + 6, none⟩ (.int .i64 (s.a : Nat))).heap[b]? = w.heap[b]? := fun b hb => heap_setCell_other _ _ _ _ (show b ≠ g by omega)
  refine h.tree (by rw [old P hP]; exact h.obj) (h.nt.cell (r := 6) hx (by omega) rfl (fun k => ⟨?_, ?_⟩) (fun k _ => .inl rfl) hvb) ?_ he.symm rfl (fun b hb _ => old b hb) ((Below.refl B w).setCell (show B ≤ g by omega) _) ((h.ok.at_ e).close i) (fun k hk _ _ hn => ⟨hn, heap_setCell_other _ _ _ _ (show k ≠ g from fun e => by rw [e, h.nt.l g hvb] at hn; cases hn)⟩)
  · unfold ecn; split <;> rfl
  · unfold ecs; split <;> rfl
  · rw [map_set (f := Nd.setTo s.a) hx, h.nds, he]; rfl
/-- A name is put into the map. -/
theorem VP.put {t n : Nat} {k : Bs} (h : VP G W w B P M S s tv 0 0 lab X p b) (hg : w.grownBy w5 (some M)) (ho : w5.ownsMap Tryz.prog 196 (plainElem Tryz.prog 3) M (s.m.length + 1) ((mpD s.m).put (klit (t, k)) (.lit (.int .i64 (n : Nat)))))
    (ht : t ≤ 1000000) (hk : k.length ≤ 4000000) {p' b' : Nat} (hok : OkS { s with m := ((t, k), n) :: s.m } p' b') : VP G W w5 B P M S { s with m := ((t, k), n) :: s.m } tv 0 0 lab X p' b' := by
  obtain ⟨hBP, hP, hBM, hM, hMP⟩ := h.lt
  have hW := h.size
  have hb : ∀ k, k < w.heap.size → k ≠ M → w5.heap[k]? = w.heap[k]? := fun k hk hne => hg.block k hk fun e => by injection e with e; exact hne e
  refine ⟨by rw [hb P (by omega) (fun e => hMP e.symm)]; exact h.obj, h.nt.keep (fun k hk1 hk2 _ => hb k hk2 (by omega)) (fun _ _ => rfl) fun _ h => h, h.nds, ho, fun k h1 h2 h3 => (hb k (by omega) h3).trans (h.keep k h1 h2 h3), h.below.grown hg (by omega) (fun k e => by injection e with e; omega), h.lt, hok, fun x hx => ?_, fun q hq => by
    obtain ⟨g1, g2, g3, g4⟩ := h.gd q hq
    exact ⟨(hb _ (lt_blk g1) g3).trans g1, g2, g3, g4⟩⟩
  rcases List.mem_cons.1 hx with rfl | hx
  · exact ⟨ht, hk⟩
  · exact h.nm x hx
/-- Blocks that are new are guarded from here on. -/
theorem VP.guard {L : List (Nat × Obj)} (h : VP G W w B P M S s tv fc fa lab X p b) (hb : Below w.heap.size w w') (hL : ∀ q ∈ L, w.heap.size ≤ q.1 ∧ w'.heap[q.1]? = some q.2) :
    VP (L ++ G) W w' B P M S s tv fc fa (fun k => if k < w.heap.size then lab k else .no) X p b := by
  have h1 := h.on hb
  refine ⟨h1.obj, ?_, h1.nds, h1.map, h1.keep, h1.below, h1.lt, h1.ok, h1.nm, fun q hq => ?_⟩
  · have h2 : NT w W.heap.size (fun k => if k < w.heap.size then lab k else .no) (fun _ => True) tv X := h.nt.keep (fun _ _ _ _ => rfl) (fun k hk => if_pos hk) fun _ q => q
    exact h2.below hb
  · rcases List.mem_append.1 hq with h3 | h3
    · obtain ⟨g1, g2⟩ := hL q h3
      have := h.plt
      have := h.lt
      have := h.size
      exact ⟨g2, by omega, by omega, if_neg (by omega)⟩
    · obtain ⟨g1, g2, g3, g4⟩ := h1.gd q h3
      obtain ⟨g5, _⟩ := h.gd q h3
      exact ⟨g1, g2, g3, by show (if q.1 < w.heap.size then lab q.1 else .no) = .no; rw [if_pos (lt_blk g5)]; exact g4⟩
theorem VP.less {G' : List (Nat × Obj)} (h : VP G W w B P M S s tv fc fa lab X p b) (hs : ∀ q ∈ G', q ∈ G) : VP G' W w B P M S s tv fc fa lab X p b := ⟨h.obj, h.nt, h.nds, h.map, h.keep, h.below, h.lt, h.ok, h.nm, fun q hq => h.gd q (hs q hq)⟩
end
end Tv
end Go.Proofs.YtbeefjhcbphiaaaGreatDoor
