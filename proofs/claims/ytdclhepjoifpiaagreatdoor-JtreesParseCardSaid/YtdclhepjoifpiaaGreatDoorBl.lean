/- Trees' nodes in memory: a row of nodes, each of which has rows of its own; what appends and stores do to them. -/
import Derived.Test.YtdclhepjoifpiaaGreatDoorBj
import Derived.Test.YtdclhepjoifpiaaGreatDoorVam
import Derived.Maps.AppendAt
import Derived.Maps.OwnSet
import Derived.Test.YtdclhepjoifpiaaGreatDoorAm
import Derived.Deep.QuietTactic
import Derived.BigQuiet
import Derived.Deep.Quiet
import Derived.Deep.CutBlock
import Derived.Test.YtdclhepjoifpiaaGreatDoorAw
namespace Go.Proofs.YtdclhepjoifpiaaGreatDoor
open Go.RowKit
namespace Jt
open Jk (lt_blk own_below own_set)

/-- Whose a block is: the row of nodes, a row of a node's, the stack's row, a map's, or some other's. -/
inductive Own where
  | nd
  | fld (j i : Nat)
  | stk
  | map (i : Nat)
  | no
def Own.tree : Own → Bool
  | .nd => true
  | .fld _ _ => true
  | _ => false
/-- A node with its three rows as they stand. -/
structure Nx where
  nd : Nd
  v : Nat → Value
def ety : Nat → TypeId
  | 0 => 9
  | 1 => 42
  | _ => 3
def esz : Nat → Nat
  | 1 => 2
  | _ => 1
def strC (k : Bs) : List Value := [.string (txt k)]
def spC (s : Nat × Nat) : List Value := [.int .i64 (s.1 : Nat), .int .i64 (s.2 : Nat)]
def inC (k : Nat) : List Value := [.int .i64 k]
def ecs (x : Nd) : Nat → List Value
  | 0 => x.keys.flatMap strC
  | 1 => x.spots.flatMap spC
  | _ => x.subs.flatMap inC
def ecn (x : Nd) : Nat → Nat
  | 0 => x.keys.length
  | 1 => x.spots.length
  | _ => x.subs.length
def ndC (x : Nx) : List Value := [.int .u8 (x.nd.kind : Nat), .string (txt x.nd.text), x.v 0, x.v 1, x.v 2, .int .i64 (x.nd.span.1 : Nat), .int .i64 (x.nd.span.2 : Nat)]
def ndL (X : List Nx) : List Value := X.flatMap ndC
theorem ndL_cons (x : Nx) (X : List Nx) : ndL (x :: X) = ndC x ++ ndL X := by simp [ndL]
theorem ndL_app (X Y : List Nx) : ndL (X ++ Y) = ndL X ++ ndL Y := by simp [ndL]
theorem ndL_one (x : Nx) : ndL [x] = ndC x := by simp [ndL]
theorem ndC_len (x : Nx) : (ndC x).length = 7 := rfl
theorem ndL_len : ∀ X : List Nx, (ndL X).length = X.length * 7
  | [] => rfl
  | x :: X => by rw [ndL_cons, List.length_append, ndC_len, ndL_len X, List.length_cons]; omega
theorem ndL_at : ∀ (X : List Nx) (i : Nat) (x : Nx) (r : Nat), X[i]? = some x → r < 7 → (ndL X)[i * 7 + r]? = (ndC x)[r]?
  | [], _, _, _, h, _ => by simp at h
  | y :: X, 0, x, r, h, hr => by
    obtain rfl : y = x := by simpa using h
    rw [ndL_cons, List.getElem?_append_left (by rw [ndC_len]; omega)]; congr 1; omega
  | y :: X, i + 1, x, r, h, hr => by
    have ih := ndL_at X i x r (by simpa using h) hr
    rw [ndL_cons, List.getElem?_append_right (by rw [ndC_len]; omega), ndC_len, ← ih]; congr 1; omega
theorem ndL_set : ∀ (X : List Nx) (i : Nat) (x x' : Nx) (r : Nat) (u : Value), X[i]? = some x → r < 7 → ndC x' = (ndC x).set r u → (ndL X).set (i * 7 + r) u = ndL (X.set i x')
  | [], _, _, _, _, _, h, _, _ => by simp at h
  | y :: X, 0, x, x', r, u, h, hr, e => by
    obtain rfl : y = x := by simpa using h
    rw [ndL_cons, List.set_append_left _ _ (by rw [ndC_len]; omega), List.set_cons_zero, ndL_cons, e]; congr 2; omega
  | y :: X, i + 1, x, x', r, u, h, hr, e => by
    have ih := ndL_set X i x x' r u (by simpa using h) hr e
    rw [ndL_cons, List.set_append_right _ _ (by rw [ndC_len]; omega), ndC_len, List.set_cons_succ, ndL_cons, ← ih]; congr 2; omega
/-- A row to read: as one that is owned, but for what lies behind its capacity. -/
def Rr (w : World) (base : Nat) (e : TypeId) (size : Nat) (v : Value) (n : Nat) (xs : List Value) : Prop :=
  xs.length = n * size ∧
  ((v = .slice none 0 0 ∧ n = 0) ∨
   ∃ g cap cur, v = .slice (some ⟨g, 0, none⟩) n cap ∧ base ≤ g ∧ w.heap[g]? = some (.cells cur e (0, 0)) ∧ n ≤ cap ∧ cap ≤ maxLen ∧ cap * size ≤ cur.size ∧ cur.toList.take (n * size) = xs)
section
variable {w w' : World} {base : Nat} {e : TypeId} {size : Nat} {v : Value} {n : Nat} {xs : List Value}
theorem Rr.of_own (h : w.ownsRow base e size v n xs) : Rr w base e size v n xs := by
  refine ⟨h.1, ?_⟩
  rcases h.2 with hn | ⟨g, cap, cur, e1, hb, hg, h1, h2, h3, h4⟩
  · exact .inl hn
  · exact .inr ⟨g, cap, cur, e1, hb, hg, h1, h2, Nat.le_of_eq h3.symm, h4⟩
theorem Rr.lt (h : Rr w base e size v n xs) : ∀ k, v.ownBlock = some k → base ≤ k ∧ k < w.heap.size := by
  intro k hk
  rcases h.2 with ⟨rfl, _⟩ | ⟨g, cap, cur, rfl, hb, hg, _⟩
  · simp [Value.ownBlock] at hk
  · simp [Value.ownBlock] at hk
    subst hk
    exact ⟨hb, lt_blk hg⟩
theorem Rr.keep (h : Rr w base e size v n xs) (hb : ∀ k, v.ownBlock = some k → w'.heap[k]? = w.heap[k]?) : Rr w' base e size v n xs := by
  refine ⟨h.1, ?_⟩
  rcases h.2 with hn | ⟨g, cap, cur, rfl, hbg, hg, rest⟩
  · exact .inl hn
  · exact .inr ⟨g, cap, cur, rfl, hbg, by rw [hb g rfl]; exact hg, rest⟩
theorem own_keep (h : w.ownsRow base e size v n xs) (hb : ∀ k, v.ownBlock = some k → w'.heap[k]? = w.heap[k]?) : w'.ownsRow base e size v n xs := by
  refine ⟨h.1, ?_⟩
  rcases h.2 with hn | ⟨g, cap, cur, rfl, hbg, hg, rest⟩
  · exact .inl hn
  · exact .inr ⟨g, cap, cur, rfl, hbg, by rw [hb g rfl]; exact hg, rest⟩
theorem Rr.shape (h : Rr w base e size v n xs) : ∃ A c, v = .slice A n c ∧ n ≤ c ∧ c ≤ maxLen ∧ (A = none → c = 0) := by
  rcases h.2 with ⟨rfl, rfl⟩ | ⟨g, cap, cur, rfl, _, _, h1, h2, _⟩
  · exact ⟨none, 0, rfl, Nat.le_refl _, Nat.zero_le _, fun _ => rfl⟩
  · exact ⟨_, cap, rfl, h1, h2, fun h => by cases h⟩
/-- The capacity cut to the length. -/
def clipV : Value → Value
  | .slice A n _ => .slice A n n
  | v => v
theorem Rr.clip (h : Rr w base e size v n xs) : Rr w base e size (clipV v) n xs := by
  refine ⟨h.1, ?_⟩
  rcases h.2 with ⟨rfl, rfl⟩ | ⟨g, cap, cur, rfl, hb, hg, h1, h2, h3, h4⟩
  · exact .inl ⟨rfl, rfl⟩
  · exact .inr ⟨g, n, cur, rfl, hb, hg, Nat.le_refl _, Nat.le_trans h1 h2, Nat.le_trans (Nat.mul_le_mul_right _ h1) h3, h4⟩
theorem clip_block (v : Value) : (clipV v).ownBlock = v.ownBlock := by
  unfold clipV
  split
  · rename_i A _ _; cases A <;> rfl
  · rfl
/-- A store into one's own row. -/
theorem own_store (h : w.ownsRow base e size v n xs) {g k : Nat} (hg : v.ownBlock = some g) (hk : k < n * size) (u : Value) : (w.setCell ⟨g, k, none⟩ u).ownsRow base e size v n (xs.set k u) := by
  refine ⟨by rw [List.length_set]; exact h.1, ?_⟩
  rcases h.2 with ⟨rfl, _⟩ | ⟨g', cap, cur, rfl, hb, hgg, h1, h2, h3, h4⟩
  · simp [Value.ownBlock] at hg
  · simp [Value.ownBlock] at hg
    subst hg
    refine .inr ⟨g', cap, _, rfl, hb, heap_setCell_same w g' k cur e u hgg, h1, h2, by simpa using h3, ?_⟩
    rw [← h4]
    apply List.ext_getElem?
    intro i
    rw [List.getElem?_take, List.getElem?_set, List.length_take, Array.toList_setIfInBounds, List.getElem?_set]
    have hc : n * size ≤ cur.toList.length := by rw [Array.length_toList, h3]; exact Nat.mul_le_mul_right _ h1
    by_cases hi : i < n * size
    · rw [if_pos hi]
      by_cases hki : k = i
      · rw [if_pos hki, if_pos hki, if_pos (by omega), if_pos (by rw [Nat.min_eq_left hc]; omega)]
      · rw [if_neg hki, if_neg hki, List.getElem?_take, if_pos hi]
    · rw [if_neg hi, if_neg (by omega), List.getElem?_take, if_neg hi]
end
/-- One row of a node. -/
structure NE (w : World) (base : Nat) (lab : Nat → Own) (o : Prop) (i : Nat) (x : Nx) (j : Nat) : Prop where
  r : Rr w base (ety j) (esz j) (x.v j) (ecn x.nd j) (ecs x.nd j)
  o : o → w.ownsRow base (ety j) (esz j) (x.v j) (ecn x.nd j) (ecs x.nd j)
  l : ∀ b, (x.v j).ownBlock = some b → lab b = .fld j i
/-- A row of nodes, and theirs. -/
structure NT (w : World) (base : Nat) (lab : Nat → Own) (opn : Nat → Prop) (v : Value) (X : List Nx) : Prop where
  row : w.ownsRow base 44 7 v X.length (ndL X)
  l : ∀ b, v.ownBlock = some b → lab b = .nd
  e : ∀ i x, X[i]? = some x → ∀ j, j < 3 → NE w base lab (opn i) i x j
section
variable {w w' w1 : World} {base : Nat} {lab lab' : Nat → Own} {opn opn' : Nat → Prop} {v v' : Value} {X : List Nx} {i j : Nat} {x : Nx}
theorem NE.keep {o o' : Prop} (h : NE w base lab o i x j) (hb : ∀ k, base ≤ k → k < w.heap.size → lab k = .fld j i → w'.heap[k]? = w.heap[k]?) (hl : ∀ k, k < w.heap.size → lab' k = lab k) (ho : o' → o) : NE w' base lab' o' i x j :=
  ⟨h.r.keep fun k hk => hb k (h.r.lt k hk).1 (h.r.lt k hk).2 (h.l k hk), fun q => own_keep (h.o (ho q)) fun k hk => hb k (h.r.lt k hk).1 (h.r.lt k hk).2 (h.l k hk), fun k hk => (hl k (h.r.lt k hk).2).trans (h.l k hk)⟩
theorem NT.keep (h : NT w base lab opn v X) (hb : ∀ k, base ≤ k → k < w.heap.size → (lab k).tree = true → w'.heap[k]? = w.heap[k]?) (hl : ∀ k, k < w.heap.size → lab' k = lab k) (ho : ∀ i, opn' i → opn i) : NT w' base lab' opn' v X :=
  ⟨own_keep h.row fun k hk => hb k (h.row.lt k hk).1 (h.row.lt k hk).2 (by rw [h.l k hk]; rfl), fun k hk => (hl k (h.row.lt k hk).2).trans (h.l k hk),
    fun i x hx j hj => (h.e i x hx j hj).keep (fun k hkb hk e => hb k hkb hk (by rw [e]; rfl)) hl (ho i)⟩
theorem NT.below (h : NT w base lab opn v X) (hb : Below w.heap.size w w') : NT w' base lab opn v X := h.keep (fun k _ hk _ => hb.block k hk) (fun _ _ => rfl) fun _ h => h
theorem NT.opn_ (h : NT w base lab opn v X) (ho : ∀ i, opn' i → opn i) : NT w base lab opn' v X := h.keep (fun _ _ _ _ => rfl) (fun _ _ => rfl) ho
/-- A label for the block that a slice lies in. -/
def labS (lab : Nat → Own) (v : Value) (o : Own) : Nat → Own := fun b => if v.ownBlock = some b then o else lab b
theorem labS_old {o : Own} {s : Nat} (hv : v'.ownBlock = v.ownBlock ∨ v'.ownBlock = some s) (hl : ∀ b, v.ownBlock = some b → lab b = o) : ∀ k, k < s → labS lab v' o k = lab k := by
  intro k hk
  unfold labS
  split
  · rename_i h
    rcases hv with e | e
    · exact (hl k (e ▸ h)).symm
    · rw [e] at h; injection h with h; omega
  · rfl
theorem labS_self {o : Own} : ∀ b, v'.ownBlock = some b → labS lab v' o b = o := fun _ h => if_pos h
/-- One of them is another one. -/
def upV (f : Nat → Value) (j : Nat) (u : Value) : Nat → Value := fun k => if k = j then u else f k
theorem upV_same (f : Nat → Value) (j : Nat) (u : Value) : upV f j u j = u := if_pos rfl
theorem upV_ne (f : Nat → Value) (j : Nat) (u : Value) {k : Nat} (h : k ≠ j) : upV f j u k = f k := if_neg h
def nil0 : Nat → Value := fun _ => .slice none 0 0
theorem NT.start : NT w base lab opn (.slice none 0 0) [] := ⟨World.ownsRow_nil _ _ _ _, fun b h => (by cases h), fun i x h => (by simp at h)⟩
theorem NT.lt (h : NT w base lab opn v X) : ∀ k, v.ownBlock = some k → base ≤ k ∧ k < w.heap.size := h.row.lt
theorem NT.push {n0 : Nd} (h : NT w base lab opn v X) (hg : w.grownBy w1 v.ownBlock) (ho : w1.ownsRow base 44 7 v' (X.length + 1) (ndL X ++ ndC ⟨n0, nil0⟩))
    (hv : v'.ownBlock = v.ownBlock ∨ v'.ownBlock = some w.heap.size) (hk : n0.keys = []) (hs : n0.spots = []) (hu : n0.subs = []) : NT w1 base (labS lab v' .nd) (fun i => opn i ∨ i = X.length) v' (X ++ [⟨n0, nil0⟩]) := by
  have hlo := labS_old (o := .nd) hv h.l
  refine ⟨by rw [ndL_app, ndL_one, List.length_append]; exact ho, labS_self, fun i x hx j hj => ?_⟩
  by_cases hi : i < X.length
  · rw [List.getElem?_append_left hi] at hx
    exact (h.e i x hx j hj).keep (fun k _ hk e => hg.block k hk (fun e2 => by rw [h.l k e2.symm] at e; cases e)) hlo fun q => q.resolve_right (by omega)
  · have hi2 : i = X.length := by
      have := (List.getElem?_eq_some_iff.1 hx).1
      simp at this; omega
    subst hi2
    simp at hx
    subst hx
    have e1 : ecn n0 j = 0 := by
      have : j = 0 ∨ j = 1 ∨ j = 2 := by omega
      rcases this with rfl | rfl | rfl <;> simp [ecn, hk, hs, hu]
    have e2 : ecs n0 j = [] := by
      have : j = 0 ∨ j = 1 ∨ j = 2 := by omega
      rcases this with rfl | rfl | rfl <;> simp [ecs, hk, hs, hu]
    have q : w1.ownsRow base (ety j) (esz j) (nil0 j) (ecn n0 j) (ecs n0 j) := by rw [e1, e2]; exact World.ownsRow_nil _ _ _ _
    exact ⟨Rr.of_own q, fun _ => q, fun b hb => by cases hb⟩
/-- A node's row is another one; stored. -/
theorem NT.field {nd' : Nd} {g : Nat} (h : NT w base lab opn v X) (hx : X[i]? = some x) (hj : j < 3) (hg : w.grownBy w1 (x.v j).ownBlock) (ho : w1.ownsRow base (ety j) (esz j) v' (ecn nd' j) (ecs nd' j))
    (hv : v'.ownBlock = (x.v j).ownBlock ∨ v'.ownBlock = some w.heap.size) (hkd : nd'.kind = x.nd.kind ∧ nd'.text = x.nd.text ∧ nd'.span = x.nd.span)
    (hoth : ∀ k, k < 3 → k ≠ j → ecn nd' k = ecn x.nd k ∧ ecs nd' k = ecs x.nd k) (hvb : v.ownBlock = some g) :
    NT (w1.setCell ⟨g, i * 7 + (2 + j), none⟩ v') base (labS lab v' (.fld j i)) opn v (X.set i ⟨nd', upV x.v j v'⟩) := by
  have hi : i < X.length := (List.getElem?_eq_some_iff.1 hx).1
  have hE := h.e i x hx j hj
  have hlo := labS_old (o := .fld j i) hv hE.l
  have hgl := h.row.lt g hvb
  have hgn : ∀ k, k < w.heap.size → lab k ≠ .fld j i → w1.heap[k]? = w.heap[k]? := fun k hk ne => hg.block k hk (fun e2 => ne (hE.l k e2.symm))
  have hvg : v'.ownBlock ≠ some g := fun e => by
    have := hlo g hgl.2
    rw [labS_self g e, h.l g hvb] at this; cases this
  refine ⟨?_, fun b hb => (hlo b (h.row.lt b hb).2).trans (h.l b hb), fun k y hy j' hj' => ?_⟩
  · rw [List.length_set]
    have hc : ndC (⟨nd', upV x.v j v'⟩ : Nx) = (ndC x).set (2 + j) v' := by
      have : j = 0 ∨ j = 1 ∨ j = 2 := by omega
      rcases this with rfl | rfl | rfl <;> simp [ndC, hkd, upV]
    rw [← ndL_set X i x _ (2 + j) v' hx (by omega) hc]
    exact own_store (own_keep h.row fun k hk => hgn k (h.row.lt k hk).2 (by rw [h.l k hk]; exact fun e => by cases e)) hvb (by omega) v'
  · have key : ∀ b, b < w1.heap.size → b ≠ g → (w1.setCell ⟨g, i * 7 + (2 + j), none⟩ v').heap[b]? = w1.heap[b]? := fun b _ hb => heap_setCell_other _ _ _ _ hb
    by_cases hki : k = i
    · subst hki
      rw [List.getElem?_set, if_pos rfl, if_pos hi] at hy
      injection hy with hy
      subst hy
      by_cases hjj : j' = j
      · subst hjj
        have q : (w1.setCell ⟨g, k * 7 + (2 + j'), none⟩ v').ownsRow base (ety j') (esz j') v' (ecn nd' j') (ecs nd' j') :=
          own_keep ho fun b hb => key b (ho.lt b hb).2 (fun e => hvg (e ▸ hb))
        have e := upV_same x.v j' v'
        refine ⟨?_, fun _ => ?_, fun b hb => ?_⟩
        · show Rr _ _ _ _ (upV x.v j' v' j') _ _
          rw [e]; exact Rr.of_own q
        · show World.ownsRow _ _ _ _ (upV x.v j' v' j') _ _
          rw [e]; exact q
        · have hb' : (upV x.v j' v' j').ownBlock = some b := hb
          rw [e] at hb'; exact labS_self b hb'
      · obtain ⟨o1, o2⟩ := hoth j' hj' hjj
        have hE2 := h.e k x hx j' hj'
        have e := upV_ne x.v j v' hjj
        have hb2 : ∀ b, (x.v j').ownBlock = some b → (w1.setCell ⟨g, k * 7 + (2 + j), none⟩ v').heap[b]? = w.heap[b]? := fun b hb => by
          have hlt := (hE2.r.lt b hb).2
          have hl := hE2.l b hb
          rw [key b (Nat.lt_of_lt_of_le hlt hg.size) (fun e => by rw [e, h.l g hvb] at hl; cases hl)]
          exact hgn b hlt (by rw [hl]; intro e; injection e with e _; exact hjj e)
        refine ⟨?_, fun q => ?_, fun b hb => ?_⟩
        · show Rr _ _ _ _ (upV x.v j v' j') (ecn nd' j') (ecs nd' j')
          rw [e, o1, o2]; exact hE2.r.keep hb2
        · show World.ownsRow _ _ _ _ (upV x.v j v' j') (ecn nd' j') (ecs nd' j')
          rw [e, o1, o2]; exact own_keep (hE2.o q) hb2
        · have hb' : (upV x.v j v' j').ownBlock = some b := hb
          rw [e] at hb'
          have hb := hb'
          exact (hlo b (hE2.r.lt b hb).2).trans (hE2.l b hb)
    · rw [List.getElem?_set, if_neg (fun e => hki e.symm)] at hy
      have hE2 := h.e k y hy j' hj'
      refine hE2.keep (fun b _ hb hl => ?_) hlo fun q => q
      rw [key b (Nat.lt_of_lt_of_le hb hg.size) (fun e => by rw [e, h.l g hvb] at hl; cases hl)]
      exact hgn b hb (by rw [hl]; intro e; injection e with _ e; exact hki e)
/-- A node's cell is another one, its rows as they were, or cut to their lengths. -/
theorem NT.cell {nd' : Nd} {vs : Nat → Value} {r g : Nat} {u : Value} (h : NT w base lab opn v X) (hx : X[i]? = some x) (hr : r < 7) (hc : ndC ⟨nd', vs⟩ = (ndC x).set r u) (hnd : ∀ k, ecn nd' k = ecn x.nd k ∧ ecs nd' k = ecs x.nd k)
    (hvs : ∀ k, k < 3 → vs k = x.v k ∨ (¬ opn i ∧ vs k = clipV (x.v k))) (hvb : v.ownBlock = some g) :
    NT (w.setCell ⟨g, i * 7 + r, none⟩ u) base lab opn v (X.set i ⟨nd', vs⟩) := by
  have hi : i < X.length := (List.getElem?_eq_some_iff.1 hx).1
  have key : ∀ b, b ≠ g → (w.setCell ⟨g, i * 7 + r, none⟩ u).heap[b]? = w.heap[b]? := fun b hb => heap_setCell_other _ _ _ _ hb
  refine ⟨?_, h.l, fun k y hy j' hj' => ?_⟩
  · rw [List.length_set, ← ndL_set X i x _ r u hx hr hc]
    exact own_store h.row hvb (by omega) u
  · by_cases hki : k = i
    · subst hki
      rw [List.getElem?_set, if_pos rfl, if_pos hi] at hy
      injection hy with hy
      subst hy
      have hE2 := h.e k x hx j' hj'
      have hb2 : ∀ b, (x.v j').ownBlock = some b → (w.setCell ⟨g, k * 7 + r, none⟩ u).heap[b]? = w.heap[b]? := fun b hb => key b (fun e => by have := hE2.l b hb; rw [e, h.l g hvb] at this; cases this)
      obtain ⟨o1, o2⟩ := hnd j'
      rcases hvs j' hj' with e | ⟨hno, e⟩
      · refine ⟨?_, fun q => ?_, fun b hb => ?_⟩
        · show Rr _ _ _ _ (vs j') (ecn nd' j') (ecs nd' j')
          rw [e, o1, o2]; exact hE2.r.keep hb2
        · show World.ownsRow _ _ _ _ (vs j') (ecn nd' j') (ecs nd' j')
          rw [e, o1, o2]; exact own_keep (hE2.o q) hb2
        · exact hE2.l b (e ▸ hb)
      · refine ⟨?_, fun q => absurd q hno, fun b hb => ?_⟩
        · show Rr _ _ _ _ (vs j') (ecn nd' j') (ecs nd' j')
          rw [e, o1, o2]; exact (hE2.r.keep hb2).clip
        · have hb' : (vs j').ownBlock = some b := hb
          rw [e, clip_block] at hb'; exact hE2.l b hb'
    · rw [List.getElem?_set, if_neg (fun e => hki e.symm)] at hy
      exact (h.e k y hy j' hj').keep (fun b _ _ hl => key b (fun e => by rw [e, h.l g hvb] at hl; cases hl)) (fun _ _ => rfl) fun q => q
theorem NT.shape (h : NT w base lab opn v X) (h0 : 0 < X.length) : ∃ g c, v = .slice (some ⟨g, 0, none⟩) X.length c ∧ base ≤ g ∧ g < w.heap.size ∧ X.length ≤ c ∧ c ≤ maxLen ∧ (∀ k, w.frozen? ⟨g, k, none⟩ = false) ∧
    ∀ i x, X[i]? = some x → ∀ r u, (ndC x)[r]? = some u → w.cell? ⟨g, i * 7 + r, none⟩ = some u := by
  rcases h.row.2 with ⟨_, e⟩ | ⟨g, cap, cur, rfl, hb, hg, h1, h2, h3, h4⟩
  · omega
  · refine ⟨g, cap, rfl, hb, lt_blk hg, h1, h2, fun k => ?_, fun i x hx r u hu => ?_⟩
    · simp [World.frozen?, hg]
    · have hr : r < 7 := (List.getElem?_eq_some_iff.1 hu).1
      have e := ndL_at X i x r hx hr
      rw [← h4, hu, List.getElem?_take] at e
      split at e
      · rw [cell_of_row w g _ cur _ (0, 0) hg, ← Array.getElem?_toList]; exact e
      · cases e
end
end Jt
end Go.Proofs.YtdclhepjoifpiaaGreatDoor
/- The parser of tokens in memory: what it knows between two tokens, and what each step does to it. -/
namespace Go.Proofs.YtdclhepjoifpiaaGreatDoor
open Go.RowKit
namespace Jt
open Jk (lt_blk)

/-- A map's keys, as a set. -/
def setK (ks : List Bs) : DataW Unit := Maps.setOf (.agg []) (ks.map Lit.string)
theorem setK_snoc (ks : List Bs) (k : Bs) : setK (ks ++ [k]) = (setK ks).put (.string k) (.agg []) := by
  unfold setK; rw [List.map_append]; exact Maps.setOf_snoc _ _ _
theorem setK_has (ks : List Bs) (k : Bs) : Maps.has (setK ks) (.string k) = decide (k ∈ ks) := by
  unfold setK
  rw [Maps.has_setOf _ _ _ (fun x hx => by obtain ⟨y, _, rfl⟩ := List.mem_map.1 hx; trivial)]
  induction ks with
  | nil => rfl
  | cons y ks ih =>
    rw [List.map_cons, List.any_cons, ih]
    show ((y == k) || decide (k ∈ ks)) = decide (k ∈ y :: ks)
    rw [Bool.eq_iff_iff]
    simp only [Bool.or_eq_true, beq_iff_eq, decide_eq_true_eq, List.mem_cons]
    exact ⟨fun h => h.imp Eq.symm id, fun h => h.imp Eq.symm id⟩
theorem map_keep {w w' : World} {b n : Nat} {D : DataW Unit} {k : TypeId} {R : Value → Option (DataW Unit × List MemPlace)} (h : w.ownsMap Tryz.prog k R b n D) (hb : w'.heap[b]? = w.heap[b]?) : w'.ownsMap Tryz.prog k R b n D := by
  obtain ⟨es, clock, h1, r⟩ := h
  exact ⟨es, clock, hb.trans h1, r⟩
/-- What lies on the stack for a list, a map. -/
def skC (mb : Nat → Nat) (p : Nat × Bool) : Value :=
  if p.2 = true then .iface 117 (.agg #[.int .i64 (p.1 : Nat), .map (some (mb p.1))]) else .iface 114 (.agg #[.int .i64 (p.1 : Nat)])
def skL (mb : Nat → Nat) (S : List (Nat × Bool)) : List Value := S.reverse.map (skC mb)
theorem skL_cons (mb : Nat → Nat) (p : Nat × Bool) (S : List (Nat × Bool)) : skL mb (p :: S) = skL mb S ++ [skC mb p] := by simp [skL]
theorem skL_len (mb : Nat → Nat) (S : List (Nat × Bool)) : (skL mb S).length = S.length := by simp [skL]
theorem skL_congr {mb mb' : Nat → Nat} {S : List (Nat × Bool)} (h : ∀ a, (a, true) ∈ S → mb' a = mb a) : skL mb' S = skL mb S := by
  unfold skL
  apply List.map_congr_left
  rintro ⟨a, m⟩ hp
  cases m with
  | false => rfl
  | true => show Value.iface _ _ = Value.iface _ _; rw [h a (List.mem_reverse.1 hp)]
structure PM (w : World) (P : Nat) (bv : Value) (wd : Nat) (sk : List (Nat × Bool)) (lab : Nat → Own) (op : Nat → Prop) (mb : Nat → Nat) (ks : Nat → List Bs) (sv nv : Value) (X : List Nx) : Prop where
  obj : w.heap[P]? = some (.cells #[bv, .int .u8 (wd : Nat), sv, nv] 61 (0, 0))
  nt : NT w (P + 1) lab op nv X
  stk : w.ownsRow (P + 1) 122 1 sv sk.length (skL mb sk)
  ls : ∀ b, sv.ownBlock = some b → lab b = .stk
  op : ∀ p ∈ sk, op p.1
  maps : ∀ a, (a, true) ∈ sk → lab (mb a) = .map a ∧ P + 1 ≤ mb a ∧ w.ownsMap Tryz.prog 9 unitElem (mb a) (ks a).length (setK (ks a))
section
variable {w w' w1 : World} {P : Nat} {bv : Value} {wd : Nat} {sk : List (Nat × Bool)} {lab lab' : Nat → Own} {op op' : Nat → Prop} {mb : Nat → Nat} {ks : Nat → List Bs} {sv nv v' : Value} {X X' : List Nx} {i j : Nat} {x : Nx}
theorem PM.lt (h : PM w P bv wd sk lab op mb ks sv nv X) : P < w.heap.size := lt_blk h.obj
theorem PM.cells (h : PM w P bv wd sk lab op mb ks sv nv X) : w.cell? ⟨P, 0, none⟩ = some bv ∧ w.cell? ⟨P, 1, none⟩ = some (.int .u8 (wd : Nat)) ∧ w.cell? ⟨P, 2, none⟩ = some sv ∧ w.cell? ⟨P, 3, none⟩ = some nv ∧ ∀ k, w.frozen? ⟨P, k, none⟩ = false := by
  refine ⟨?_, ?_, ?_, ?_, fun k => ?_⟩ <;> simp [World.cell?, World.frozen?, h.obj]
/-- The tree's part has turned, and the struct's cells. -/
theorem PM.turn {nv' : Value} {wd' : Nat} (h : PM w P bv wd sk lab op mb ks sv nv X) (ho : w'.heap[P]? = some (.cells #[bv, .int .u8 (wd' : Nat), sv, nv'] 61 (0, 0))) (hn : NT w' (P + 1) lab' op' nv' X')
    (hb : ∀ k, k < w.heap.size → (lab k).tree = false → k ≠ P → w'.heap[k]? = w.heap[k]?) (hl : ∀ k, k < w.heap.size → lab' k = lab k) (hop : ∀ p ∈ sk, op' p.1) : PM w' P bv wd' sk lab' op' mb ks sv nv' X' := by
  refine ⟨ho, hn, own_keep h.stk fun k hk => ?_, fun k hk => ?_, hop, fun a ha => ?_⟩
  · have hlt := h.stk.lt k hk
    exact hb k hlt.2 (by rw [h.ls k hk]; rfl) (by omega)
  · exact (hl k (h.stk.lt k hk).2).trans (h.ls k hk)
  · obtain ⟨m1, m2, m3⟩ := h.maps a ha
    exact ⟨(hl _ m3.lt).trans m1, m2, map_keep m3 (hb _ m3.lt (by rw [m1]; rfl) (by omega))⟩
theorem PM.below (h : PM w P bv wd sk lab op mb ks sv nv X) (hb : Below w.heap.size w w') : PM w' P bv wd sk lab op mb ks sv nv X :=
  h.turn (by rw [hb.block _ h.lt]; exact h.obj) (h.nt.below hb) (fun k hk _ _ => hb.block k hk) (fun _ _ => rfl) h.op
theorem PM.want (h : PM w P bv wd sk lab op mb ks sv nv X) (wd' : Nat) : PM (w.setCell ⟨P, 1, none⟩ (.int .u8 (wd' : Nat))) P bv wd' sk lab op mb ks sv nv X := by
  have key : ∀ k, k ≠ P → (w.setCell ⟨P, 1, none⟩ (.int .u8 (wd' : Nat))).heap[k]? = w.heap[k]? := fun k hk => heap_setCell_other _ _ _ _ hk
  exact h.turn (heap_setCell_same w P 1 _ _ _ h.obj)
    (h.nt.keep (fun k hkb _ _ => key k (by omega)) (fun _ _ => rfl) fun _ h => h) (fun k _ _ hk => key k hk) (fun _ _ => rfl) h.op
/-- A node's row has one more; stored. -/
theorem PM.field {nd' : Nd} {g : Nat} (h : PM w P bv wd sk lab op mb ks sv nv X) (hx : X[i]? = some x) (hj : j < 3) (hg : w.grownBy w1 (x.v j).ownBlock) (ho : w1.ownsRow (P + 1) (ety j) (esz j) v' (ecn nd' j) (ecs nd' j))
    (hv : v'.ownBlock = (x.v j).ownBlock ∨ v'.ownBlock = some w.heap.size) (hkd : nd'.kind = x.nd.kind ∧ nd'.text = x.nd.text ∧ nd'.span = x.nd.span)
    (hoth : ∀ k, k < 3 → k ≠ j → ecn nd' k = ecn x.nd k ∧ ecs nd' k = ecs x.nd k) (hvb : nv.ownBlock = some g) :
    PM (w1.setCell ⟨g, i * 7 + (2 + j), none⟩ v') P bv wd sk (labS lab v' (.fld j i)) op mb ks sv nv (X.set i ⟨nd', upV x.v j v'⟩) := by
  have hE := h.nt.e i x hx j hj
  have hgl := h.nt.lt g hvb
  have h2 : ∀ k, k < w.heap.size → k ≠ g → lab k ≠ .fld j i → (w1.setCell ⟨g, i * 7 + (2 + j), none⟩ v').heap[k]? = w.heap[k]? := fun k hk hkg hne =>
    (heap_setCell_other _ _ _ _ hkg).trans (hg.block k hk fun e => hne (hE.l k e.symm))
  have hP := h.lt
  refine h.turn ?_ (h.nt.field hx hj hg ho hv hkd hoth hvb) (fun k hk ht _ => h2 k hk (fun e => ?_) (fun e => ?_)) (labS_old hv hE.l) h.op
  · rw [heap_setCell_other _ _ _ _ (show P ≠ g by omega), hg.block P hP fun e => by have := (hE.r.lt P e.symm).1; omega]; exact h.obj
  · rw [e, h.nt.l g hvb] at ht; cases ht
  · rw [e] at ht; cases ht
/-- A node's cell is another one, its rows as they were, or cut to their lengths. -/
theorem PM.cell {nd' : Nd} {vs : Nat → Value} {r g : Nat} {u : Value} (h : PM w P bv wd sk lab op mb ks sv nv X) (hx : X[i]? = some x) (hr : r < 7) (hc : ndC ⟨nd', vs⟩ = (ndC x).set r u) (hnd : ∀ k, ecn nd' k = ecn x.nd k ∧ ecs nd' k = ecs x.nd k)
    (hvs : ∀ k, k < 3 → vs k = x.v k ∨ (¬ op i ∧ vs k = clipV (x.v k))) (hvb : nv.ownBlock = some g) :
    PM (w.setCell ⟨g, i * 7 + r, none⟩ u) P bv wd sk lab op mb ks sv nv (X.set i ⟨nd', vs⟩) := by
  have hgl := h.nt.lt g hvb
  refine h.turn ?_ (h.nt.cell hx hr hc hnd hvs hvb) (fun k _ ht _ => heap_setCell_other _ _ _ _ fun e => ?_) (fun _ _ => rfl) h.op
  · rw [heap_setCell_other _ _ _ _ (show P ≠ g by omega)]; exact h.obj
  · rw [e, h.nt.l g hvb] at ht; cases ht
/-- One more node; stored. -/
theorem PM.push {n0 : Nd} (h : PM w P bv wd sk lab op mb ks sv nv X) (hg : w.grownBy w1 nv.ownBlock) (ho : w1.ownsRow (P + 1) 44 7 v' (X.length + 1) (ndL X ++ ndC ⟨n0, nil0⟩))
    (hv : v'.ownBlock = nv.ownBlock ∨ v'.ownBlock = some w.heap.size) (hk : n0.keys = []) (hs : n0.spots = []) (hu : n0.subs = []) :
    PM (w1.setCell ⟨P, 3, none⟩ v') P bv wd sk (labS lab v' .nd) (fun i => op i ∨ i = X.length) mb ks sv v' (X ++ [⟨n0, nil0⟩]) := by
  have hP := h.lt
  have key : ∀ k, k ≠ P → (w1.setCell ⟨P, 3, none⟩ v').heap[k]? = w1.heap[k]? := fun k hk => heap_setCell_other _ _ _ _ hk
  have hN := h.nt.push hg ho hv hk hs hu
  refine h.turn ?_ (hN.keep (fun k hkb _ _ => key k (by omega)) (fun _ _ => rfl) fun _ q => q) (fun k hk ht hkP => (key k hkP).trans (hg.block k hk fun e => ?_)) (labS_old hv h.nt.l) fun p hp => .inl (h.op p hp)
  · refine heap_setCell_same w1 P 3 #[bv, .int .u8 (wd : Nat), sv, nv] _ v' ?_
    rw [hg.block P hP fun e => by have := (h.nt.lt P e.symm).1; omega]; exact h.obj
  · rw [h.nt.l k e.symm] at ht; cases ht
/-- One more on the stack; stored. -/
theorem PM.pushS {a b : Nat} {m : Bool} (h : PM w P bv wd sk lab op mb ks sv nv X) (hop : op a) (hn : ∀ m', (a, m') ∉ sk) (hm : m = true → P + 1 ≤ b ∧ lab b = .no ∧ b < w.heap.size ∧ w.ownsMap Tryz.prog 9 unitElem b 0 (setK []))
    (hg : w.grownBy w1 sv.ownBlock) (ho : w1.ownsRow (P + 1) 122 1 v' (sk.length + 1) (skL mb sk ++ [skC (fun _ => b) (a, m)])) (hv : v'.ownBlock = sv.ownBlock ∨ v'.ownBlock = some w.heap.size) :
    PM (w1.setCell ⟨P, 2, none⟩ v') P bv wd ((a, m) :: sk) (labS (fun k => if m = true ∧ k = b then .map a else lab k) v' .stk) op (fun i => if i = a then b else mb i) (fun i => if i = a then [] else ks i) v' nv X := by
  have hP := h.lt
  have key : ∀ k, k ≠ P → (w1.setCell ⟨P, 2, none⟩ v').heap[k]? = w1.heap[k]? := fun k hk => heap_setCell_other _ _ _ _ hk
  have hgb : ∀ k, k < w.heap.size → lab k ≠ .stk → w1.heap[k]? = w.heap[k]? := fun k hk hne => hg.block k hk fun e => hne (h.ls k e.symm)
  obtain ⟨lab2, hlab2⟩ : ∃ l : Nat → Own, l = fun k => if m = true ∧ k = b then .map a else lab k := ⟨_, rfl⟩
  have l2 : ∀ k, lab k ≠ .no → lab2 k = lab k := fun k hk => by
    rw [hlab2]
    show (if m = true ∧ k = b then _ else _) = _
    exact if_neg (fun e : m = true ∧ k = b => hk (by rw [e.2]; exact (hm e.1).2.1))
  have hls2 : ∀ k, sv.ownBlock = some k → lab2 k = .stk := fun k hk => by rw [l2 k (by rw [h.ls k hk]; exact fun e => by cases e)]; exact h.ls k hk
  have lo := labS_old (lab := lab2) (o := .stk) hv hls2
  rw [← hlab2]
  refine ⟨?_, ?_, ?_, labS_self, fun p hp => ?_, fun c hc => ?_⟩
  · refine heap_setCell_same w1 P 2 #[bv, .int .u8 (wd : Nat), sv, nv] _ v' ?_
    rw [hg.block P hP fun e => by have := (h.stk.lt P e.symm).1; omega]; exact h.obj
  · have q : NT w (P + 1) lab2 op nv X := by
      refine ⟨h.nt.row, fun k hk => by rw [l2 k (by rw [h.nt.l k hk]; exact fun e => by cases e)]; exact h.nt.l k hk, fun i x hx j hj => ?_⟩
      have hE := h.nt.e i x hx j hj
      exact ⟨hE.r, hE.o, fun k hk => by rw [l2 k (by rw [hE.l k hk]; exact fun e => by cases e)]; exact hE.l k hk⟩
    refine q.keep (fun k hkb hk ht => (key k (by omega)).trans (hgb k hk fun e => ?_)) lo fun _ h => h
    rw [l2 k (by rw [e]; exact fun e => by cases e), e] at ht; cases ht
  · rw [List.length_cons, skL_cons, skL_congr (mb := mb) (fun c hc => if_neg (fun e : c = a => hn true (by rw [← e]; exact hc)))]
    have e : skC (fun i => if i = a then b else mb i) (a, m) = skC (fun _ => b) (a, m) := by unfold skC; simp
    rw [e]
    exact own_keep ho fun k hk => key k (by have := (ho.lt k hk).1; omega)
  · rcases List.mem_cons.1 hp with rfl | hp
    · exact hop
    · exact h.op p hp
  · rcases List.mem_cons.1 hc with e | hc
    · injection e with e1 e2
      subst e1
      obtain ⟨m1, m2, m3, m4⟩ := hm e2.symm
      show labS lab2 v' .stk (if c = c then b else mb c) = _ ∧ P + 1 ≤ (if c = c then b else mb c) ∧ World.ownsMap _ _ _ _ (if c = c then b else mb c) (if c = c then [] else ks c).length (setK (if c = c then [] else ks c))
      rw [if_pos rfl, if_pos rfl]
      refine ⟨?_, m1, map_keep m4 ?_⟩
      · rw [lo b m3, hlab2]; exact if_pos ⟨e2.symm, rfl⟩
      · rw [key b (by omega)]; exact hgb b m3 (by rw [m2]; exact fun e => by cases e)
    · have hca : c ≠ a := fun e => hn true (e ▸ hc)
      obtain ⟨m1, m2, m3⟩ := h.maps c hc
      show labS lab2 v' .stk (if c = a then b else mb c) = _ ∧ P + 1 ≤ (if c = a then b else mb c) ∧ World.ownsMap _ _ _ _ (if c = a then b else mb c) (if c = a then [] else ks c).length (setK (if c = a then [] else ks c))
      rw [if_neg hca, if_neg hca]
      refine ⟨?_, m2, map_keep m3 ?_⟩
      · rw [lo _ m3.lt, l2 _ (by rw [m1]; exact fun e => by cases e)]; exact m1
      · rw [key _ (by omega)]; exact hgb _ m3.lt (by rw [m1]; exact fun e => by cases e)
/-- The innermost one is left. -/
theorem PM.pop {a : Nat} {m : Bool} {A : Option Addr} {c : Nat} (h : PM w P bv wd ((a, m) :: sk) lab op mb ks (.slice A (sk.length + 1) c) nv X) (hop : ∀ p ∈ sk, op' p.1) (hoo : ∀ i, op' i → op i) :
    PM (w.setCell ⟨P, 2, none⟩ (.slice A sk.length c)) P bv wd sk lab op' mb ks (.slice A sk.length c) nv X := by
  have hP := h.lt
  have key : ∀ k, k ≠ P → (w.setCell ⟨P, 2, none⟩ (.slice A sk.length c)).heap[k]? = w.heap[k]? := fun k hk => heap_setCell_other _ _ _ _ hk
  refine ⟨heap_setCell_same w P 2 _ _ _ h.obj, h.nt.keep (fun k hkb _ _ => key k (by omega)) (fun _ _ => rfl) hoo, ?_, fun k hk => h.ls k ?_, hop, fun c hc => ?_⟩
  · rcases h.stk.2 with ⟨_, e⟩ | ⟨g, cap, cur, e1, hb, hg, h1, h2, h3, h4⟩
    · simp at e
    · injection e1 with e1 e2 e3
      subst e1; subst e3
      refine ⟨by rw [skL_len]; omega, .inr ⟨g, c, cur, rfl, hb, by rw [key g (by omega)]; exact hg, ?_, h2, h3, ?_⟩⟩
      · rw [List.length_cons] at h1; omega
      · rw [skL_cons] at h4
        have := congrArg (List.take (sk.length * 1)) h4
        rw [List.take_take, List.take_left' (by rw [skL_len]; omega)] at this
        rw [← this]; congr 1; rw [List.length_cons]; omega
  · cases A <;> exact hk
  · obtain ⟨m1, m2, m3⟩ := h.maps c (List.mem_cons_of_mem _ hc)
    exact ⟨m1, m2, map_keep m3 (key _ (by omega))⟩
/-- A key is put into the innermost map's set. -/
theorem PM.mapPut {a : Nat} {S : List (Nat × Bool)} {k : Bs} (h : PM w P bv wd ((a, true) :: S) lab op mb ks sv nv X) (hn : ∀ m, (a, m) ∉ S) (hg : w.grownBy w1 (some (mb a))) (ho : w1.ownsMap Tryz.prog 9 unitElem (mb a) ((ks a).length + 1) ((setK (ks a)).put (.string k) (.agg []))) :
    PM w1 P bv wd ((a, true) :: S) lab op mb (fun i => if i = a then ks a ++ [k] else ks i) sv nv X := by
  obtain ⟨m1, m2, m3⟩ := h.maps a (List.mem_cons_self ..)
  have hP := h.lt
  have hb : ∀ k, k < w.heap.size → lab k ≠ .map a → w1.heap[k]? = w.heap[k]? := fun k hk hne => hg.block k hk fun e => by injection e with e; exact hne (e ▸ m1)
  refine ⟨?_, h.nt.keep (fun k _ hk ht => hb k hk fun e => by rw [e] at ht; cases ht) (fun _ _ => rfl) fun _ h => h, own_keep h.stk fun k hk => hb k (h.stk.lt k hk).2 (by rw [h.ls k hk]; exact fun e => by cases e), h.ls, h.op, fun c hc => ?_⟩
  · rw [hg.block P hP fun e => by injection e with e; omega]; exact h.obj
  · by_cases hca : c = a
    · subst hca
      refine ⟨m1, m2, ?_⟩
      show World.ownsMap _ _ _ _ _ (if c = c then ks c ++ [k] else ks c).length (setK (if c = c then ks c ++ [k] else ks c))
      rw [if_pos rfl, setK_snoc, List.length_append]
      exact ho
    · rcases List.mem_cons.1 hc with e | hc
      · injection e with e _; exact absurd e hca
      · obtain ⟨q1, q2, q3⟩ := h.maps c (List.mem_cons_of_mem _ hc)
        refine ⟨q1, q2, ?_⟩
        show World.ownsMap _ _ _ _ _ (if c = a then ks a ++ [k] else ks c).length (setK (if c = a then ks a ++ [k] else ks c))
        rw [if_neg hca]
        exact map_keep q3 (hb _ q3.lt (by rw [q1]; exact fun e => by injection e with e; exact hca e))
end
end Jt
end Go.Proofs.YtdclhepjoifpiaaGreatDoor
/- What landed: the parser's small functions. -/
namespace Go.Proofs.YtdclhepjoifpiaaGreatDoor
open Go.RowKit
namespace Jt

/-- A fault as it is told. -/
def FV (c a : Int) : Value := .iface 30 (.agg #[.int .i64 c, .int .i64 a])
/-- A call that ends so. -/
def Told (c a : Int) (e : Ending) : Prop := e = .panicked [{ v := FV c a, recovered := false }]
theorem fail_any (c a : Int) (w : World) : Calls Tryz.prog 28 #[.int .i64 c, .int .i64 a] w fun e w' => e = .panicked [{ v := FV c a, recovered := false }] ∧ w = w' := by
  go_enter Tryz.func28, Tryz.ntmps28
  go_wp2_with fail
  exact ⟨rfl, rfl, rfl⟩
section
variable {P : Program} {ops : Array Oper} {C : World → Prop}
/-- A region that draws its order: one walk, in the order of the text, over worlds of a class of one's own. -/
theorem reg_lit {id : Nat} {Q : Exit → Act → World → Prop} {a : Act} {w : World} {l : List Oper} (hm : P.follows .mixedOrders = true) (hB : Region.lexB .any l.toArray = true) (hC : C w.drew)
    (h : wpQuiet P l.toArray C (fun a' => ∀ w', C w' → Q .normal a' w') l a) : (Code.region id l.toArray true).wp P Q a w := wp_region_quiet hm hB hC (by simpa using h)
end
/-- The worlds in which nothing that was there has turned. -/
structure Kept (w : World) where
  wx : World
  held : Below w.heap.size w wx
instance (w : World) : Nonempty (Kept w) := ⟨⟨w, Below.refl _ _⟩⟩
theorem Kept.out {w : World} {v : Value} {s : Kept w} {w' : World} (h : Below s.wx.heap.size s.wx w') : Ending.returned v = Ending.returned v ∧ ∃ t : Kept w, w' = t.wx := ⟨rfl, ⟨w', Jk.below_tr s.held h⟩, rfl⟩
theorem Kept.cell {w : World} (s : Kept w) {p : Addr} {v : Value} (h : w.cell? p = some v) : s.wx.cell? p = some v := (s.held.cell (World.block_lt_of_cell? w p h)).trans h
def tokV (k f t : Int) : Value := .agg #[.int .u8 k, .int .i64 f, .int .i64 t]
section
variable {w : World} {P : Nat} {bv sv nv : Value} {wd : Nat}
/-- The parser's four cells. -/
def PO (w : World) (P : Nat) (bv : Value) (wd : Nat) (sv nv : Value) : Prop := w.heap[P]? = some (.cells #[bv, .int .u8 (wd : Nat), sv, nv] 61 (0, 0))
theorem PO.lt (h : PO w P bv wd sv nv) : P < w.heap.size := Jk.lt_blk h
theorem PO.cells (h : PO w P bv wd sv nv) : w.cell? ⟨P, 0, none⟩ = some bv ∧ w.cell? ⟨P, 1, none⟩ = some (.int .u8 (wd : Nat)) ∧ w.cell? ⟨P, 2, none⟩ = some sv ∧ w.cell? ⟨P, 3, none⟩ = some nv := by
  unfold PO at h
  refine ⟨?_, ?_, ?_, ?_⟩ <;> simp [World.cell?, h]
theorem PO.free (h : PO w P bv wd sv nv) (k : Nat) : w.frozen? ⟨P, k, none⟩ = false := by
  unfold PO at h; simp [World.frozen?, h]
theorem need_no {b : Nat} {k f t : Int} (w : World) (h : PO w P bv wd sv nv) (h1 : wd < 256) (h2 : b < 256) (hb : wd &&& b = 0) {y : Int} (hy : y = b) :
    Calls Tryz.prog 67 #[.pointer (some ⟨P, 0, none⟩), .int .u8 y, .agg #[.int .u8 k, .int .i64 f, .int .i64 t]] w fun e w' => e = .panicked [{ v := FV 3 f, recovered := false }] ∧ Below w.heap.size w w' := by
  have c1 : ∀ o, (w.alloc o).cell? ⟨P, 1, none⟩ = some (.int .u8 (wd : Nat)) := fun o => by rw [World.cell?_alloc_lt _ _ _ h.lt]; exact h.cells.2.1
  have hbit : bits .and .u8 (wd : Nat) y = 0 := by rw [hy, u8_and_nat wd b h1 h2, hb]; rfl
  clear h h1 h2 hb hy
  go_enter Tryz.func67, Tryz.ntmps67
  go_wp2_with fail
  refine (fail_any _ _ _).mono ?_
  rintro e w' ⟨rfl, rfl⟩
  exact ⟨rfl, rfl, (Below.refl _ _).alloc (Nat.le_refl _) _⟩
theorem need_ok {b : Nat} {k f t : Int} (w : World) (h : PO w P bv wd sv nv) (h1 : wd < 256) (h2 : b < 256) (hb : wd &&& b ≠ 0) {y : Int} (hy : y = b) :
    Calls Tryz.prog 67 #[.pointer (some ⟨P, 0, none⟩), .int .u8 y, .agg #[.int .u8 k, .int .i64 f, .int .i64 t]] w fun e w' => e = .returned (.tuple #[]) ∧ Below w.heap.size w w' := by
  have c1 : ∀ o, (w.alloc o).cell? ⟨P, 1, none⟩ = some (.int .u8 (wd : Nat)) := fun o => by rw [World.cell?_alloc_lt _ _ _ h.lt]; exact h.cells.2.1
  obtain ⟨z, hz⟩ : ∃ z : Int, z = bits .and .u8 (wd : Nat) y := ⟨_, rfl⟩
  have hbit := hz.symm
  have hz0 : (z == 0) = false := by rw [hz, hy, u8_and_nat wd b h1 h2]; simpa using hb
  clear h h1 h2 hb hy hz
  go_enter Tryz.func67, Tryz.ntmps67
  go_wp2_with fail
  refine bodyPost_end (results_none rfl _ _ _) rfl ?_
  exact ⟨rfl, (Below.refl _ _).alloc (Nat.le_refl _) _⟩
theorem node_list (a : Int) (w : World) : Calls Tryz.prog 164 #[.agg #[.int .i64 a]] w fun e w' => e = .returned (.int .i64 a) ∧ Below w.heap.size w w' := by
  go_enter Tryz.func164, Tryz.ntmps164
  go_wp2_with fail
  go_ret
  exact ⟨rfl, (Below.refl _ _).alloc (Nat.le_refl _) _⟩
theorem node_dict (a : Int) (u : Value) (w : World) : Calls Tryz.prog 92 #[.agg #[.int .i64 a, u]] w fun e w' => e = .returned (.int .i64 a) ∧ Below w.heap.size w w' := by
  go_enter Tryz.func92, Tryz.ntmps92
  go_wp2_with fail
  go_ret
  exact ⟨rfl, (Below.refl _ _).alloc (Nat.le_refl _) _⟩
theorem ta_ll (x : Value) (w : World) : (Instr.typeAssert (.iface 114 x) 122 114 true).run Tryz.prog w = .ok (.tuple #[x, .bool true]) w := by kernel_rfl
theorem ta_dl (x : Value) (w : World) : (Instr.typeAssert (.iface 117 x) 122 114 true).run Tryz.prog w = .ok (.tuple #[.agg #[.int .i64 0], .bool false]) w := by kernel_rfl
theorem ta_dd (x : Value) (w : World) : (Instr.typeAssert (.iface 117 x) 122 117 true).run Tryz.prog w = .ok (.tuple #[x, .bool true]) w := by kernel_rfl
theorem ta_d (x : Value) (w : World) : (Instr.typeAssert (.iface 117 x) 122 117 false).run Tryz.prog w = .ok x w := by kernel_rfl
theorem within_list (x : Value) (w : World) : Calls Tryz.prog 68 #[.iface 114 x] w fun e w' => e = .returned (.tuple #[.int .u8 1, .int .u8 93]) ∧ w = w' := by
  have h1 := ta_ll x
  go_enter Tryz.func68, Tryz.ntmps68
  go_wp2_with fail
  go_ret2
  exact ⟨rfl, rfl⟩
theorem within_dict (x : Value) (w : World) : Calls Tryz.prog 68 #[.iface 117 x] w fun e w' => e = .returned (.tuple #[.int .u8 2, .int .u8 125]) ∧ w = w' := by
  have h1 := ta_dl x
  have h2 := ta_dd x
  go_enter Tryz.func68, Tryz.ntmps68
  go_wp2_with fail
  go_ret2
  exact ⟨rfl, rfl⟩
theorem within_is (mb : Nat → Nat) (a : Nat) (m : Bool) {y z : Int} (hy : y = firstM m) (hz : z = enM m) (w : World) : Calls Tryz.prog 68 #[skC mb (a, m)] w fun e w' => e = .returned (.tuple #[.int .u8 y, .int .u8 z]) ∧ w = w' := by
  subst hy; subst hz
  cases m
  · exact within_list _ w
  · exact within_dict _ w
theorem goOn_nil (w : World) (A : Option Addr) (c : Nat) (h : PO w P bv wd (.slice A 0 c) nv) :
    Calls Tryz.prog 88 #[.pointer (some ⟨P, 0, none⟩)] w fun e w' => e = .returned (.tuple #[]) ∧ w' = w.setCell ⟨P, 1, none⟩ (.int .u8 0) := by
  obtain ⟨c0, c1, c2, c3⟩ := h.cells
  have f1 := h.free 1
  clear c0 c3 h
  go_enter Tryz.func88, Tryz.ntmps88
  go_wp2_with fail
  refine bodyPost_end (results_none rfl _ _ _) rfl ?_
  exact ⟨rfl, rfl⟩
theorem goOn_on (w : World) (A : Option Addr) (n c : Nat) (hn : 0 < n) (h : PO w P bv wd (.slice A n c) nv) :
    Calls Tryz.prog 88 #[.pointer (some ⟨P, 0, none⟩)] w fun e w' => e = .returned (.tuple #[]) ∧ w' = (w.setCell ⟨P, 1, none⟩ (.int .u8 0)).setCell ⟨P, 1, none⟩ (.int .u8 24) := by
  obtain ⟨c0, c1, c2, c3⟩ := h.cells
  have f1 := h.free 1
  clear c0 c3 h
  go_enter Tryz.func88, Tryz.ntmps88
  go_wp2_with fail
  refine bodyPost_end (results_none rfl _ _ _) rfl ?_
  exact ⟨rfl, rfl⟩
theorem bytes_any {l : List UInt8} {A : Option Addr} {N C f t : Nat} {k : Int} (w : World) (h : PO w P (.slice A N C) wd sv nv) (hA : Byt w P A l) (hN : N = l.length) (hC : N ≤ C) (_hC6 : C ≤ maxLen) (hft : f < t) (ht : t ≤ N) (hm : N ≤ 1000000) {S : ByteArray} (hS : S = txt ((l.take t).drop f)) {x y : Int} (hx : x = f) (hy : y = t) :
    Calls Tryz.prog 71 #[.pointer (some ⟨P, 0, none⟩), .agg #[.int .u8 k, .int .i64 x, .int .i64 y]] w fun e w' => e = .returned (.string S) ∧ Below w.heap.size w w' := by
  subst hx; subst hy
  unfold maxLen at _hC6
  obtain ⟨b, off, rfl, hbP, _⟩ := hA.at_ (show 0 < l.length by omega)
  obtain ⟨W1, hW1⟩ : ∃ W1, W1 = w.alloc (.cells #[.int .u8 k, .int .i64 f, .int .i64 t] 52) := ⟨_, rfl⟩
  have hb1 : Below w.heap.size w W1 := by rw [hW1]; exact (Below.refl _ _).alloc (Nat.le_refl _) _
  have K0 := fun s : Kept W1 => s.cell ((hb1.cell (p := ⟨P, 0, none⟩) h.lt).trans h.cells.1)
  have K1 := fun s : Kept W1 => s.cell (p := ⟨w.heap.size, 1, none⟩) (v := .int .i64 f) (by rw [hW1]; simp [go_sem])
  have K2 := fun s : Kept W1 => s.cell (p := ⟨w.heap.size, 2, none⟩) (v := .int .i64 t) (by rw [hW1]; simp [go_sem])
  have hP := h.lt
  have K3 := fun s : Kept W1 => conv_bytes (l := (l.take t).drop f) (w := s.wx) (t - f) (C - f) (by simp; omega) (Jk.cut_two ((hA.below (hb1.mono (Nat.le_of_lt hP))).below (s.held.mono (by have := hb1.size; omega))) (Nat.le_of_lt hft) (by omega))
  rw [← hS] at K3
  have HB := Lib.hid hb1
  clear h hA hN hm hS hb1 hP
  go_enter Tryz.func71, Tryz.ntmps71
  go_upto_region 1 with fail
  rw [← hW1]
  clear hW1
  refine reg_lit (C := fun wx => ∃ s : Kept W1, wx = s.wx) (by kernel_rfl) (by kernel_rfl) ⟨⟨_, (Below.refl _ _).drew⟩, rfl⟩ ?_
  iterate 11 (go_big_quiet_step (fail))
  refine wpQuiet_nil ?_
  rintro _ ⟨⟨wx, ox⟩, rfl⟩
  go_wp2_with fail
  go_ret
  exact ⟨rfl, Jk.below_tr HB.out ox⟩
end
end Jt
end Go.Proofs.YtdclhepjoifpiaaGreatDoor
