/- Trees' nodes in memory: a row of nodes, each of which has rows of its own; what appends and stores do to them. -/
import Derived.Test.YtggeiajbcehkjaaGreatDoorGab
import Derived.Maps.AppendAt
namespace Go.Proofs.YtggeiajbcehkjaaGreatDoor
open Go.RowKit
namespace Jt
open Jk (lt_blk)

/-- Whose a block is: the row of nodes, a row of a node's, the stack's row, a map's, or some other's. -/
inductive Own where
  | nd
  | fld (j i : Nat)
  | stk
  | map (i : Nat)
  | no
def Own.tree : Own → Bool
  | .nd => true
  | .fld _ _ => true
  | _ => false
/-- A node with its three rows as they stand. -/
structure Nx where
  nd : Nd
  v : Nat → Value
def ety : Nat → TypeId
  | 0 => 9
  | 1 => 43
  | _ => 3
def esz : Nat → Nat
  | 1 => 2
  | _ => 1
def strC (k : Bs) : List Value := [.string (txt k)]
def spC (s : Nat × Nat) : List Value := [.int .i64 (s.1 : Nat), .int .i64 (s.2 : Nat)]
def inC (k : Nat) : List Value := [.int .i64 k]
def ecs (x : Nd) : Nat → List Value
  | 0 => x.keys.flatMap strC
  | 1 => x.spots.flatMap spC
  | _ => x.subs.flatMap inC
def ecn (x : Nd) : Nat → Nat
  | 0 => x.keys.length
  | 1 => x.spots.length
  | _ => x.subs.length
def ndC (x : Nx) : List Value := [.int .u8 (x.nd.kind : Nat), .string (txt x.nd.text), x.v 0, x.v 1, x.v 2, .int .i64 (x.nd.span.1 : Nat), .int .i64 (x.nd.span.2 : Nat)]
def ndL (X : List Nx) : List Value := X.flatMap ndC
theorem ndL_cons (x : Nx) (X : List Nx) : ndL (x :: X) = ndC x ++ ndL X := by simp [ndL]
theorem ndL_app (X Y : List Nx) : ndL (X ++ Y) = ndL X ++ ndL Y := by simp [ndL]
theorem ndL_one (x : Nx) : ndL [x] = ndC x := by simp [ndL]
theorem ndC_len (x : Nx) : (ndC x).length = 7 := rfl
theorem ndL_at : ∀ (X : List Nx) (i : Nat) (x : Nx) (r : Nat), X[i]? = some x → r < 7 → (ndL X)[i * 7 + r]? = (ndC x)[r]?
  | [], _, _, _, h, _ => by simp at h
  | y :: X, 0, x, r, h, hr => by
    obtain rfl : y = x := by simpa using h
    rw [ndL_cons, List.getElem?_append_left (by rw [ndC_len]; omega)]; congr 1; omega
  | y :: X, i + 1, x, r, h, hr => by
    have ih := ndL_at X i x r (by simpa using h) hr
    rw [ndL_cons, List.getElem?_append_right (by rw [ndC_len]; omega), ndC_len, ← ih]; congr 1; omega
theorem ndL_set : ∀ (X : List Nx) (i : Nat) (x x' : Nx) (r : Nat) (u : Value), X[i]? = some x → r < 7 → ndC x' = (ndC x).set r u → (ndL X).set (i * 7 + r) u = ndL (X.set i x')
  | [], _, _, _, _, _, h, _, _ => by simp at h
  | y :: X, 0, x, x', r, u, h, hr, e => by
    obtain rfl : y = x := by simpa using h
    rw [ndL_cons, List.set_append_left _ _ (by rw [ndC_len]; omega), List.set_cons_zero, ndL_cons, e]; congr 2; omega
  | y :: X, i + 1, x, x', r, u, h, hr, e => by
    have ih := ndL_set X i x x' r u (by simpa using h) hr e
    rw [ndL_cons, List.set_append_right _ _ (by rw [ndC_len]; omega), ndC_len, List.set_cons_succ, ndL_cons, ← ih]; congr 2; omega
/-- A row to read: as one that is owned, but for what lies behind its capacity. -/
def Rr (w : World) (base : Nat) (e : TypeId) (size : Nat) (v : Value) (n : Nat) (xs : List Value) : Prop :=
  xs.length = n * size ∧
  ((v = .slice none 0 0 ∧ n = 0) ∨
   ∃ g cap cur, v = .slice (some ⟨g, 0, none⟩) n cap ∧ base ≤ g ∧ w.heap[g]? = some (.cells cur e (0, 0)) ∧ n ≤ cap ∧ cap ≤ maxLen ∧ cap * size ≤ cur.size ∧ cur.toList.take (n * size) = xs)
section
variable {w w' : World} {base : Nat} {e : TypeId} {size : Nat} {v : Value} {n : Nat} {xs : List Value}
theorem Rr.of_own (h : w.ownsRow base e size v n xs) : Rr w base e size v n xs := by
  refine ⟨h.1, ?_⟩
  rcases h.2 with hn | ⟨g, cap, cur, e1, hb, hg, h1, h2, h3, h4⟩
  · exact .inl hn
  · exact .inr ⟨g, cap, cur, e1, hb, hg, h1, h2, Nat.le_of_eq h3.symm, h4⟩
theorem Rr.lt (h : Rr w base e size v n xs) : ∀ k, v.ownBlock = some k → base ≤ k ∧ k < w.heap.size := by
  intro k hk
  rcases h.2 with ⟨rfl, _⟩ | ⟨g, cap, cur, rfl, hb, hg, _⟩
  · simp [Value.ownBlock] at hk
  · simp [Value.ownBlock] at hk
    subst hk
    exact ⟨hb, lt_blk hg⟩
theorem Rr.keep (h : Rr w base e size v n xs) (hb : ∀ k, v.ownBlock = some k → w'.heap[k]? = w.heap[k]?) : Rr w' base e size v n xs := by
  refine ⟨h.1, ?_⟩
  rcases h.2 with hn | ⟨g, cap, cur, rfl, hbg, hg, rest⟩
  · exact .inl hn
  · exact .inr ⟨g, cap, cur, rfl, hbg, by rw [hb g rfl]; exact hg, rest⟩
theorem own_keep (h : w.ownsRow base e size v n xs) (hb : ∀ k, v.ownBlock = some k → w'.heap[k]? = w.heap[k]?) : w'.ownsRow base e size v n xs := by
  refine ⟨h.1, ?_⟩
  rcases h.2 with hn | ⟨g, cap, cur, rfl, hbg, hg, rest⟩
  · exact .inl hn
  · exact .inr ⟨g, cap, cur, rfl, hbg, by rw [hb g rfl]; exact hg, rest⟩
theorem Rr.shape (h : Rr w base e size v n xs) : ∃ A c, v = .slice A n c ∧ n ≤ c ∧ c ≤ maxLen ∧ (A = none → c = 0) := by
  rcases h.2 with ⟨rfl, rfl⟩ | ⟨g, cap, cur, rfl, _, _, h1, h2, _⟩
  · exact ⟨none, 0, rfl, Nat.le_refl _, Nat.zero_le _, fun _ => rfl⟩
  · exact ⟨_, cap, rfl, h1, h2, fun h => by cases h⟩
/-- The capacity cut to the length. -/
def clipV : Value → Value
  | .slice A n _ => .slice A n n
  | v => v
theorem Rr.clip (h : Rr w base e size v n xs) : Rr w base e size (clipV v) n xs := by
  refine ⟨h.1, ?_⟩
  rcases h.2 with ⟨rfl, rfl⟩ | ⟨g, cap, cur, rfl, hb, hg, h1, h2, h3, h4⟩
  · exact .inl ⟨rfl, rfl⟩
  · exact .inr ⟨g, n, cur, rfl, hb, hg, Nat.le_refl _, Nat.le_trans h1 h2, Nat.le_trans (Nat.mul_le_mul_right _ h1) h3, h4⟩
theorem clip_block (v : Value) : (clipV v).ownBlock = v.ownBlock := by
  unfold clipV
  split
  · rename_i A _ _; cases A <;> rfl
  · rfl
/-- A store into one's own row. -/
theorem own_store (h : w.ownsRow base e size v n xs) {g k : Nat} (hg : v.ownBlock = some g) (hk : k < n * size) (u : Value) : (w.setCell ⟨g, k, none⟩ u).ownsRow base e size v n (xs.set k u) := by
  refine ⟨by rw [List.length_set]; exact h.1, ?_⟩
  rcases h.2 with ⟨rfl, _⟩ | ⟨g', cap, cur, rfl, hb, hgg, h1, h2, h3, h4⟩
  · simp [Value.ownBlock] at hg
  · simp [Value.ownBlock] at hg
    subst hg
    refine .inr ⟨g', cap, _, rfl, hb, heap_setCell_same w g' k cur e u hgg, h1, h2, by simpa using h3, ?_⟩
    rw [← h4]
    apply List.ext_getElem?
    intro i
    rw [List.getElem?_take, List.getElem?_set, List.length_take, Array.toList_setIfInBounds, List.getElem?_set]
    have hc : n * size ≤ cur.toList.length := by rw [Array.length_toList, h3]; exact Nat.mul_le_mul_right _ h1
    by_cases hi : i < n * size
    · rw [if_pos hi]
      by_cases hki : k = i
      · rw [if_pos hki, if_pos hki, if_pos (by omega), if_pos (by rw [Nat.min_eq_left hc]; omega)]
      · rw [if_neg hki, if_neg hki, List.getElem?_take, if_pos hi]
    · rw [if_neg hi, if_neg (by omega), List.getElem?_take, if_neg hi]
end
/-- One row of a node. -/
structure NE (w : World) (base : Nat) (lab : Nat → Own) (o : Prop) (i : Nat) (x : Nx) (j : Nat) : Prop where
  r : Rr w base (ety j) (esz j) (x.v j) (ecn x.nd j) (ecs x.nd j)
  o : o → w.ownsRow base (ety j) (esz j) (x.v j) (ecn x.nd j) (ecs x.nd j)
  l : ∀ b, (x.v j).ownBlock = some b → lab b = .fld j i
/-- A row of nodes, and theirs. -/
structure NT (w : World) (base : Nat) (lab : Nat → Own) (opn : Nat → Prop) (v : Value) (X : List Nx) : Prop where
  row : w.ownsRow base 59 7 v X.length (ndL X)
  l : ∀ b, v.ownBlock = some b → lab b = .nd
  e : ∀ i x, X[i]? = some x → ∀ j, j < 3 → NE w base lab (opn i) i x j
section
variable {w w' w1 : World} {base : Nat} {lab lab' : Nat → Own} {opn opn' : Nat → Prop} {v v' : Value} {X : List Nx} {i j : Nat} {x : Nx}
theorem NE.keep {o o' : Prop} (h : NE w base lab o i x j) (hb : ∀ k, base ≤ k → k < w.heap.size → lab k = .fld j i → w'.heap[k]? = w.heap[k]?) (hl : ∀ k, k < w.heap.size → lab' k = lab k) (ho : o' → o) : NE w' base lab' o' i x j :=
  ⟨h.r.keep fun k hk => hb k (h.r.lt k hk).1 (h.r.lt k hk).2 (h.l k hk), fun q => own_keep (h.o (ho q)) fun k hk => hb k (h.r.lt k hk).1 (h.r.lt k hk).2 (h.l k hk), fun k hk => (hl k (h.r.lt k hk).2).trans (h.l k hk)⟩
theorem NT.keep (h : NT w base lab opn v X) (hb : ∀ k, base ≤ k → k < w.heap.size → (lab k).tree = true → w'.heap[k]? = w.heap[k]?) (hl : ∀ k, k < w.heap.size → lab' k = lab k) (ho : ∀ i, opn' i → opn i) : NT w' base lab' opn' v X :=
  ⟨own_keep h.row fun k hk => hb k (h.row.lt k hk).1 (h.row.lt k hk).2 (by rw [h.l k hk]; rfl), fun k hk => (hl k (h.row.lt k hk).2).trans (h.l k hk),
    fun i x hx j hj => (h.e i x hx j hj).keep (fun k hkb hk e => hb k hkb hk (by rw [e]; rfl)) hl (ho i)⟩
theorem NT.below (h : NT w base lab opn v X) (hb : Below w.heap.size w w') : NT w' base lab opn v X := h.keep (fun k _ hk _ => hb.block k hk) (fun _ _ => rfl) fun _ h => h
theorem NT.opn_ (h : NT w base lab opn v X) (ho : ∀ i, opn' i → opn i) : NT w base lab opn' v X := h.keep (fun _ _ _ _ => rfl) (fun _ _ => rfl) ho
/-- A label for the block that a slice lies in. -/
def labS (lab : Nat → Own) (v : Value) (o : Own) : Nat → Own := fun b => if v.ownBlock = some b then o else lab b
theorem labS_old {o : Own} {s : Nat} (hv : v'.ownBlock = v.ownBlock ∨ v'.ownBlock = some s) (hl : ∀ b, v.ownBlock = some b → lab b = o) : ∀ k, k < s → labS lab v' o k = lab k := by
  intro k hk
  unfold labS
  split
  · rename_i h
    rcases hv with e | e
    · exact (hl k (e ▸ h)).symm
    · rw [e] at h; injection h with h; omega
  · rfl
theorem labS_self {o : Own} : ∀ b, v'.ownBlock = some b → labS lab v' o b = o := fun _ h => if_pos h
/-- One of them is another one. -/
def upV (f : Nat → Value) (j : Nat) (u : Value) : Nat → Value := fun k => if k = j then u else f k
theorem upV_same (f : Nat → Value) (j : Nat) (u : Value) : upV f j u j = u := if_pos rfl
theorem upV_ne (f : Nat → Value) (j : Nat) (u : Value) {k : Nat} (h : k ≠ j) : upV f j u k = f k := if_neg h
def nil0 : Nat → Value := fun _ => .slice none 0 0
theorem NT.start : NT w base lab opn (.slice none 0 0) [] := ⟨World.ownsRow_nil _ _ _ _, fun b h => (by cases h), fun i x h => (by simp at h)⟩
theorem NT.lt (h : NT w base lab opn v X) : ∀ k, v.ownBlock = some k → base ≤ k ∧ k < w.heap.size := h.row.lt
theorem NT.push {n0 : Nd} (h : NT w base lab opn v X) (hg : w.grownBy w1 v.ownBlock) (ho : w1.ownsRow base 59 7 v' (X.length + 1) (ndL X ++ ndC ⟨n0, nil0⟩))
    (hv : v'.ownBlock = v.ownBlock ∨ v'.ownBlock = some w.heap.size) (hk : n0.keys = []) (hs : n0.spots = []) (hu : n0.subs = []) : NT w1 base (labS lab v' .nd) (fun i => opn i ∨ i = X.length) v' (X ++ [⟨n0, nil0⟩]) := by
  have hlo := labS_old (o := .nd) hv h.l
  refine ⟨by rw [ndL_app, ndL_one, List.length_append]; exact ho, labS_self, fun i x hx j hj => ?_⟩
  by_cases hi : i < X.length
  · rw [List.getElem?_append_left hi] at hx
    exact (h.e i x hx j hj).keep (fun k _ hk e => hg.block k hk (fun e2 => by rw [h.l k e2.symm] at e; cases e)) hlo fun q => q.resolve_right (by omega)
  · have hi2 : i = X.length := by
      have := (List.getElem?_eq_some_iff.1 hx).1
      simp at this; omega
    subst hi2
    simp at hx
    subst hx
    have e1 : ecn n0 j = 0 := by
      have : j = 0 ∨ j = 1 ∨ j = 2 := by omega
      rcases this with rfl | rfl | rfl <;> simp [ecn, hk, hs, hu]
    have e2 : ecs n0 j = [] := by
      have : j = 0 ∨ j = 1 ∨ j = 2 := by omega
      rcases this with rfl | rfl | rfl <;> simp [ecs, hk, hs, hu]
    have q : w1.ownsRow base (ety j) (esz j) (nil0 j) (ecn n0 j) (ecs n0 j) := by rw [e1, e2]; exact World.ownsRow_nil _ _ _ _
    exact ⟨Rr.of_own q, fun _ => q, fun b hb => by cases hb⟩
/-- A node's row is another one; stored. -/
theorem NT.field {nd' : Nd} {g : Nat} (h : NT w base lab opn v X) (hx : X[i]? = some x) (hj : j < 3) (hg : w.grownBy w1 (x.v j).ownBlock) (ho : w1.ownsRow base (ety j) (esz j) v' (ecn nd' j) (ecs nd' j))
    (hv : v'.ownBlock = (x.v j).ownBlock ∨ v'.ownBlock = some w.heap.size) (hkd : nd'.kind = x.nd.kind ∧ nd'.text = x.nd.text ∧ nd'.span = x.nd.span)
    (hoth : ∀ k, k < 3 → k ≠ j → ecn nd' k = ecn x.nd k ∧ ecs nd' k = ecs x.nd k) (hvb : v.ownBlock = some g) :
    NT (w1.setCell ⟨g, i * 7 + (2 + j), none⟩ v') base (labS lab v' (.fld j i)) opn v (X.set i ⟨nd', upV x.v j v'⟩) := by
  have hi : i < X.length := (List.getElem?_eq_some_iff.1 hx).1
  have hE := h.e i x hx j hj
  have hlo := labS_old (o := .fld j i) hv hE.l
  have hgl := h.row.lt g hvb
  have hgn : ∀ k, k < w.heap.size → lab k ≠ .fld j i → w1.heap[k]? = w.heap[k]? := fun k hk ne => hg.block k hk (fun e2 => ne (hE.l k e2.symm))
  have hvg : v'.ownBlock ≠ some g := fun e => by
    have := hlo g hgl.2
    rw [labS_self g e, h.l g hvb] at this; cases this
  refine ⟨?_, fun b hb => (hlo b (h.row.lt b hb).2).trans (h.l b hb), fun k y hy j' hj' => ?_⟩
  · rw [List.length_set]
    have hc : ndC (⟨nd', upV x.v j v'⟩ : Nx) = (ndC x).set (2 + j) v' := by
      have : j = 0 ∨ j = 1 ∨ j = 2 := by omega
      rcases this with rfl | rfl | rfl <;> simp [ndC, hkd, upV]
    rw [← ndL_set X i x _ (2 + j) v' hx (by omega) hc]
    exact own_store (own_keep h.row fun k hk => hgn k (h.row.lt k hk).2 (by rw [h.l k hk]; exact fun e => by cases e)) hvb (by omega) v'
  · have key : ∀ b, b < w1.heap.size → b ≠ g → (w1.setCell ⟨g, i * 7 + (2 + j), none⟩ v').heap[b]? = w1.heap[b]? := fun b _ hb => heap_setCell_other _ _ _ _ hb
    by_cases hki : k = i
    · subst hki
      rw [List.getElem?_set, if_pos rfl, if_pos hi] at hy
      injection hy with hy
      subst hy
      by_cases hjj : j' = j
      · subst hjj
        have q : (w1.setCell ⟨g, k * 7 + (2 + j'), none⟩ v').ownsRow base (ety j') (esz j') v' (ecn nd' j') (ecs nd' j') :=
          own_keep ho fun b hb => key b (ho.lt b hb).2 (fun e => hvg (e ▸ hb))
        have e := upV_same x.v j' v'
        refine ⟨?_, fun _ => ?_, fun b hb => ?_⟩
        · show Rr _ _ _ _ (upV x.v j' v' j') _ _
          rw [e]; exact Rr.of_own q
        · show World.ownsRow _ _ _ _ (upV x.v j' v' j') _ _
          rw [e]; exact q
        · have hb' : (upV x.v j' v' j').ownBlock = some b := hb
          rw [e] at hb'; exact labS_self b hb'
      · obtain ⟨o1, o2⟩ := hoth j' hj' hjj
        have hE2 := h.e k x hx j' hj'
        have e := upV_ne x.v j v' hjj
        have hb2 : ∀ b, (x.v j').ownBlock = some b → (w1.setCell ⟨g, k * 7 + (2 + j), none⟩ v').heap[b]? = w.heap[b]? := fun b hb => by
          have hlt := (hE2.r.lt b hb).2
          have hl := hE2.l b hb
          rw [key b (Nat.lt_of_lt_of_le hlt hg.size) (fun e => by rw [e, h.l g hvb] at hl; cases hl)]
          exact hgn b hlt (by rw [hl]; intro e; injection e with e _; exact hjj e)
        refine ⟨?_, fun q => ?_, fun b hb => ?_⟩
        · show Rr _ _ _ _ (upV x.v j v' j') (ecn nd' j') (ecs nd' j')
          rw [e, o1, o2]; exact hE2.r.keep hb2
        · show World.ownsRow _ _ _ _ (upV x.v j v' j') (ecn nd' j') (ecs nd' j')
          rw [e, o1, o2]; exact own_keep (hE2.o q) hb2
        · have hb' : (upV x.v j v' j').ownBlock = some b := hb
          rw [e] at hb'
          have hb := hb'
          exact (hlo b (hE2.r.lt b hb).2).trans (hE2.l b hb)
    · rw [List.getElem?_set, if_neg (fun e => hki e.symm)] at hy
      have hE2 := h.e k y hy j' hj'
      refine hE2.keep (fun b _ hb hl => ?_) hlo fun q => q
      rw [key b (Nat.lt_of_lt_of_le hb hg.size) (fun e => by rw [e, h.l g hvb] at hl; cases hl)]
      exact hgn b hb (by rw [hl]; intro e; injection e with _ e; exact hki e)
/-- A node's cell is another one, its rows as they were, or cut to their lengths. -/
theorem NT.cell {nd' : Nd} {vs : Nat → Value} {r g : Nat} {u : Value} (h : NT w base lab opn v X) (hx : X[i]? = some x) (hr : r < 7) (hc : ndC ⟨nd', vs⟩ = (ndC x).set r u) (hnd : ∀ k, ecn nd' k = ecn x.nd k ∧ ecs nd' k = ecs x.nd k)
    (hvs : ∀ k, k < 3 → vs k = x.v k ∨ (¬ opn i ∧ vs k = clipV (x.v k))) (hvb : v.ownBlock = some g) :
    NT (w.setCell ⟨g, i * 7 + r, none⟩ u) base lab opn v (X.set i ⟨nd', vs⟩) := by
  have hi : i < X.length := (List.getElem?_eq_some_iff.1 hx).1
  have key : ∀ b, b ≠ g → (w.setCell ⟨g, i * 7 + r, none⟩ u).heap[b]? = w.heap[b]? := fun b hb => heap_setCell_other _ _ _ _ hb
  refine ⟨?_, h.l, fun k y hy j' hj' => ?_⟩
  · rw [List.length_set, ← ndL_set X i x _ r u hx hr hc]
    exact own_store h.row hvb (by omega) u
  · by_cases hki : k = i
    · subst hki
      rw [List.getElem?_set, if_pos rfl, if_pos hi] at hy
      injection hy with hy
      subst hy
      have hE2 := h.e k x hx j' hj'
      have hb2 : ∀ b, (x.v j').ownBlock = some b → (w.setCell ⟨g, k * 7 + r, none⟩ u).heap[b]? = w.heap[b]? := fun b hb => key b (fun e => by have := hE2.l b hb; rw [e, h.l g hvb] at this; cases this)
      obtain ⟨o1, o2⟩ := hnd j'
      rcases hvs j' hj' with e | ⟨hno, e⟩
      · refine ⟨?_, fun q => ?_, fun b hb => ?_⟩
        · show Rr _ _ _ _ (vs j') (ecn nd' j') (ecs nd' j')
          rw [e, o1, o2]; exact hE2.r.keep hb2
        · show World.ownsRow _ _ _ _ (vs j') (ecn nd' j') (ecs nd' j')
          rw [e, o1, o2]; exact own_keep (hE2.o q) hb2
        · exact hE2.l b (e ▸ hb)
      · refine ⟨?_, fun q => absurd q hno, fun b hb => ?_⟩
        · show Rr _ _ _ _ (vs j') (ecn nd' j') (ecs nd' j')
          rw [e, o1, o2]; exact (hE2.r.keep hb2).clip
        · have hb' : (vs j').ownBlock = some b := hb
          rw [e, clip_block] at hb'; exact hE2.l b hb'
    · rw [List.getElem?_set, if_neg (fun e => hki e.symm)] at hy
      exact (h.e k y hy j' hj').keep (fun b _ _ hl => key b (fun e => by rw [e, h.l g hvb] at hl; cases hl)) (fun _ _ => rfl) fun q => q
theorem NT.shape (h : NT w base lab opn v X) (h0 : 0 < X.length) : ∃ g c, v = .slice (some ⟨g, 0, none⟩) X.length c ∧ base ≤ g ∧ g < w.heap.size ∧ X.length ≤ c ∧ c ≤ maxLen ∧ (∀ k, w.frozen? ⟨g, k, none⟩ = false) ∧
    ∀ i x, X[i]? = some x → ∀ r u, (ndC x)[r]? = some u → w.cell? ⟨g, i * 7 + r, none⟩ = some u := by
  rcases h.row.2 with ⟨_, e⟩ | ⟨g, cap, cur, rfl, hb, hg, h1, h2, h3, h4⟩
  · omega
  · refine ⟨g, cap, rfl, hb, lt_blk hg, h1, h2, fun k => ?_, fun i x hx r u hu => ?_⟩
    · simp [World.frozen?, hg]
    · have hr : r < 7 := (List.getElem?_eq_some_iff.1 hu).1
      have e := ndL_at X i x r hx hr
      rw [← h4, hu, List.getElem?_take] at e
      split at e
      · rw [cell_of_row w g _ cur _ (0, 0) hg, ← Array.getElem?_toList]; exact e
      · cases e
end
end Jt
end Go.Proofs.YtggeiajbcehkjaaGreatDoor
