/- The document's parser: what an append, or a store, to its tree leaves; items of a list, or a map, one by one. -/
import Derived.Test.YtdclhepjoifpiaaGreatDoorMam
import Derived.Test.YtdclhepjoifpiaaGreatDoorKrm
namespace Go.Proofs.YtdclhepjoifpiaaGreatDoor
open Go.RowKit
namespace Jt
namespace R9
open Jk (lt_blk below_tr TkR)

section
variable {W w w' : World} {P : Nat} {bv lv tv v' : Value} {en : Nat × Nat} {a fc fa : Nat} {lab : Nat → Own} {X : List Nx}
def Few (a : Nat) (X : List Nx) : Prop := X.length ≤ a ∧ ∀ (i : Nat) (x : Nx), X[i]? = some x → x.nd.keys.length ≤ a ∧ x.nd.spots.length ≤ a ∧ x.nd.subs.length ≤ a
/-- The tree has turned. -/
theorem RP.tree {lab' : Nat → Own} {tv' : Value} {X' : List Nx} (h : RP W w P bv lv en a tv 0 0 lab X) (ho : w'.heap[P]? = some (rpO bv lv en a tv' 0 0)) (hn : NT w' W.heap.size lab' (fun _ => True) tv' X')
    (hb : ∀ b, b < W.heap.size → b ≠ P → w'.heap[b]? = w.heap[b]?) (hB : Below P w w') (hf : Few a X') : RP W w' P bv lv en a tv' 0 0 lab' X' :=
  ⟨ho, hn, fun b h1 h2 => (hb b h1 h2).trans (h.keep b h1 h2), h.below.trans hB, h.lt, hf⟩
/-- A node more. -/
theorem RP.push {w5 : World} {o : Obj} {n0 : Nd} (h : RP W w P bv lv en a tv 0 0 lab X) (hg : (w.alloc o).grownBy w5 tv.ownBlock) (ho : w5.ownsRow W.heap.size 44 7 v' (X.length + 1) (ndL X ++ ndC ⟨n0, nil0⟩))
    (hl : v'.ownBlock = tv.ownBlock ∨ v'.ownBlock = some (w.alloc o).heap.size) (hk : n0.keys = []) (hs : n0.spots = []) (hu : n0.subs = []) (hlen : X.length + 1 ≤ a) :
    RP W (w5.setCell ⟨P, 5, none⟩ v') P bv lv en a v' 0 0 (labS lab v' .nd) (X ++ [⟨n0, nil0⟩]) := by
  have b1 : Below w.heap.size w (w.alloc o) := (Below.refl _ _).alloc (Nat.le_refl _) o
  have h1 := h.on b1
  have hW := h.size
  have hP := h.lt
  have hs5 : (w.alloc o).heap.size = w.heap.size + 1 := alloc_size _ _
  have hown : ∀ k, tv.ownBlock = some k → W.heap.size ≤ k := fun k e => (h.nt.row.lt k e).1
  have key : ∀ k, k ≠ P → (w5.setCell ⟨P, 5, none⟩ v').heap[k]? = w5.heap[k]? := fun k hk => heap_setCell_other _ _ _ _ hk
  have hN := (h1.nt.push hg ho hl hk hs hu).opn_ (opn' := fun _ => True) fun i _ => .inl trivial
  have old : ∀ b, b < W.heap.size → w5.heap[b]? = w.heap[b]? := fun b hb => by
    rw [hg.block b (by omega) (fun e => by have := hown b e.symm; omega)]
    exact b1.block b (by omega)
  refine h.tree ?_ (hN.keep (fun k hk _ _ => key k (by omega)) (fun _ _ => rfl) fun _ q => q) (fun b hb hne => (key b hne).trans (old b hb)) ?_ ⟨by rw [List.length_append]; exact hlen, fun i x hx => ?_⟩
  · refine heap_setCell_same w5 P 5 #[bv, lv, .int .i64 (en.1 : Nat), .int .i64 (en.2 : Nat), .int .i64 (a : Nat), tv, .int .i64 0, .int .i64 ((0 : Nat) : Int), .int .i64 ((0 : Nat) : Int)] _ v' ?_
    rw [old P hP]; exact h.obj
  · exact (((Below.refl P w).alloc (by omega) o).grown hg (by omega) fun k e => by have := hown k e; omega).setCell (show P ≤ P from Nat.le_refl P) _
  · by_cases hi : i < X.length
    · rw [List.getElem?_append_left hi] at hx; exact h.few.2 i x hx
    · rw [List.getElem?_append_right (by omega)] at hx
      have h0 : i - X.length = 0 := by
        have := (List.getElem?_eq_some_iff.1 hx).1
        simp at this; omega
      rw [h0] at hx
      obtain rfl : (⟨n0, nil0⟩ : Nx) = x := by simpa using hx
      show n0.keys.length ≤ a ∧ n0.spots.length ≤ a ∧ n0.subs.length ≤ a
      rw [hk, hs, hu]; exact ⟨Nat.zero_le _, Nat.zero_le _, Nat.zero_le _⟩
/-- A node's row has one more. -/
theorem RP.field {w5 : World} {o : Obj} {nd' : Nd} {i j g : Nat} {x : Nx} (h : RP W w P bv lv en a tv 0 0 lab X) (hx : X[i]? = some x) (hj : j < 3) (hg : (w.alloc o).grownBy w5 (x.v j).ownBlock) (ho : w5.ownsRow W.heap.size (ety j) (esz j) v' (ecn nd' j) (ecs nd' j))
    (hl : v'.ownBlock = (x.v j).ownBlock ∨ v'.ownBlock = some (w.alloc o).heap.size) (hkd : nd'.kind = x.nd.kind ∧ nd'.text = x.nd.text ∧ nd'.span = x.nd.span)
    (hoth : ∀ k, k < 3 → k ≠ j → ecn nd' k = ecn x.nd k ∧ ecs nd' k = ecs x.nd k) (hvb : tv.ownBlock = some g) (hf : nd'.keys.length ≤ a ∧ nd'.spots.length ≤ a ∧ nd'.subs.length ≤ a) :
    RP W (w5.setCell ⟨g, i * 7 + (2 + j), none⟩ v') P bv lv en a tv 0 0 (labS lab v' (.fld j i)) (X.set i ⟨nd', upV x.v j v'⟩) := by
  have b1 : Below w.heap.size w (w.alloc o) := (Below.refl _ _).alloc (Nat.le_refl _) o
  have h1 := h.on b1
  have hW := h.size
  have hP := h.lt
  have hs5 : (w.alloc o).heap.size = w.heap.size + 1 := alloc_size _ _
  have hE := h.nt.e i x hx j hj
  have hown : ∀ k, (x.v j).ownBlock = some k → W.heap.size ≤ k := fun k e => (hE.r.lt k e).1
  have hgl := (h.nt.row.lt g hvb).1
  have old : ∀ b, b < W.heap.size → (w5.setCell ⟨g, i * 7 + (2 + j), none⟩ v').heap[b]? = w.heap[b]? := fun b hb => by
    rw [heap_setCell_other _ _ _ _ (show b ≠ g by omega), hg.block b (by omega) (fun e => by have := hown b e.symm; omega)]
    exact b1.block b (by omega)
  refine h.tree (by rw [old P hP]; exact h.obj) (h1.nt.field hx hj hg ho hl hkd hoth hvb) (fun b hb _ => old b hb) ?_ ⟨by rw [List.length_set]; exact h.few.1, fun k y hy => ?_⟩
  · exact (((Below.refl P w).alloc (by omega) o).grown hg (by omega) fun k e => by have := hown k e; omega).setCell (show P ≤ g by omega) _
  · rw [List.getElem?_set] at hy
    split at hy
    · split at hy
      · injection hy with hy; subst hy; exact hf
      · cases hy
    · exact h.few.2 k y hy
/-- A node's end. -/
theorem RP.to_ {e i g : Nat} {x : Nx} (h : RP W w P bv lv en a tv 0 0 lab X) (hx : X[i]? = some x) (hvb : tv.ownBlock = some g) :
    RP W (w.setCell ⟨g, i * 7 + 6, none⟩ (.int .i64 (e : Nat))) P bv lv en a tv 0 0 lab (X.set i ⟨Nd.setTo e x.nd, x.v⟩) := by
  have hP := h.lt
  have hgl := (h.nt.row.lt g hvb).1
  have old : ∀ b, b < W.heap.size → (w.setCell ⟨g, i * 7 + 6, none⟩ (.int .i64 (e : Nat))).heap[b]? = w.heap[b]? := fun b hb => heap_setCell_other _ _ _ _ (show b ≠ g by omega)
  refine h.tree (by rw [old P hP]; exact h.obj) (h.nt.cell (r := 6) hx (by omega) rfl (fun k => ⟨?_, ?_⟩) (fun k _ => .inl rfl) hvb) (fun b hb _ => old b hb) ((Below.refl P w).setCell (show P ≤ g by omega) _) ⟨by rw [List.length_set]; exact h.few.1, fun k y hy => ?_⟩
  · unfold ecn; split <;> rfl
  · unfold ecs; split <;> rfl
  · rw [List.getElem?_set] at hy
    split at hy
    · split at hy
      · injection hy with hy; subst hy; exact h.few.2 i x hx
      · cases hy
    · exact h.few.2 k y hy
end
/-- Items of a list, or a map, one by one. -/
theorem fill_step (m : Bool) (is : JI) (k : Bs) (sp : Nat × Nat) (v : JV) (e a : Nat) (N : List Nd) (ha : a < N.length) :
    ((((if m = true then N.modify a (Nd.addKey k sp) else N) ++ v.nds N.length).modify a (Nd.addSub N.length)).modify a (Nd.fill m is e (N.length + v.size))) ++ is.nds (N.length + v.size) = N.modify a (Nd.fill m (.cons k sp v is) e N.length) ++ (JI.cons k sp v is).nds N.length := by
  have hl : (if m = true then N.modify a (Nd.addKey k sp) else N).length = N.length := by split <;> simp
  rw [List.modify_modify_eq, modify_left (by rw [hl]; exact ha), List.append_assoc, JI.nds]
  congr 1
  cases m with
  | false =>
    rw [if_neg (by decide)]
    congr 1
    funext y
    simp [Nd.fill, Nd.addSub, JI.subs]
  | true =>
    rw [if_pos rfl, List.modify_modify_eq]
    congr 1
    funext y
    simp [Nd.fill, Nd.addSub, Nd.addKey, JI.keys, JI.spots, JI.subs]
theorem fill_end (m : Bool) (e n a : Nat) (N : List Nd) : N.modify a (Nd.fill m .nil e n) ++ JI.nil.nds n = N.modify a (Nd.setTo e) := by
  rw [JI.nds, List.append_nil]
  congr 1
  funext y
  cases m <;> simp [Nd.fill, Nd.setTo, JI.keys, JI.spots, JI.subs]
end R9
end Jt
end Go.Proofs.YtdclhepjoifpiaaGreatDoor
