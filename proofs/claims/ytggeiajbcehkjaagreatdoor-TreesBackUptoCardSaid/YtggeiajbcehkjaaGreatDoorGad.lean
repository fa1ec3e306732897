/- The parser of tokens in memory: what it knows between two tokens, and what each step does to it. -/
import Derived.Test.YtggeiajbcehkjaaGreatDoorGac
import Derived.Maps.OwnSet
import Derived.Laws.BitsAllLaws
import Derived.Laws.BitsLemmas
import Derived.Test.YtggeiajbcehkjaaGreatDoorGab
import Derived.Deep.QuietTactic
import Derived.BigQuiet
import Derived.Deep.Quiet
import Derived.Deep.CutBlock
namespace Go.Proofs.YtggeiajbcehkjaaGreatDoor
open Go.RowKit
namespace Jt
open Jk (lt_blk)

/-- A map's keys, as a set. -/
def setK (ks : List Bs) : DataW Unit := Maps.setOf (.agg []) (ks.map Lit.string)
theorem setK_snoc (ks : List Bs) (k : Bs) : setK (ks ++ [k]) = (setK ks).put (.string k) (.agg []) := by
  unfold setK; rw [List.map_append]; exact Maps.setOf_snoc _ _ _
theorem setK_has (ks : List Bs) (k : Bs) : Maps.has (setK ks) (.string k) = decide (k ∈ ks) := by
  unfold setK
  rw [Maps.has_setOf _ _ _ (fun x hx => by obtain ⟨y, _, rfl⟩ := List.mem_map.1 hx; trivial)]
  induction ks with
  | nil => rfl
  | cons y ks ih =>
    rw [List.map_cons, List.any_cons, ih]
    show ((y == k) || decide (k ∈ ks)) = decide (k ∈ y :: ks)
    rw [Bool.eq_iff_iff]
    simp only [Bool.or_eq_true, beq_iff_eq, decide_eq_true_eq, List.mem_cons]
    exact ⟨fun h => h.imp Eq.symm id, fun h => h.imp Eq.symm id⟩
theorem map_keep {w w' : World} {b n : Nat} {D : DataW Unit} {k : TypeId} {R : Value → Option (DataW Unit × List MemPlace)} (h : w.ownsMap Tryz.prog k R b n D) (hb : w'.heap[b]? = w.heap[b]?) : w'.ownsMap Tryz.prog k R b n D := by
  obtain ⟨es, clock, h1, r⟩ := h
  exact ⟨es, clock, hb.trans h1, r⟩
/-- What lies on the stack for a list, a map. -/
def skC (mb : Nat → Nat) (p : Nat × Bool) : Value :=
  if p.2 = true then .iface 185 (.agg #[.int .i64 (p.1 : Nat), .map (some (mb p.1))]) else .iface 182 (.agg #[.int .i64 (p.1 : Nat)])
def skL (mb : Nat → Nat) (S : List (Nat × Bool)) : List Value := S.reverse.map (skC mb)
theorem skL_cons (mb : Nat → Nat) (p : Nat × Bool) (S : List (Nat × Bool)) : skL mb (p :: S) = skL mb S ++ [skC mb p] := by simp [skL]
theorem skL_len (mb : Nat → Nat) (S : List (Nat × Bool)) : (skL mb S).length = S.length := by simp [skL]
theorem skL_congr {mb mb' : Nat → Nat} {S : List (Nat × Bool)} (h : ∀ a, (a, true) ∈ S → mb' a = mb a) : skL mb' S = skL mb S := by
  unfold skL
  apply List.map_congr_left
  rintro ⟨a, m⟩ hp
  cases m with
  | false => rfl
  | true => show Value.iface _ _ = Value.iface _ _; rw [h a (List.mem_reverse.1 hp)]
structure PM (w : World) (P : Nat) (bv : Value) (wd : Nat) (sk : List (Nat × Bool)) (lab : Nat → Own) (op : Nat → Prop) (mb : Nat → Nat) (ks : Nat → List Bs) (sv nv : Value) (X : List Nx) : Prop where
  obj : w.heap[P]? = some (.cells #[bv, .int .u8 (wd : Nat), sv, nv] 103 (0, 0))
  nt : NT w (P + 1) lab op nv X
  stk : w.ownsRow (P + 1) 190 1 sv sk.length (skL mb sk)
  ls : ∀ b, sv.ownBlock = some b → lab b = .stk
  op : ∀ p ∈ sk, op p.1
  maps : ∀ a, (a, true) ∈ sk → lab (mb a) = .map a ∧ P + 1 ≤ mb a ∧ w.ownsMap Tryz.prog 9 unitElem (mb a) (ks a).length (setK (ks a))
section
variable {w w' w1 : World} {P : Nat} {bv : Value} {wd : Nat} {sk : List (Nat × Bool)} {lab lab' : Nat → Own} {op op' : Nat → Prop} {mb : Nat → Nat} {ks : Nat → List Bs} {sv nv v' : Value} {X X' : List Nx} {i j : Nat} {x : Nx}
theorem PM.lt (h : PM w P bv wd sk lab op mb ks sv nv X) : P < w.heap.size := lt_blk h.obj
theorem PM.cells (h : PM w P bv wd sk lab op mb ks sv nv X) : w.cell? ⟨P, 0, none⟩ = some bv ∧ w.cell? ⟨P, 1, none⟩ = some (.int .u8 (wd : Nat)) ∧ w.cell? ⟨P, 2, none⟩ = some sv ∧ w.cell? ⟨P, 3, none⟩ = some nv ∧ ∀ k, w.frozen? ⟨P, k, none⟩ = false := by
  refine ⟨?_, ?_, ?_, ?_, fun k => ?_⟩ <;> simp [World.cell?, World.frozen?, h.obj]
/-- The tree's part has turned, and the struct's cells. -/
theorem PM.turn {nv' : Value} {wd' : Nat} (h : PM w P bv wd sk lab op mb ks sv nv X) (ho : w'.heap[P]? = some (.cells #[bv, .int .u8 (wd' : Nat), sv, nv'] 103 (0, 0))) (hn : NT w' (P + 1) lab' op' nv' X')
    (hb : ∀ k, k < w.heap.size → (lab k).tree = false → k ≠ P → w'.heap[k]? = w.heap[k]?) (hl : ∀ k, k < w.heap.size → lab' k = lab k) (hop : ∀ p ∈ sk, op' p.1) : PM w' P bv wd' sk lab' op' mb ks sv nv' X' := by
  refine ⟨ho, hn, own_keep h.stk fun k hk => ?_, fun k hk => ?_, hop, fun a ha => ?_⟩
  · have hlt := h.stk.lt k hk
    exact hb k hlt.2 (by rw [h.ls k hk]; rfl) (by omega)
  · exact (hl k (h.stk.lt k hk).2).trans (h.ls k hk)
  · obtain ⟨m1, m2, m3⟩ := h.maps a ha
    exact ⟨(hl _ m3.lt).trans m1, m2, map_keep m3 (hb _ m3.lt (by rw [m1]; rfl) (by omega))⟩
theorem PM.below (h : PM w P bv wd sk lab op mb ks sv nv X) (hb : Below w.heap.size w w') : PM w' P bv wd sk lab op mb ks sv nv X :=
  h.turn (by rw [hb.block _ h.lt]; exact h.obj) (h.nt.below hb) (fun k hk _ _ => hb.block k hk) (fun _ _ => rfl) h.op
theorem PM.want (h : PM w P bv wd sk lab op mb ks sv nv X) (wd' : Nat) : PM (w.setCell ⟨P, 1, none⟩ (.int .u8 (wd' : Nat))) P bv wd' sk lab op mb ks sv nv X := by
  have key : ∀ k, k ≠ P → (w.setCell ⟨P, 1, none⟩ (.int .u8 (wd' : Nat))).heap[k]? = w.heap[k]? := fun k hk => heap_setCell_other _ _ _ _ hk
  exact h.turn (heap_setCell_same w P 1 _ _ _ h.obj)
    (h.nt.keep (fun k hkb _ _ => key k (by omega)) (fun _ _ => rfl) fun _ h => h) (fun k _ _ hk => key k hk) (fun _ _ => rfl) h.op
/-- A node's row has one more; stored. -/
theorem PM.field {nd' : Nd} {g : Nat} (h : PM w P bv wd sk lab op mb ks sv nv X) (hx : X[i]? = some x) (hj : j < 3) (hg : w.grownBy w1 (x.v j).ownBlock) (ho : w1.ownsRow (P + 1) (ety j) (esz j) v' (ecn nd' j) (ecs nd' j))
    (hv : v'.ownBlock = (x.v j).ownBlock ∨ v'.ownBlock = some w.heap.size) (hkd : nd'.kind = x.nd.kind ∧ nd'.text = x.nd.text ∧ nd'.span = x.nd.span)
    (hoth : ∀ k, k < 3 → k ≠ j → ecn nd' k = ecn x.nd k ∧ ecs nd' k = ecs x.nd k) (hvb : nv.ownBlock = some g) :
    PM (w1.setCell ⟨g, i * 7 + (2 + j), none⟩ v') P bv wd sk (labS lab v' (.fld j i)) op mb ks sv nv (X.set i ⟨nd', upV x.v j v'⟩) := by
  have hE := h.nt.e i x hx j hj
  have hgl := h.nt.lt g hvb
  have h2 : ∀ k, k < w.heap.size → k ≠ g → lab k ≠ .fld j i → (w1.setCell ⟨g, i * 7 + (2 + j), none⟩ v').heap[k]? = w.heap[k]? := fun k hk hkg hne =>
    (heap_setCell_other _ _ _ _ hkg).trans (hg.block k hk fun e => hne (hE.l k e.symm))
  have hP := h.lt
  refine h.turn ?_ (h.nt.field hx hj hg ho hv hkd hoth hvb) (fun k hk ht _ => h2 k hk (fun e => ?_) (fun e => ?_)) (labS_old hv hE.l) h.op
  · rw [heap_setCell_other _ _ _ _ (show P ≠ g by omega), hg.block P hP fun e => by have := (hE.r.lt P e.symm).1; omega]; exact h.obj
  · rw [e, h.nt.l g hvb] at ht; cases ht
  · rw [e] at ht; cases ht
/-- A node's cell is another one, its rows as they were, or cut to their lengths. -/
theorem PM.cell {nd' : Nd} {vs : Nat → Value} {r g : Nat} {u : Value} (h : PM w P bv wd sk lab op mb ks sv nv X) (hx : X[i]? = some x) (hr : r < 7) (hc : ndC ⟨nd', vs⟩ = (ndC x).set r u) (hnd : ∀ k, ecn nd' k = ecn x.nd k ∧ ecs nd' k = ecs x.nd k)
    (hvs : ∀ k, k < 3 → vs k = x.v k ∨ (¬ op i ∧ vs k = clipV (x.v k))) (hvb : nv.ownBlock = some g) :
    PM (w.setCell ⟨g, i * 7 + r, none⟩ u) P bv wd sk lab op mb ks sv nv (X.set i ⟨nd', vs⟩) := by
  have hgl := h.nt.lt g hvb
  refine h.turn ?_ (h.nt.cell hx hr hc hnd hvs hvb) (fun k _ ht _ => heap_setCell_other _ _ _ _ fun e => ?_) (fun _ _ => rfl) h.op
  · rw [heap_setCell_other _ _ _ _ (show P ≠ g by omega)]; exact h.obj
  · rw [e, h.nt.l g hvb] at ht; cases ht
/-- One more node; stored. -/
theorem PM.push {n0 : Nd} (h : PM w P bv wd sk lab op mb ks sv nv X) (hg : w.grownBy w1 nv.ownBlock) (ho : w1.ownsRow (P + 1) 59 7 v' (X.length + 1) (ndL X ++ ndC ⟨n0, nil0⟩))
    (hv : v'.ownBlock = nv.ownBlock ∨ v'.ownBlock = some w.heap.size) (hk : n0.keys = []) (hs : n0.spots = []) (hu : n0.subs = []) :
    PM (w1.setCell ⟨P, 3, none⟩ v') P bv wd sk (labS lab v' .nd) (fun i => op i ∨ i = X.length) mb ks sv v' (X ++ [⟨n0, nil0⟩]) := by
  have hP := h.lt
  have key : ∀ k, k ≠ P → (w1.setCell ⟨P, 3, none⟩ v').heap[k]? = w1.heap[k]? := fun k hk => heap_setCell_other _ _ _ _ hk
  have hN := h.nt.push hg ho hv hk hs hu
  refine h.turn ?_ (hN.keep (fun k hkb _ _ => key k (by omega)) (fun _ _ => rfl) fun _ q => q) (fun k hk ht hkP => (key k hkP).trans (hg.block k hk fun e => ?_)) (labS_old hv h.nt.l) fun p hp => .inl (h.op p hp)
  · refine heap_setCell_same w1 P 3 #[bv, .int .u8 (wd : Nat), sv, nv] _ v' ?_
    rw [hg.block P hP fun e => by have := (h.nt.lt P e.symm).1; omega]; exact h.obj
  · rw [h.nt.l k e.symm] at ht; cases ht
/-- One more on the stack; stored. -/
theorem PM.pushS {a b : Nat} {m : Bool} (h : PM w P bv wd sk lab op mb ks sv nv X) (hop : op a) (hn : ∀ m', (a, m') ∉ sk) (hm : m = true → P + 1 ≤ b ∧ lab b = .no ∧ b < w.heap.size ∧ w.ownsMap Tryz.prog 9 unitElem b 0 (setK []))
    (hg : w.grownBy w1 sv.ownBlock) (ho : w1.ownsRow (P + 1) 190 1 v' (sk.length + 1) (skL mb sk ++ [skC (fun _ => b) (a, m)])) (hv : v'.ownBlock = sv.ownBlock ∨ v'.ownBlock = some w.heap.size) :
    PM (w1.setCell ⟨P, 2, none⟩ v') P bv wd ((a, m) :: sk) (labS (fun k => if m = true ∧ k = b then .map a else lab k) v' .stk) op (fun i => if i = a then b else mb i) (fun i => if i = a then [] else ks i) v' nv X := by
  have hP := h.lt
  have key : ∀ k, k ≠ P → (w1.setCell ⟨P, 2, none⟩ v').heap[k]? = w1.heap[k]? := fun k hk => heap_setCell_other _ _ _ _ hk
  have hgb : ∀ k, k < w.heap.size → lab k ≠ .stk → w1.heap[k]? = w.heap[k]? := fun k hk hne => hg.block k hk fun e => hne (h.ls k e.symm)
  obtain ⟨lab2, hlab2⟩ : ∃ l : Nat → Own, l = fun k => if m = true ∧ k = b then .map a else lab k := ⟨_, rfl⟩
  have l2 : ∀ k, lab k ≠ .no → lab2 k = lab k := fun k hk => by
    rw [hlab2]
    show (if m = true ∧ k = b then _ else _) = _
    exact if_neg (fun e : m = true ∧ k = b => hk (by rw [e.2]; exact (hm e.1).2.1))
  have hls2 : ∀ k, sv.ownBlock = some k → lab2 k = .stk := fun k hk => by rw [l2 k (by rw [h.ls k hk]; exact fun e => by cases e)]; exact h.ls k hk
  have lo := labS_old (lab := lab2) (o := .stk) hv hls2
  rw [← hlab2]
  refine ⟨?_, ?_, ?_, labS_self, fun p hp => ?_, fun c hc => ?_⟩
  · refine heap_setCell_same w1 P 2 #[bv, .int .u8 (wd : Nat), sv, nv] _ v' ?_
    rw [hg.block P hP fun e => by have := (h.stk.lt P e.symm).1; omega]; exact h.obj
  · have q : NT w (P + 1) lab2 op nv X := by
      refine ⟨h.nt.row, fun k hk => by rw [l2 k (by rw [h.nt.l k hk]; exact fun e => by cases e)]; exact h.nt.l k hk, fun i x hx j hj => ?_⟩
      have hE := h.nt.e i x hx j hj
      exact ⟨hE.r, hE.o, fun k hk => by rw [l2 k (by rw [hE.l k hk]; exact fun e => by cases e)]; exact hE.l k hk⟩
    refine q.keep (fun k hkb hk ht => (key k (by omega)).trans (hgb k hk fun e => ?_)) lo fun _ h => h
    rw [l2 k (by rw [e]; exact fun e => by cases e), e] at ht; cases ht
  · rw [List.length_cons, skL_cons, skL_congr (mb := mb) (fun c hc => if_neg (fun e : c = a => hn true (by rw [← e]; exact hc)))]
    have e : skC (fun i => if i = a then b else mb i) (a, m) = skC (fun _ => b) (a, m) := by unfold skC; simp
    rw [e]
    exact own_keep ho fun k hk => key k (by have := (ho.lt k hk).1; omega)
  · rcases List.mem_cons.1 hp with rfl | hp
    · exact hop
    · exact h.op p hp
  · rcases List.mem_cons.1 hc with e | hc
    · injection e with e1 e2
      subst e1
      obtain ⟨m1, m2, m3, m4⟩ := hm e2.symm
      show labS lab2 v' .stk (if c = c then b else mb c) = _ ∧ P + 1 ≤ (if c = c then b else mb c) ∧ World.ownsMap _ _ _ _ (if c = c then b else mb c) (if c = c then [] else ks c).length (setK (if c = c then [] else ks c))
      rw [if_pos rfl, if_pos rfl]
      refine ⟨?_, m1, map_keep m4 ?_⟩
      · rw [lo b m3, hlab2]; exact if_pos ⟨e2.symm, rfl⟩
      · rw [key b (by omega)]; exact hgb b m3 (by rw [m2]; exact fun e => by cases e)
    · have hca : c ≠ a := fun e => hn true (e ▸ hc)
      obtain ⟨m1, m2, m3⟩ := h.maps c hc
      show labS lab2 v' .stk (if c = a then b else mb c) = _ ∧ P + 1 ≤ (if c = a then b else mb c) ∧ World.ownsMap _ _ _ _ (if c = a then b else mb c) (if c = a then [] else ks c).length (setK (if c = a then [] else ks c))
      rw [if_neg hca, if_neg hca]
      refine ⟨?_, m2, map_keep m3 ?_⟩
      · rw [lo _ m3.lt, l2 _ (by rw [m1]; exact fun e => by cases e)]; exact m1
      · rw [key _ (by omega)]; exact hgb _ m3.lt (by rw [m1]; exact fun e => by cases e)
/-- The innermost one is left. -/
theorem PM.pop {a : Nat} {m : Bool} {A : Option Addr} {c : Nat} (h : PM w P bv wd ((a, m) :: sk) lab op mb ks (.slice A (sk.length + 1) c) nv X) (hop : ∀ p ∈ sk, op' p.1) (hoo : ∀ i, op' i → op i) :
    PM (w.setCell ⟨P, 2, none⟩ (.slice A sk.length c)) P bv wd sk lab op' mb ks (.slice A sk.length c) nv X := by
  have hP := h.lt
  have key : ∀ k, k ≠ P → (w.setCell ⟨P, 2, none⟩ (.slice A sk.length c)).heap[k]? = w.heap[k]? := fun k hk => heap_setCell_other _ _ _ _ hk
  refine ⟨heap_setCell_same w P 2 _ _ _ h.obj, h.nt.keep (fun k hkb _ _ => key k (by omega)) (fun _ _ => rfl) hoo, ?_, fun k hk => h.ls k ?_, hop, fun c hc => ?_⟩
  · rcases h.stk.2 with ⟨_, e⟩ | ⟨g, cap, cur, e1, hb, hg, h1, h2, h3, h4⟩
    · simp at e
    · injection e1 with e1 e2 e3
      subst e1; subst e3
      refine ⟨by rw [skL_len]; omega, .inr ⟨g, c, cur, rfl, hb, by rw [key g (by omega)]; exact hg, ?_, h2, h3, ?_⟩⟩
      · rw [List.length_cons] at h1; omega
      · rw [skL_cons] at h4
        have := congrArg (List.take (sk.length * 1)) h4
        rw [List.take_take, List.take_left' (by rw [skL_len]; omega)] at this
        rw [← this]; congr 1; rw [List.length_cons]; omega
  · cases A <;> exact hk
  · obtain ⟨m1, m2, m3⟩ := h.maps c (List.mem_cons_of_mem _ hc)
    exact ⟨m1, m2, map_keep m3 (key _ (by omega))⟩
/-- A key is put into the innermost map's set. -/
theorem PM.mapPut {a : Nat} {S : List (Nat × Bool)} {k : Bs} (h : PM w P bv wd ((a, true) :: S) lab op mb ks sv nv X) (hn : ∀ m, (a, m) ∉ S) (hg : w.grownBy w1 (some (mb a))) (ho : w1.ownsMap Tryz.prog 9 unitElem (mb a) ((ks a).length + 1) ((setK (ks a)).put (.string k) (.agg []))) :
    PM w1 P bv wd ((a, true) :: S) lab op mb (fun i => if i = a then ks a ++ [k] else ks i) sv nv X := by
  obtain ⟨m1, m2, m3⟩ := h.maps a (List.mem_cons_self ..)
  have hP := h.lt
  have hb : ∀ k, k < w.heap.size → lab k ≠ .map a → w1.heap[k]? = w.heap[k]? := fun k hk hne => hg.block k hk fun e => by injection e with e; exact hne (e ▸ m1)
  refine ⟨?_, h.nt.keep (fun k _ hk ht => hb k hk fun e => by rw [e] at ht; cases ht) (fun _ _ => rfl) fun _ h => h, own_keep h.stk fun k hk => hb k (h.stk.lt k hk).2 (by rw [h.ls k hk]; exact fun e => by cases e), h.ls, h.op, fun c hc => ?_⟩
  · rw [hg.block P hP fun e => by injection e with e; omega]; exact h.obj
  · by_cases hca : c = a
    · subst hca
      refine ⟨m1, m2, ?_⟩
      show World.ownsMap _ _ _ _ _ (if c = c then ks c ++ [k] else ks c).length (setK (if c = c then ks c ++ [k] else ks c))
      rw [if_pos rfl, setK_snoc, List.length_append]
      exact ho
    · rcases List.mem_cons.1 hc with e | hc
      · injection e with e _; exact absurd e hca
      · obtain ⟨q1, q2, q3⟩ := h.maps c (List.mem_cons_of_mem _ hc)
        refine ⟨q1, q2, ?_⟩
        show World.ownsMap _ _ _ _ _ (if c = a then ks a ++ [k] else ks c).length (setK (if c = a then ks a ++ [k] else ks c))
        rw [if_neg hca]
        exact map_keep q3 (hb _ q3.lt (by rw [q1]; exact fun e => by injection e with e; exact hca e))
end
end Jt
end Go.Proofs.YtggeiajbcehkjaaGreatDoor
/- Bits of bytes and of small numbers, as sums. -/
namespace Go.Proofs.YtggeiajbcehkjaaGreatDoor
open Go

theorem and8 (a : Int) (i : Nat) (hi : i < 8) (h0 : 0 ≤ a) (h1 : a ≤ 255) : bits .and .u8 a ((2 ^ i - 1 : Nat) : Int) = a % ((2 ^ i : Nat) : Int) := by
  have hp : 2 ^ i ≤ 2 ^ 8 := Nat.pow_le_pow_right (by omega) (by omega)
  obtain ⟨n, rfl⟩ := Int.eq_ofNat_of_zero_le h0
  rw [u8_and_nat n _ (by omega) (by omega), Nat.and_two_pow_sub_one_eq_mod]
  omega
theorem and63 (a : Int) (h0 : 0 ≤ a) (h1 : a ≤ 255) : bits .and .u8 a 63 = a % 64 := and8 a 6 (by omega) h0 h1
theorem or8 (i x y : Nat) (hi : i < 8) (hx : x % 2 ^ i = 0) (hx' : x < 256) (hy : y < 2 ^ i) : bits .or .u8 (x : Int) (y : Int) = ((x + y : Nat) : Int) := by
  have hp : 2 ^ i ≤ 2 ^ 8 := Nat.pow_le_pow_right (by omega) (by omega)
  rw [u8_or_nat x y hx' (by omega), nat_join i x y hx hy]
theorem or128 (y : Int) (h0 : 0 ≤ y) (h1 : y < 64) : bits .or .u8 128 y = 128 + y := by
  obtain ⟨n, rfl⟩ := Int.eq_ofNat_of_zero_le h0
  have := or8 6 128 n (by omega) (by decide) (by omega) (by omega)
  rw [Int.natCast_add] at this; exact this
theorem or192 (y : Int) (h0 : 0 ≤ y) (h1 : y < 32) : bits .or .u8 192 y = 192 + y := by
  obtain ⟨n, rfl⟩ := Int.eq_ofNat_of_zero_le h0
  have := or8 5 192 n (by omega) (by decide) (by omega) (by omega)
  rw [Int.natCast_add] at this; exact this
theorem or224 (y : Int) (h0 : 0 ≤ y) (h1 : y < 16) : bits .or .u8 224 y = 224 + y := by
  obtain ⟨n, rfl⟩ := Int.eq_ofNat_of_zero_le h0
  have := or8 4 224 n (by omega) (by decide) (by omega) (by omega)
  rw [Int.natCast_add] at this; exact this
theorem or240 (y : Int) (h0 : 0 ≤ y) (h1 : y < 8) : bits .or .u8 240 y = 240 + y := by
  obtain ⟨n, rfl⟩ := Int.eq_ofNat_of_zero_le h0
  have := or8 3 240 n (by omega) (by decide) (by omega) (by omega)
  rw [Int.natCast_add] at this; exact this
theorem or0 (y : Int) (h0 : 0 ≤ y) (h1 : y < 128) : bits .or .u8 0 y = y := by
  obtain ⟨n, rfl⟩ := Int.eq_ofNat_of_zero_le h0
  have := or8 7 0 n (by omega) (by decide) (by omega) (by omega)
  rw [Nat.zero_add] at this; exact this
end Go.Proofs.YtggeiajbcehkjaaGreatDoor
/- What landed: the parser's small functions. -/
namespace Go.Proofs.YtggeiajbcehkjaaGreatDoor
open Go.RowKit
namespace Jt

/-- A fault as it is told. -/
def FV (c a : Int) : Value := .iface 63 (.agg #[.int .i64 c, .int .i64 a])
theorem fail_any (c a : Int) (w : World) : Calls Tryz.prog 98 #[.int .i64 c, .int .i64 a] w fun e w' => e = .panicked [{ v := FV c a, recovered := false }] ∧ w = w' := by
  go_enter Tryz.func98, Tryz.ntmps98
  go_wp2_with fail
  exact ⟨rfl, rfl, rfl⟩
section
variable {P : Program} {ops : Array Oper} {C : World → Prop}
/-- A region that draws its order: one walk, in the order of the text, over worlds of a class of one's own. -/
theorem reg_lit {id : Nat} {Q : Exit → Act → World → Prop} {a : Act} {w : World} {l : List Oper} (hm : P.follows .mixedOrders = true) (hB : Region.lexB .any l.toArray = true) (hC : C w.drew)
    (h : wpQuiet P l.toArray C (fun a' => ∀ w', C w' → Q .normal a' w') l a) : (Code.region id l.toArray true).wp P Q a w := wp_region_quiet hm hB hC (by simpa using h)
end
/-- The worlds in which nothing that was there has turned. -/
structure Kept (w : World) where
  wx : World
  held : Below w.heap.size w wx
instance (w : World) : Nonempty (Kept w) := ⟨⟨w, Below.refl _ _⟩⟩
theorem Kept.out {w : World} {v : Value} {s : Kept w} {w' : World} (h : Below s.wx.heap.size s.wx w') : Ending.returned v = Ending.returned v ∧ ∃ t : Kept w, w' = t.wx := ⟨rfl, ⟨w', Jk.below_tr s.held h⟩, rfl⟩
theorem Kept.cell {w : World} (s : Kept w) {p : Addr} {v : Value} (h : w.cell? p = some v) : s.wx.cell? p = some v := (s.held.cell (World.block_lt_of_cell? w p h)).trans h
section
variable {w : World} {P : Nat} {bv sv nv : Value} {wd : Nat}
/-- The parser's four cells. -/
def PO (w : World) (P : Nat) (bv : Value) (wd : Nat) (sv nv : Value) : Prop := w.heap[P]? = some (.cells #[bv, .int .u8 (wd : Nat), sv, nv] 103 (0, 0))
theorem PO.lt (h : PO w P bv wd sv nv) : P < w.heap.size := Jk.lt_blk h
theorem PO.cells (h : PO w P bv wd sv nv) : w.cell? ⟨P, 0, none⟩ = some bv ∧ w.cell? ⟨P, 1, none⟩ = some (.int .u8 (wd : Nat)) ∧ w.cell? ⟨P, 2, none⟩ = some sv ∧ w.cell? ⟨P, 3, none⟩ = some nv := by
  unfold PO at h
  refine ⟨?_, ?_, ?_, ?_⟩ <;> simp [World.cell?, h]
theorem PO.free (h : PO w P bv wd sv nv) (k : Nat) : w.frozen? ⟨P, k, none⟩ = false := by
  unfold PO at h; simp [World.frozen?, h]
theorem need_no {b : Nat} {k f t : Int} (w : World) (h : PO w P bv wd sv nv) (h1 : wd < 256) (h2 : b < 256) (hb : wd &&& b = 0) {y : Int} (hy : y = b) :
    Calls Tryz.prog 138 #[.pointer (some ⟨P, 0, none⟩), .int .u8 y, .agg #[.int .u8 k, .int .i64 f, .int .i64 t]] w fun e w' => e = .panicked [{ v := FV 3 f, recovered := false }] ∧ Below w.heap.size w w' := by
  have c1 : ∀ o, (w.alloc o).cell? ⟨P, 1, none⟩ = some (.int .u8 (wd : Nat)) := fun o => by rw [World.cell?_alloc_lt _ _ _ h.lt]; exact h.cells.2.1
  have hbit : bits .and .u8 (wd : Nat) y = 0 := by rw [hy, u8_and_nat wd b h1 h2, hb]; rfl
  clear h h1 h2 hb hy
  go_enter Tryz.func138, Tryz.ntmps138
  go_wp2_with fail
  refine (fail_any _ _ _).mono ?_
  rintro e w' ⟨rfl, rfl⟩
  exact ⟨rfl, rfl, (Below.refl _ _).alloc (Nat.le_refl _) _⟩
theorem need_ok {b : Nat} {k f t : Int} (w : World) (h : PO w P bv wd sv nv) (h1 : wd < 256) (h2 : b < 256) (hb : wd &&& b ≠ 0) {y : Int} (hy : y = b) :
    Calls Tryz.prog 138 #[.pointer (some ⟨P, 0, none⟩), .int .u8 y, .agg #[.int .u8 k, .int .i64 f, .int .i64 t]] w fun e w' => e = .returned (.tuple #[]) ∧ Below w.heap.size w w' := by
  have c1 : ∀ o, (w.alloc o).cell? ⟨P, 1, none⟩ = some (.int .u8 (wd : Nat)) := fun o => by rw [World.cell?_alloc_lt _ _ _ h.lt]; exact h.cells.2.1
  obtain ⟨z, hz⟩ : ∃ z : Int, z = bits .and .u8 (wd : Nat) y := ⟨_, rfl⟩
  have hbit := hz.symm
  have hz0 : (z == 0) = false := by rw [hz, hy, u8_and_nat wd b h1 h2]; simpa using hb
  clear h h1 h2 hb hy hz
  go_enter Tryz.func138, Tryz.ntmps138
  go_wp2_with fail
  refine bodyPost_end (results_none rfl _ _ _) rfl ?_
  exact ⟨rfl, (Below.refl _ _).alloc (Nat.le_refl _) _⟩
theorem node_list (a : Int) (w : World) : Calls Tryz.prog 397 #[.agg #[.int .i64 a]] w fun e w' => e = .returned (.int .i64 a) ∧ Below w.heap.size w w' := by
  go_enter Tryz.func397, Tryz.ntmps397
  go_wp2_with fail
  go_ret
  exact ⟨rfl, (Below.refl _ _).alloc (Nat.le_refl _) _⟩
theorem node_dict (a : Int) (u : Value) (w : World) : Calls Tryz.prog 180 #[.agg #[.int .i64 a, u]] w fun e w' => e = .returned (.int .i64 a) ∧ Below w.heap.size w w' := by
  go_enter Tryz.func180, Tryz.ntmps180
  go_wp2_with fail
  go_ret
  exact ⟨rfl, (Below.refl _ _).alloc (Nat.le_refl _) _⟩
theorem ta_ll (x : Value) (w : World) : (Instr.typeAssert (.iface 182 x) 190 182 true).run Tryz.prog w = .ok (.tuple #[x, .bool true]) w := by kernel_rfl
theorem ta_dl (x : Value) (w : World) : (Instr.typeAssert (.iface 185 x) 190 182 true).run Tryz.prog w = .ok (.tuple #[.agg #[.int .i64 0], .bool false]) w := by kernel_rfl
theorem ta_dd (x : Value) (w : World) : (Instr.typeAssert (.iface 185 x) 190 185 true).run Tryz.prog w = .ok (.tuple #[x, .bool true]) w := by kernel_rfl
theorem ta_d (x : Value) (w : World) : (Instr.typeAssert (.iface 185 x) 190 185 false).run Tryz.prog w = .ok x w := by kernel_rfl
theorem within_list (x : Value) (w : World) : Calls Tryz.prog 139 #[.iface 182 x] w fun e w' => e = .returned (.tuple #[.int .u8 1, .int .u8 93]) ∧ w = w' := by
  have h1 := ta_ll x
  go_enter Tryz.func139, Tryz.ntmps139
  go_wp2_with fail
  go_ret2
  exact ⟨rfl, rfl⟩
theorem within_dict (x : Value) (w : World) : Calls Tryz.prog 139 #[.iface 185 x] w fun e w' => e = .returned (.tuple #[.int .u8 2, .int .u8 125]) ∧ w = w' := by
  have h1 := ta_dl x
  have h2 := ta_dd x
  go_enter Tryz.func139, Tryz.ntmps139
  go_wp2_with fail
  go_ret2
  exact ⟨rfl, rfl⟩
theorem within_is (mb : Nat → Nat) (a : Nat) (m : Bool) {y z : Int} (hy : y = firstM m) (hz : z = enM m) (w : World) : Calls Tryz.prog 139 #[skC mb (a, m)] w fun e w' => e = .returned (.tuple #[.int .u8 y, .int .u8 z]) ∧ w = w' := by
  subst hy; subst hz
  cases m
  · exact within_list _ w
  · exact within_dict _ w
theorem goOn_nil (w : World) (A : Option Addr) (c : Nat) (h : PO w P bv wd (.slice A 0 c) nv) :
    Calls Tryz.prog 176 #[.pointer (some ⟨P, 0, none⟩)] w fun e w' => e = .returned (.tuple #[]) ∧ w' = w.setCell ⟨P, 1, none⟩ (.int .u8 0) := by
  obtain ⟨c0, c1, c2, c3⟩ := h.cells
  have f1 := h.free 1
  clear c0 c3 h
  go_enter Tryz.func176, Tryz.ntmps176
  go_wp2_with fail
  refine bodyPost_end (results_none rfl _ _ _) rfl ?_
  exact ⟨rfl, rfl⟩
theorem goOn_on (w : World) (A : Option Addr) (n c : Nat) (hn : 0 < n) (h : PO w P bv wd (.slice A n c) nv) :
    Calls Tryz.prog 176 #[.pointer (some ⟨P, 0, none⟩)] w fun e w' => e = .returned (.tuple #[]) ∧ w' = (w.setCell ⟨P, 1, none⟩ (.int .u8 0)).setCell ⟨P, 1, none⟩ (.int .u8 24) := by
  obtain ⟨c0, c1, c2, c3⟩ := h.cells
  have f1 := h.free 1
  clear c0 c3 h
  go_enter Tryz.func176, Tryz.ntmps176
  go_wp2_with fail
  refine bodyPost_end (results_none rfl _ _ _) rfl ?_
  exact ⟨rfl, rfl⟩
theorem bytes_any {l : List UInt8} {A : Option Addr} {N C f t : Nat} {k : Int} (w : World) (h : PO w P (.slice A N C) wd sv nv) (hA : Byt w P A l) (hN : N = l.length) (hC : N ≤ C) (_hC6 : C ≤ maxLen) (hft : f < t) (ht : t ≤ N) (hm : N ≤ 1000000) {S : ByteArray} (hS : S = txt ((l.take t).drop f)) {x y : Int} (hx : x = f) (hy : y = t) :
    Calls Tryz.prog 142 #[.pointer (some ⟨P, 0, none⟩), .agg #[.int .u8 k, .int .i64 x, .int .i64 y]] w fun e w' => e = .returned (.string S) ∧ Below w.heap.size w w' := by
  subst hx; subst hy
  unfold maxLen at _hC6
  obtain ⟨b, off, rfl, hbP, _⟩ := hA.at_ (show 0 < l.length by omega)
  obtain ⟨W1, hW1⟩ : ∃ W1, W1 = w.alloc (.cells #[.int .u8 k, .int .i64 f, .int .i64 t] 145) := ⟨_, rfl⟩
  have hb1 : Below w.heap.size w W1 := by rw [hW1]; exact (Below.refl _ _).alloc (Nat.le_refl _) _
  have K0 := fun s : Kept W1 => s.cell ((hb1.cell (p := ⟨P, 0, none⟩) h.lt).trans h.cells.1)
  have K1 := fun s : Kept W1 => s.cell (p := ⟨w.heap.size, 1, none⟩) (v := .int .i64 f) (by rw [hW1]; simp [go_sem])
  have K2 := fun s : Kept W1 => s.cell (p := ⟨w.heap.size, 2, none⟩) (v := .int .i64 t) (by rw [hW1]; simp [go_sem])
  have hP := h.lt
  have K3 := fun s : Kept W1 => conv_bytes (l := (l.take t).drop f) (w := s.wx) (t - f) (C - f) (by simp; omega) (Jk.cut_two ((hA.below (hb1.mono (Nat.le_of_lt hP))).below (s.held.mono (by have := hb1.size; omega))) (Nat.le_of_lt hft) (by omega))
  rw [← hS] at K3
  have HB := Lib.hid hb1
  clear h hA hN hm hS hb1 hP
  go_enter Tryz.func142, Tryz.ntmps142
  go_upto_region 1 with fail
  rw [← hW1]
  clear hW1
  refine reg_lit (C := fun wx => ∃ s : Kept W1, wx = s.wx) (by kernel_rfl) (by kernel_rfl) ⟨⟨_, (Below.refl _ _).drew⟩, rfl⟩ ?_
  iterate 11 (go_big_quiet_step (fail))
  refine wpQuiet_nil ?_
  rintro _ ⟨⟨wx, ox⟩, rfl⟩
  go_wp2_with fail
  go_ret
  exact ⟨rfl, Jk.below_tr HB.out ox⟩
end
end Jt
end Go.Proofs.YtggeiajbcehkjaaGreatDoor
