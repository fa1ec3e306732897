/- A range over a function of which nothing is known but that it goes on where what has come is good: the statement, by what its rounds keep. -/
import Derived.Test.YtggeiajbcehkjaaGreatDoorGbj
import Derived.RangeFuncNested
import Derived.RangeFuncCalls
import Derived.RangeFuncLeaves
import Derived.Shelf.Abstract
import Derived.WalkKit
import Derived.OwnWalkIn
import Derived.TacticsInMore
import Derived.LoopNIn
import Derived.LoopIn
import Derived.Maps.OwnIn
import Derived.Maps.AppendAt
namespace Go.Proofs.YtggeiajbcehkjaaGreatDoor
open Go.RowKit Go.Shelf
namespace Tt
/-- Only blocks from n0 on, and below M, may have turned. -/
structure Kb (n0 M : Nat) (A B : World) : Prop where
  os : B.os = A.os
  tape : B.tape = A.tape
  output : B.output = A.output
  size : A.heap.size ≤ B.heap.size
  block : ∀ k, k < A.heap.size → (k < n0 ∨ M ≤ k) → B.heap[k]? = A.heap[k]?
theorem Kb.trans {n0 M : Nat} {A B C : World} (h : Kb n0 M A B) (h' : Kb n0 M B C) : Kb n0 M A C :=
  ⟨h'.os.trans h.os, h'.tape.trans h.tape, h'.output.trans h.output, Nat.le_trans h.size h'.size, fun k hk hn => (h'.block k (Nat.lt_of_lt_of_le hk h.size) hn).trans (h.block k hk hn)⟩
theorem Kb.below {n0 M : Nat} {A B : World} (h : Kb n0 M A B) (hn : n0 ≤ A.heap.size) : Below n0 A B := ⟨h.os, h.tape, h.output, h.size, fun k hk => h.block k (by omega) (.inl hk)⟩
theorem Kb.of_below {n0 M : Nat} {A B : World} (h : Below A.heap.size A B) : Kb n0 M A B := ⟨h.os, h.tape, h.output, h.size, fun k hk _ => h.block k hk⟩
theorem Kb.grown {n0 M b : Nat} {A B : World} (h : A.grownBy B (some b)) (h0 : n0 ≤ b) (h1 : b < M) : Kb n0 M A B := ⟨h.os, h.tape, h.output, h.size, fun k hk hn => h.block k hk (by simp; omega)⟩
theorem Kb.put {n0 M l : Nat} {A : World} {o : Obj} (h0 : n0 ≤ l) (h1 : l < M) : Kb n0 M A (A.putObj l o) := ⟨rfl, rfl, rfl, by rw [World.putObj_size]; exact Nat.le_refl _, fun k _ hn => World.putObj_heap_other (by omega)⟩
/-- What an iterator owes, whose rounds go on only where what has come is good: all have come, or a round has said no more. -/
def Goes {α : Type} (F : Fence) (n : Nat) (P : Program) (g : Nat) (lb : Array Value) (encs : α → Array Value) (Ok : α → Prop) (n0 : Nat) (G S Sp : List α → Prop) (w : World) : Prop :=
  ∀ (l : Nat) (J Jx : List α → World → Prop) (W : World), Below w.heap.size w W →
    (∀ s A B, J s A → A.grownBy B none → J s B) → (∀ s A, J s A → G s) →
    (∀ s x A, Ok x → J s A → YieldAt F (n - 1) P l (encs x) A fun e B => (e = .returned (.bool true) ∧ J (s ++ [x]) B ∧ Kb n0 W.heap.size A B) ∨ (e = .returned (.bool false) ∧ Jx (s ++ [x]) B)) →
    J [] W →
    CallsIn F n P g (#[.func (.yield l) #[] #[]] ++ lb) W fun e B => (∃ v, e = .returned v) ∧ ((∃ xs, S xs ∧ J xs B) ∨ (∃ xs, Sp xs ∧ Jx xs B))
/-- How a round's body may be left: it goes on, or returns. -/
def roundEnd {α : Type} (B b : Nat) (I Ix : List α → World → Prop) (xs : List α) (W : World) : Exit → Act → World → Prop
  | .normal, _, X => W.grownBy X (some b) ∧ I xs X
  | .ret, _, X => KeepsFrom B W X ∧ Ix xs X
  | .exit _, _, _ => False
  | .goto _, _, _ => False
  | .panic _, _, _ => False
  | .outgrown, _, _ => False
set_option maxHeartbeats 1000000 in
/-- The statement. -/
theorem over_good {α : Type} {F : Fence} {n n0 b : Nat} {P : Program} {g : Operand} {ps : Array Tmp} {assign body : Code} {Q : Exit → Act → World → Prop} {a : Act} {w : World}
    (hro : F.round = none) (h1 : 1 ≤ n) (hn0 : n0 ≤ b) (hb : b < w.heap.size) {gf : Nat} {lb : Array Value} (hg : a.eval g = .func (.func gf) #[] lb) (hFg : F.fn gf) (eg : ∀ args w, (callFunc gf args).run P w = .ok (.enter gf args) w)
    {encs : α → Array Value} {Ok : α → Prop} {G S Sp : List α → Prop} (hseq : Goes F (n - 1) P gf lb encs Ok n0 G S Sp w) (hps : ∀ x, (encs x).size = ps.size)
    (I Ix : List α → World → Prop) (hI : OwnFrom w.heap.size I) (hIx : OwnFrom w.heap.size Ix) (hG : ∀ s A, I s A → G s) (h0 : I [] w) (a1 : α → Act)
    (hassign : ∀ (l : Nat) (x : α) (W : World) (K : Act → World → Prop), K (a1 x) W →
      assign.wpIn (F.inRound l) (n - 1 - 1) P (Exit.then K (fun _ _ _ => False)) { tmps := (ps.zip (encs x)).foldl (fun t (p, v) => t.setIfInBounds p v) a.tmps, defers := [] } W)
    (hbody : ∀ (l : Nat) (s : List α) (x : α) (W : World), Ok x → I s W → body.wpIn (F.inRound l) (n - 1 - 1) P (roundEnd w.heap.size b I Ix (s ++ [x]) W) (a1 x) W)
    (hdone : ∀ (D : Nat) (xs : List α) (W : World), w.heap.size ≤ D → S xs → I xs W → W.heap[D]? = some (.deferred (some [])) → Q .normal { a with defers := { target := .collected D, args := #[] } :: a.defers } W)
    (hstop : ∀ (D : Nat) (xs : List α) (W : World), w.heap.size ≤ D → Sp xs → Ix xs W → W.heap[D]? = some (.deferred (some [])) → Code.ret.wpIn F n P Q { a with defers := { target := .collected D, args := #[] } :: a.defers } W) :
    (Code.rangeFunc g ps assign body).wpIn F n P Q a w := by
  obtain ⟨D, hD⟩ : ∃ D, D = w.heap.size := ⟨_, rfl⟩
  refine wpIn_rangeFunc fun fn hfn => ?_
  rw [hro]
  let rec' : LoopState → Option Code → Loop := fun st pe => { state := st, pending := pe, fn, tmps := a.tmps, params := ps, assign, body, defers := w.heap.size }
  obtain ⟨X, hX⟩ : ∃ X, (w.alloc (.deferred (some []))).alloc (.loop (rec' .ready none)) = X := ⟨_, rfl⟩
  have sX : X.heap.size = D + 2 := by rw [← hX, hD]; simp
  have bX : Below w.heap.size w X := by rw [← hX]; exact ((Below.refl _ w).alloc (Nat.le_refl _) _).alloc (by simp) _
  have lX : X.heap[D + 1]? = some (.loop (rec' .ready none)) := by
    have := World.alloc_heap_new (w.alloc (.deferred (some []))) (.loop (rec' .ready none))
    rw [hX, World.size_alloc, ← hD] at this; exact this
  have dX : X.heap[D]? = some (.deferred (some [])) := by
    rw [← hX, hD]; exact (Below.heap_alloc _ _ _ (by simp)).trans (World.alloc_heap_new w _)
  have iX : I [] X := by rw [← hX]; exact hI.alloc _ (hI.alloc _ h0)
  refine ⟨D + 1, [{ target := .collected w.heap.size, args := #[] }], X, { target := .fn (.func gf) lb, args := #[.func (.yield (D + 1)) #[] #[]] }, X, gf, #[.func (.yield (D + 1)) #[] #[]] ++ lb, X, ?_, ?_, ?_, ?_, fun _ => h1, ?_⟩
  · rw [← hX, hD]; exact run_enterLoop_outer _ _ _ _ _
  · simp only [resolve, hg]; simp [go_sem]
  · intro f' hf'; simp [Target.leads] at hf'; subst hf'; exact hFg
  · simp [invoke, go_sem, eg]
  have keep : ∀ {A B : World} {k : Nat} {o : Obj}, A.grownBy B none → A.heap[k]? = some o → B.heap[k]? = some o := fun hgr hk => (hgr.block _ (Array.getElem?_eq_some_iff.1 hk).1 (by simp)).trans hk
  refine (hseq (D + 1)
    (fun s W => I s W ∧ W.heap[D + 1]? = some (.loop (rec' .ready none)) ∧ W.heap[D]? = some (.deferred (some [])))
    (fun s W => Ix s W ∧ W.heap[D + 1]? = some (.loop (rec' .done (some .ret))) ∧ W.heap[D]? = some (.deferred (some [])))
    X bX (fun s A B h hgr => ⟨hI s A B none h.1 hgr (fun r e => by cases e), keep hgr h.2.1, keep hgr h.2.2⟩)
    (fun s A h => hG s A h.1) ?_ ⟨iX, lX, dX⟩).mono ?_
  · rintro s x W hx ⟨hi, hl, hd⟩
    have hlt : D + 1 < W.heap.size := (Array.getElem?_eq_some_iff.1 hl).1
    have hy := run_yield (P := P) (args := encs x) hl (hps x)
    refine ⟨fn, _, assign, body, hy, roundIn_of_wpIn hfn (hassign _ x W _ ⟨_, run_beginRound hl rfl, ?_⟩)⟩
    obtain ⟨Y, hY⟩ : ∃ Y, W.putObj (D + 1) (.loop (rec' .busy none)) = Y := ⟨_, rfl⟩
    have lY : Y.heap[D + 1]? = some (.loop (rec' .busy none)) := by rw [← hY]; exact World.putObj_heap_same hlt
    have dY : Y.heap[D]? = some (.deferred (some [])) := by rw [← hY]; exact (World.putObj_heap_other (by omega)).trans hd
    have iY : I s Y := by rw [← hY]; exact hI.putObj _ hi (by omega) hl rfl
    have bY : Kb n0 X.heap.size W Y := by rw [← hY]; exact Kb.put (by omega) (by omega)
    have hgoal : body.wpIn (F.inRound (D + 1)) (n - 1 - 1) P (roundPost P (D + 1) fun e B => (e = .returned (.bool true) ∧ (I (s ++ [x]) B ∧ B.heap[D + 1]? = some (.loop (rec' .ready none)) ∧ B.heap[D]? = some (.deferred (some []))) ∧ Kb n0 X.heap.size W B) ∨ (e = .returned (.bool false) ∧ Ix (s ++ [x]) B ∧ B.heap[D + 1]? = some (.loop (rec' .done (some .ret))) ∧ B.heap[D]? = some (.deferred (some [])))) (a1 x) Y := by
      refine wpIn_mono (hbody _ s x Y hx iY) fun e a3 Z hp => ?_
      have fin : ∀ (jump : Option Code), KeepsFrom w.heap.size Y Z →
          (Instr.endRound (D + 1) jump).run P Z = .ok (.bool jump.isNone) (Z.putObj (D + 1) (.loop (rec' (if jump.isNone then .ready else .done) jump))) ∧ Z.heap[D + 1]? = some (.loop (rec' .busy none)) ∧
          (Z.putObj (D + 1) (.loop (rec' (if jump.isNone then .ready else .done) jump))).heap[D + 1]? = some (.loop (rec' (if jump.isNone then .ready else .done) jump)) ∧
          (Z.putObj (D + 1) (.loop (rec' (if jump.isNone then .ready else .done) jump))).heap[D]? = some (.deferred (some [])) := fun jump hk => by
        have lZ := hk.same _ _ (by omega) lY rfl
        exact ⟨run_endRound (P := P) jump lZ, lZ, World.putObj_heap_same (Array.getElem?_eq_some_iff.1 lZ).1, (World.putObj_heap_other (by omega)).trans (hk.same _ _ (by omega) dY rfl)⟩
      cases e with
      | normal =>
        obtain ⟨hgr, hi3⟩ := hp
        obtain ⟨hr, lZ, l4, d4⟩ := fin none (KeepsFrom.of_grownBy hgr (fun j e => by cases e; exact hb))
        exact ⟨_, _, hr, .inl ⟨rfl, ⟨hI.putObj _ hi3 (by omega) lZ rfl, l4, d4⟩, (bY.trans (Kb.grown hgr hn0 (by omega))).trans (Kb.put (by omega) (by omega))⟩⟩
      | ret =>
        obtain ⟨hk, hi3⟩ := hp
        obtain ⟨hr, lZ, l4, d4⟩ := fin (some .ret) hk
        exact ⟨_, _, hr, .inr ⟨rfl, hIx.putObj _ hi3 (by omega) lZ rfl, l4, d4⟩⟩
      | exit _ => exact hp.elim
      | goto _ => exact hp.elim
      | panic _ => exact hp.elim
      | outgrown => exact hp.elim
    rw [← hY] at hgoal
    exact hgoal
  · rintro e Z ⟨⟨v, rfl⟩, ⟨xs, hS, hi, hl, hd⟩ | ⟨xs, hS, hi, hl, hd⟩⟩
    · subst hD
      exact ⟨none, _, run_endLoop (P := P) hl (by simp [rec']), hdone _ xs _ (Nat.le_refl _) hS (hI.putObj _ hi (Nat.le_succ _) hl rfl) ((World.putObj_heap_other (Nat.ne_of_lt (Nat.lt_succ_self _))).trans hd)⟩
    · subst hD
      exact ⟨some .ret, _, run_endLoop (P := P) hl (by simp [rec']), hstop _ xs _ (Nat.le_refl _) hS (hIx.putObj _ hi (Nat.le_succ _) hl rfl) ((World.putObj_heap_other (Nat.ne_of_lt (Nat.lt_succ_self _))).trans hd)⟩
end Tt
end Go.Proofs.YtggeiajbcehkjaaGreatDoor
/- What landed of trees: the nodes that are reached, one by one, for whatever is done with them. -/
namespace Go.Proofs.YtggeiajbcehkjaaGreatDoor
open Go.RowKit Go.Shelf
open Va (Bs V v0 Tx Vm Vk Vr vO below_tr below_new heap_alloc_new get_lt Vk)
attribute [local go_sem] Oper.semAt_some
namespace Tt

set_option maxRecDepth 100000

/-- What is handed to a round. -/
abbrev encE (x : Int × Nat) : Array Value := #[.int .i64 x.1, .int .i64 (x.2 : Nat)]
/-- What may be handed to one. -/
def okE (x : Int × Nat) : Prop := i64 x.1 ∧ x.2 ≤ 257
set_option maxHeartbeats 4000000 in
theorem from_step {t : Tr} {F : Fence} (hdp : F.depth = none) (hf : F.fn 59) (hro : F.round = none) {l n0 M : Nat} {w0 : World} {v : Value} (hv : Tm w0 v t) (h0 : n0 = w0.heap.size) (hM : n0 ≤ M)
    (hn5 : t.nodes.length ≤ 1000000) (hs5 : ∀ x ∈ t.nodes, x.subs.length ≤ 1000000) (J Jx : List (Int × Nat) → World → Prop) (hJ : ∀ s A B, J s A → A.grownBy B none → J s B) (hG : ∀ s A, J s A → Gd t s)
    (hY : ∀ m s x A, okE x → J s A → YieldAt F m Tryz.prog l (encE x) A fun e B => (e = .returned (.bool true) ∧ J (s ++ [x]) B ∧ Kb n0 M A B) ∨ (e = .returned (.bool false) ∧ Jx (s ++ [x]) B))
    {i : Int} {d : Nat} (hi : i64 i) (hd : d ≤ 257) {E : List (Int × Nat)} {G : Int → List (Int × Nat)} (hE0 : [(i, d)] <+: E) (hE : ∀ x, 0 ≤ i → t.nodes[i.toNat]? = some x → x.fits d = true → E = (i, d) :: x.subs.flatMap G)
    (IH : ∀ x, t.nodes[i.toNat]? = some x → x.fits d = true → ∀ u ∈ x.subs, i64 u → ∀ (n : Nat) (s : List (Int × Nat)) (W : World), M ≤ W.heap.size → Below n0 w0 W → J s W →
      CallsIn F n Tryz.prog 59 #[v, .int .i64 u, .int .i64 ((d : Int) + 1), .func (.yield l) #[] #[]] W fun e B => (e = .returned (.bool true) ∧ J (s ++ G u) B ∧ Kb n0 M W B) ∨ (e = .returned (.bool false) ∧ ∃ q, q <+: G u ∧ Jx (s ++ q) B))
    (n : Nat) (s : List (Int × Nat)) (W : World) (hMW : M ≤ W.heap.size) (hb : Below n0 w0 W) (hJW : J s W) :
    CallsIn F n Tryz.prog 59 #[v, .int .i64 i, .int .i64 (d : Nat), .func (.yield l) #[] #[]] W fun e B => (e = .returned (.bool true) ∧ J (s ++ E) B ∧ Kb n0 M W B) ∨ (e = .returned (.bool false) ∧ ∃ q, q <+: E ∧ Jx (s ++ q) B) := by
  have hdd : ∀ k : Nat, (F.depth.isSome = true → 1 ≤ k) := fun k h => by rw [hdp] at h; cases h
  have HV := Lib.hid hv
  obtain ⟨A, c, rfl, hc1, hc2, hc3, hr, hN⟩ := hv
  have HNX := Lib.hid hN
  obtain ⟨r, hR⟩ : ∃ r, r = t.root := ⟨_, rfl⟩
  obtain ⟨nn, hNN⟩ : ∃ n, n = t.nodes.length := ⟨_, rfl⟩
  rw [← hNN, ← hR] at HV
  rw [← hNN, ← hR] at IH
  rw [← hNN, ← hR]
  have HNN := Lib.hid hNN
  rw [← hNN] at hc1 hn5
  have HIH := Lib.hid IH
  have HE := Lib.hid hE
  have HE0 := Lib.hid hE0
  have HYY := Lib.hid hY
  have HGG := Lib.hid hG
  have HJJ := Lib.hid hJ
  have HI := Lib.hid hi
  have H0 := Lib.hid h0
  have HS5 := Lib.hid hs5
  clear hN hr hR hNN IH hE hE0 hY hG hs5
  obtain ⟨h, hh⟩ : ∃ h, h = W.heap.size := ⟨_, rfl⟩
  have hb1 : Below W.heap.size W (W.alloc (.cells #[.slice A nn c, .int .i64 r] 24)) := below_new ..
  have box1 : (W.alloc (.cells #[.slice A nn c, .int .i64 r] 24)).heap[h]? = some (tO (.slice A nn c) (.int .i64 r)) := by rw [hh]; exact heap_alloc_new ..
  have hJ1 : J s (W.alloc (.cells #[.slice A nn c, .int .i64 r] 24)) := hJ s W _ hJW (World.grownBy_alloc W _ none)
  have KB1 := Lib.hid (show Kb n0 M W (W.alloc (.cells #[.slice A nn c, .int .i64 r] 24)) from Kb.of_below hb1)
  have HMH := Lib.hid (show M ≤ h from by omega)
  have HMS := Lib.hid (show n0 ≤ (W.alloc (.cells #[.slice A nn c, .int .i64 r] 24)).heap.size ∧ h < (W.alloc (.cells #[.slice A nn c, .int .i64 r] 24)).heap.size from by rw [s1]; omega)
  have HB1 := Lib.hid (show Below n0 w0 (W.alloc (.cells #[.slice A nn c, .int .i64 r] 24)) from hb.trans (hb1.mono (by omega)))
  obtain ⟨fn, tmps, assign, body, hy, hR1⟩ := HYY.out (n - 1) s (i, d) _ ⟨hi, hd⟩ hJ1
  have HX1 := Lib.hid box1
  have HMM := Lib.hid (And.intro hM hMW)
  dsimp only [encE] at hy
  have HH := Lib.hid hh
  clear hb1 hJ1 hb hJW hJ box1 hh hM hMW hi
  refine callsIn_of_wp Tryz.func59 rfl hf ?_ hro
  simp only [Tryz.ntmps59, List.size_toArray, List.length_cons, List.length_nil, Nat.reduceAdd, Nat.reduceSub, Array.replicate_succ, Array.replicate_zero, List.push_toArray, List.append_toArray, List.nil_append, List.cons_append]
  gi_wp2
  refine hR1.mono ?_
  rintro e W2 (⟨rfl, hJ2, hk2⟩ | ⟨rfl, hx2⟩)
  · clear hR1 hy
    have g2 := (HGG.out _ _ hJ2)
    obtain ⟨hp0, x, hx, hfx⟩ := g2.ok (i, d) (by simp)
    have hp0 : 0 ≤ i := hp0
    have hx : t.nodes[i.toNat]? = some x := hx
    obtain ⟨a, rfl⟩ := Int.eq_ofNat_of_zero_le hp0
    rw [Int.toNat_natCast] at hx
    have hE2 := HE.out x hp0 (by rw [Int.toNat_natCast]; exact hx) hfx
    have IH2 := HIH.out x (by rw [Int.toNat_natCast]; exact hx) hfx
    have hB2 : Below n0 w0 W2 := HB1.out.trans (hk2.below HMS.out.1)
    have hX2 : W2.heap[h]? = some (tO (.slice A nn c) (.int .i64 r)) := (hk2.block h HMS.out.2 (.inr HMH.out)).trans HX1.out
    have HK2 := Lib.hid (And.intro (KB1.out.trans hk2) (And.intro hB2 hX2))
    have ha : a < nn := by rw [HNN.out]; exact (List.getElem?_eq_some_iff.1 hx).1
    obtain ⟨g, o, rfl, hg, hf2⟩ := HNX.out (by rw [← HNN.out]; omega)
    obtain ⟨K, S, U, ka, sb, uc, hcell, hNr⟩ := hf2 a x hx
    have n4 := (hB2.cell (p := ⟨g, o + a * 7 + 4, none⟩) (by rw [H0.out]; exact hg)).trans (hcell 4 _ rfl)
    have hs6 := HS5.out x (List.mem_of_getElem? hx)
    obtain ⟨ul, HU⟩ : ∃ n, Hid (n = x.subs.length) := ⟨_, Lib.hid rfl⟩
    rw [← HU.out] at n4 hs6
    have HUX := Lib.hid hNr.subs
    have HJ2 := Lib.hid hJ2
    have HE2 := Lib.hid hE2
    have HIH2 := Lib.hid IH2
    have t0 : W2.cell? ⟨W.heap.size, 0, none⟩ = some (.slice (some ⟨g, o, none⟩) nn c) := by rw [← HH.out]; simp [World.cell?, hX2]
    clear g2 hx hfx hE2 IH2 hB2 hX2 hJ2 hk2 hg hf2 hcell hNr HNX HE HIH hc3 hp0
    gi_wp2
    gi_loopw [10, 23] (fun _ b wr => ∃ j : Nat, j ≤ ul ∧ b = .int .i64 j ∧ Hid (J (s ++ [((a : Int), d)] ++ (x.subs.take j).flatMap G) wr ∧ Kb n0 M W wr ∧ Below n0 w0 wr ∧ wr.heap[h]? = some (tO (.slice (some ⟨g, o, none⟩) nn c) (.int .i64 r)))) (fun _ b _ => ul - (intOf b).toNat)
    case atStart => exact ⟨0, Nat.zero_le _, rfl, Lib.hid ⟨by simpa using HJ2.out, HK2.out.1, HK2.out.2.1, HK2.out.2.2⟩⟩
    case round =>
      obtain ⟨j, hj, rfl, HQ⟩ := hrel
      by_cases hlt : j < ul
      · obtain ⟨u, hu⟩ := get_lt (l := x.subs) (i := j) (by rw [← HU.out]; exact hlt)
        obtain ⟨gu, ou, rfl, hgu, hfu⟩ := HUX.out (by rw [← HU.out]; omega)
        have cu : wr.cell? ⟨gu, ou + j, none⟩ = some (.int .i64 u) := (HQ.out.2.2.1.cell (p := ⟨gu, ou + j, none⟩) (by rw [H0.out]; exact hgu)).trans (hfu j u hu).1
        have b0 : wr.cell? ⟨W.heap.size, 0, none⟩ = some (.slice (some ⟨g, o, none⟩) nn c) := by rw [← HH.out]; simp [World.cell?, HQ.out.2.2.2]
        have b1 : wr.cell? ⟨W.heap.size, 1, none⟩ = some (.int .i64 r) := by rw [← HH.out]; simp [World.cell?, HQ.out.2.2.2]
        have CI := Lib.hid (HIH2.out u (List.mem_of_getElem? hu) (hfu j u hu).2 (n - 1) _ wr (by have := HQ.out.2.1.size; have := HMM.out.2; omega) HQ.out.2.2.1 HQ.out.1)
        have HTK := Lib.hid (show x.subs.take (j + 1) = x.subs.take j ++ [u] from by rw [List.take_add_one, hu]; rfl)
        have HPR := Lib.hid (show x.subs.take j ++ u :: x.subs.drop (j + 1) = x.subs from by
          have h9 := List.getElem?_eq_some_iff.1 hu
          obtain ⟨h1, h2⟩ := h9
          rw [← h2, ← List.drop_eq_getElem_cons h1, List.take_append_drop])
        clear hu hfu hgu
        gi_wp2_with ((try refine ⟨hdd _, ?_⟩); gi_at_call 59; refine CI.out.mono ?_; clear CI; rintro e w3 (⟨rfl, hJ3, hk3⟩ | ⟨rfl, q, hq, hx3⟩))
        · go_roundw
          case rel =>
            refine ⟨j + 1, by omega, by go_num, Lib.hid ⟨?_, HQ.out.2.1.trans hk3, HQ.out.2.2.1.trans (hk3.below (by have := HQ.out.2.1.size; have := HMM.out; omega)), (hk3.block h (Array.getElem?_eq_some_iff.1 HQ.out.2.2.2).1 (.inr HMH.out)).trans HQ.out.2.2.2⟩⟩
            rw [HTK.out, List.flatMap_append]
            simpa [List.append_assoc] using hJ3
          case measure => simp [intOf]; omega
        · go_ret
          refine .inr ⟨by first | rfl | trivial, ((a : Int), d) :: ((x.subs.take j).flatMap G ++ q), ?_, by simpa [List.append_assoc] using hx3⟩
          rw [HE2.out]
          obtain ⟨z, hz⟩ := hq
          refine ⟨z ++ (x.subs.drop (j + 1)).flatMap G, ?_⟩
          have e : x.subs.flatMap G = (x.subs.take j).flatMap G ++ (G u ++ (x.subs.drop (j + 1)).flatMap G) := by
            conv => lhs; rw [← HPR.out]
            rw [List.flatMap_append, List.flatMap_cons]
          rw [e, ← hz]; simp [List.append_assoc]
      · obtain rfl : j = ul := by omega
        have HF := Lib.hid (show J (s ++ E) wr from by
          have := HQ.out.1
          rw [List.take_of_length_le (by rw [← HU.out]; omega)] at this
          rw [HE2.out]; simpa [List.append_assoc] using this)
        gi_wp2
        go_ret
        exact .inl ⟨by first | rfl | trivial, HF.out, HQ.out.2.1⟩
  · have HX2 := Lib.hid hx2
    clear hR1 hy hx2
    gi_wp2
    go_ret
    exact .inr ⟨by first | rfl | trivial, [(i, d)], HE0.out, HX2.out⟩
theorem from_in {t : Tr} {F : Fence} (hdp : F.depth = none) (hf : F.fn 59) (hro : F.round = none) {l n0 M : Nat} {w0 : World} {v : Value} (hv : Tm w0 v t) (h0 : n0 = w0.heap.size) (hM : n0 ≤ M)
    (hn5 : t.nodes.length ≤ 1000000) (hs5 : ∀ x ∈ t.nodes, x.subs.length ≤ 1000000) (J Jx : List (Int × Nat) → World → Prop) (hJ : ∀ s A B, J s A → A.grownBy B none → J s B) (hG : ∀ s A, J s A → Gd t s)
    (hY : ∀ m s x A, okE x → J s A → YieldAt F m Tryz.prog l (encE x) A fun e B => (e = .returned (.bool true) ∧ J (s ++ [x]) B ∧ Kb n0 M A B) ∨ (e = .returned (.bool false) ∧ Jx (s ++ [x]) B)) :
    ∀ (f : Nat) (i : Int) (d : Nat), d + f = 257 → i64 i → ∀ (n : Nat) (s : List (Int × Nat)) (W : World), M ≤ W.heap.size → Below n0 w0 W → J s W →
    CallsIn F n Tryz.prog 59 #[v, .int .i64 i, .int .i64 (d : Nat), .func (.yield l) #[] #[]] W fun e B => (e = .returned (.bool true) ∧ J (s ++ evs t f i d) B ∧ Kb n0 M W B) ∨ (e = .returned (.bool false) ∧ ∃ q, q <+: evs t f i d ∧ Jx (s ++ q) B)
  | 0, i, d, hd, hi, n, s, W, hMW, hb, hJW => from_step hdp hf hro hv h0 hM hn5 hs5 J Jx hJ hG hY hi (by omega) (G := fun _ => []) (by rw [evs]; exact List.prefix_refl _) (fun x _ hx hfx => by
      have hf2 := fits_shp hfx
      rw [evs, shp_leaf hf2.1 (by omega)]; rfl) (fun x hx hfx u hu => by
      have hf2 := fits_shp hfx
      rw [shp_leaf hf2.1 (by omega)] at hu; cases hu) n s W hMW hb hJW
  | f + 1, i, d, hd, hi, n, s, W, hMW, hb, hJW => from_step hdp hf hro hv h0 hM hn5 hs5 J Jx hJ hG hY hi (by omega) (G := fun u => evs t f u (d + 1)) (by rw [evs]; exact ⟨_, rfl⟩) (fun x h0 hx _ => by rw [evs, subsZ_get h0 hx])
      (fun x hx hfx u hu hiu n s W h1 h2 h3 => from_in hdp hf hro hv h0 hM hn5 hs5 J Jx hJ hG hY f u (d + 1) (by omega) hiu n s W h1 h2 h3) n s W hMW hb hJW
end Tt
end Go.Proofs.YtggeiajbcehkjaaGreatDoor
/- What landed of trees: which may be. -/
namespace Go.Proofs.YtggeiajbcehkjaaGreatDoor
open Go.RowKit Go.Shelf
open Va (Bs V v0 Tx Vm Vk Vr vO below_tr below_new heap_alloc_new get_lt vcells vm_zero)
attribute [local go_sem] Oper.semAt_some
namespace Tt
set_option maxRecDepth 100000

theorem yield_any {F : Fence} (hd : F.depth = none) {m m' : Nat} {P : Program} {l : Nat} {args : Array Value} {W : World} {R : Ending → World → Prop} (h : YieldAt F m P l args W R) : YieldAt F m' P l args W R := by
  obtain ⟨fn, tmps, assign, body, hy, h1, h2⟩ := h
  exact ⟨fn, tmps, assign, body, hy, h1, fun c cs _ => h2 c cs (fun d h => by rw [hd] at h; cases h)⟩
/-- The nodes that were met, as a set. -/
def metD (s : List (Int × Nat)) : DataW Unit := Maps.setOf (.agg []) (s.map fun e => Lit.int .i64 e.1)
theorem met_key (s : List (Int × Nat)) : ∀ x ∈ s.map (fun e => Lit.int .i64 e.1), WideAt.IsKeyLit x := fun x hx => by
  obtain ⟨e, _, rfl⟩ := List.mem_map.1 hx; trivial
theorem has_met (s : List (Int × Nat)) (i : Int) : Maps.has (metD s) (.int .i64 i) = decide (i ∈ s.map Prod.fst) := by
  unfold metD
  rw [Maps.has_setOf _ _ _ (met_key s)]
  induction s with
  | nil => rfl
  | cons e r ih =>
    rw [List.map_cons, List.any_cons, ih, List.map_cons]
    have e2 : (Lit.int IntKind.i64 e.1).sameKey (.int .i64 i) = decide (i = e.1) := by
      simp only [Lit.sameKey, true_and]
      exact decide_eq_decide.2 eq_comm
    rw [e2, Bool.eq_iff_iff, Bool.or_eq_true, decide_eq_true_iff, decide_eq_true_iff, decide_eq_true_iff, List.mem_cons]
theorem size_met {s : List (Int × Nat)} (h : (s.map Prod.fst).Nodup) : Maps.size (metD s) = s.length := by
  unfold metD
  rw [Maps.size_setOf _ _ (met_key s)]
  have : ∀ (r L : List (Int × Nat)), ((L ++ r).map Prod.fst).Nodup → ((r.map fun e => Lit.int .i64 e.1).foldl Maps.addKey (L.map fun e => Lit.int .i64 e.1)).length = (L ++ r).length := by
    intro r
    induction r with
    | nil => intro L _; simp
    | cons e r ih =>
      intro L hL
      have hn : (L.map fun e => Lit.int .i64 e.1).any (fun y => y.sameKey (.int .i64 e.1)) = false := by
        rw [List.any_eq_false]
        intro y hy
        obtain ⟨z, hz, rfl⟩ := List.mem_map.1 hy
        simp only [Lit.sameKey, true_and]
        rw [List.map_append, List.nodup_append] at hL
        have := hL.2.2 z.1 (List.mem_map.2 ⟨z, hz, rfl⟩) e.1 (by simp)
        simpa using this
      rw [List.map_cons, List.foldl_cons]
      have ha : Maps.addKey (L.map fun e => Lit.int .i64 e.1) (.int .i64 e.1) = (L ++ [e]).map fun e => Lit.int .i64 e.1 := by
        unfold Maps.addKey
        rw [hn, List.map_append]; rfl
      rw [ha, ih (L ++ [e]) (by simpa [List.append_assoc] using hL)]
      simp [List.append_assoc]
  have h9 := this s [] (by simpa using h)
  simpa using h9
theorem met_snoc (s : List (Int × Nat)) (x : Int × Nat) : metD (s ++ [x]) = (metD s).put (.int .i64 x.1) (.agg []) := by
  unfold metD
  rw [List.map_append, List.map_cons, List.map_nil, Maps.setOf_snoc]
set_option maxHeartbeats 4000000 in
theorem reached_in (F : Fence) (n : Nat) (hf : F.fn 38) (hro : F.round = none) (A : Option Addr) (c nn : Nat) (r : Int) (w : World) :
    CallsIn F n Tryz.prog 38 #[.agg #[.slice A nn c, .int .i64 r]] w fun e w' => e = .returned (.func (.func 58) #[] #[.pointer (some ⟨w.heap.size, 0, none⟩)]) ∧ w' = w.alloc (.cells #[.slice A nn c, .int .i64 r] 24) := by
  refine callsIn_of_wp Tryz.func38 rfl hf ?_ hro
  simp only [Tryz.ntmps38, List.size_toArray, List.length_cons, List.length_nil, Nat.reduceAdd, Nat.reduceSub, Array.replicate_succ, Array.replicate_zero, List.push_toArray, List.append_toArray, List.nil_append, List.cons_append]
  gi_wp2
  go_ret
  exact ⟨by first | rfl | trivial, rfl⟩
set_option maxHeartbeats 4000000 in
theorem goes_reached {t : Tr} (F : Fence) (hdp : F.depth = none) (n : Nat) (hf : F.fn 59) (hf1 : F.fn 58) (hro : F.round = none) {w0 w : World} {v : Value} {Bt : Nat} (hv : Tm w0 v t) (hb0 : Below w0.heap.size w0 w)
    (hn5 : t.nodes.length ≤ 1000000) (hs5 : ∀ x ∈ t.nodes, x.subs.length ≤ 1000000) (hlt : Bt < w.heap.size) (hbox : ∃ a b, v = .agg #[a, b] ∧ w.heap[Bt]? = some (tO a b)) :
    Goes F n Tryz.prog 58 #[.pointer (some ⟨Bt, 0, none⟩)] encE okE w0.heap.size (Gd t) (fun xs => xs = t.evA) (fun xs => xs <+: t.evA) w := by
  intro l J Jx W hW hJ hG hY hJW
  have hdd : ∀ k : Nat, (F.depth.isSome = true → 1 ≤ k) := fun k h => by rw [hdp] at h; cases h
  obtain ⟨a, b, rfl, hx⟩ := hbox
  have hX := hv
  obtain ⟨A, c, e, h1, h2, h3, hr, hN⟩ := hX
  injection e with e
  have e := congrArg Array.toList e
  simp at e
  obtain ⟨rfl, rfl⟩ := e
  have hbW : Below w0.heap.size w0 W := hb0.trans (hW.mono hb0.size)
  have CF := Lib.hid (from_in hdp hf hro hv rfl (by have := hbW.size; omega : w0.heap.size ≤ W.heap.size) hn5 hs5 J Jx hJ hG (fun m s x A ok hj => yield_any hdp (hY s x A ok hj)) 257 t.root 0 rfl hr (n - 1) [] W (Nat.le_refl _) hbW hJW)
  have cx : W.heap[Bt]? = some (tO (.slice A t.nodes.length c) (.int .i64 t.root)) := (hW.block Bt hlt).trans hx
  have c0 : W.cell? ⟨Bt, 0, none⟩ = some (.slice A t.nodes.length c) := by simp [World.cell?, cx]
  have c1 : W.cell? ⟨Bt, 1, none⟩ = some (.int .i64 t.root) := by simp [World.cell?, cx]
  obtain ⟨nn, hnn⟩ : ∃ n, n = t.nodes.length := ⟨_, rfl⟩
  obtain ⟨r, hrr⟩ : ∃ r, r = t.root := ⟨_, rfl⟩
  rw [← hnn] at CF c0
  rw [← hrr] at CF c1
  have HE := Lib.hid (show t.evA = evs t 257 r 0 from by rw [hrr])
  clear cx hx hv hN h1 h2 h3 hr hJ hG hY hJW hbW hW hb0 hn5 hs5 hnn hrr
  refine callsIn_of_wp Tryz.func58 rfl hf1 ?_ hro
  simp only [Tryz.ntmps58, List.size_toArray, List.length_cons, List.length_nil, Nat.reduceAdd, Nat.reduceSub, Array.replicate_succ, Array.replicate_zero, List.push_toArray, List.append_toArray, List.nil_append, List.cons_append]
  gi_wp2_with ((try refine ⟨hdd _, ?_⟩); gi_at_call 59; refine CF.out.mono ?_; clear CF; rintro e w3 (⟨rfl, hJ3, hk3⟩ | ⟨rfl, q, hq, hx3⟩))
  · go_end0
    exact ⟨⟨_, rfl⟩, .inl ⟨_, rfl, by rw [HE.out]; simpa using hJ3⟩⟩
  · go_end0
    exact ⟨⟨_, rfl⟩, .inr ⟨q, by rw [HE.out]; exact hq, by simpa using hx3⟩⟩
end Tt
end Go.Proofs.YtggeiajbcehkjaaGreatDoor
