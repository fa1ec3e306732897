/- The reader: a pair of a table. -/
import Derived.Test.YtbeefjhcbphiaaaGreatDoorHs
namespace Go.Proofs.YtbeefjhcbphiaaaGreatDoor
open Go.RowKit
namespace Tv
open Ty (WR1 KR Ky Bs blK endP endP_on endP_no endP_far)

abbrev keyZ : Obj := .cells #[.slice none 0 0, .slice none 0 0] 174
/-- Two cells of a block, ready to be stored. -/
structure Rdy (w : World) (q : Nat) (u v : Value) : Prop where
  c0 : w.cell? ⟨q, 0, none⟩ = some u
  c1 : w.cell? ⟨q, 1, none⟩ = some v
  f0 : w.frozen? ⟨q, 0, none⟩ = false
  f1 : w.frozen? ⟨q, 1, none⟩ = false
theorem Rdy.of {w : World} {q : Nat} {u v : Value} {T : TypeId} (h : w.heap[q]? = some (.cells #[u, v] T (0, 0))) : Rdy w q u v := by
  constructor <;> simp [World.cell?, World.frozen?, h]
theorem Rdy.al {w : World} {q : Nat} {u v : Value} {T : TypeId} (h : w.heap[q]? = some (.cells #[u, v] T (0, 0))) (o : Obj) : Rdy (w.alloc o) q u v := Rdy.of (T := T) (by
  show (w.heap.push o)[q]? = _
  rw [Array.getElem?_push_lt (lt_blk h)]
  rw [← h, Array.getElem?_eq_getElem (lt_blk h)])
def Rd4 (w : World) (q : Nat) (u v : Value) : Prop := w.cell? ⟨q, 0, none⟩ = some u ∧ w.cell? ⟨q, 1, none⟩ = some v ∧ w.frozen? ⟨q, 0, none⟩ = false ∧ w.frozen? ⟨q, 1, none⟩ = false
/-- A block that was made ahead of a call, behind it; and with a block more. -/
theorem ek0 {w9 : World} {q : Nat} {u v : Value} {T : TypeId} (h : w9.heap[q]? = some (.cells #[u, v] T (0, 0))) : (w9.cell? ⟨q, 0, none⟩ = some u ∧ w9.cell? ⟨q, 1, none⟩ = some v ∧ w9.frozen? ⟨q, 0, none⟩ = false ∧ w9.frozen? ⟨q, 1, none⟩ = false) ∧
    ((∀ o, (w9.alloc o).cell? ⟨q, 0, none⟩ = some u) ∧ (∀ o, (w9.alloc o).cell? ⟨q, 1, none⟩ = some v) ∧ (∀ o, (w9.alloc o).frozen? ⟨q, 0, none⟩ = false) ∧ (∀ o, (w9.alloc o).frozen? ⟨q, 1, none⟩ = false)) := by
  have r := Rdy.of h
  exact ⟨⟨r.c0, r.c1, r.f0, r.f1⟩, fun o => (Rdy.al h o).c0, fun o => (Rdy.al h o).c1, fun o => (Rdy.al h o).f0, fun o => (Rdy.al h o).f1⟩
/-- A block that was made later, behind stores to one that was made ahead. -/
theorem ek3 {w9 : World} {q r : Nat} (h : r ≠ q) : (∀ (o : Obj) (u v : Value), (((w9.alloc o).setCell ⟨q, 0, none⟩ u).setCell ⟨q, 1, none⟩ v).cell? ⟨r, 0, none⟩ = (w9.alloc o).cell? ⟨r, 0, none⟩) ∧ (∀ (o : Obj) (u v : Value), (((w9.alloc o).setCell ⟨q, 0, none⟩ u).setCell ⟨q, 1, none⟩ v).cell? ⟨r, 1, none⟩ = (w9.alloc o).cell? ⟨r, 1, none⟩) ∧
    (∀ (o : Obj) (u v : Value), (((w9.alloc o).setCell ⟨q, 0, none⟩ u).setCell ⟨q, 1, none⟩ v).frozen? ⟨r, 0, none⟩ = (w9.alloc o).frozen? ⟨r, 0, none⟩) ∧ (∀ (o : Obj) (u v : Value), (((w9.alloc o).setCell ⟨q, 0, none⟩ u).setCell ⟨q, 1, none⟩ v).frozen? ⟨r, 1, none⟩ = (w9.alloc o).frozen? ⟨r, 1, none⟩) := by
  have key : ∀ (o : Obj) (u v : Value), (((w9.alloc o).setCell ⟨q, 0, none⟩ u).setCell ⟨q, 1, none⟩ v).heap[r]? = (w9.alloc o).heap[r]? := fun o u v => by
    rw [heap_setCell_other _ _ _ _ h, heap_setCell_other _ _ _ _ h]
  exact ⟨fun o u v => World.cell?_of_block (a := ⟨r, 0, none⟩) (key o u v), fun o u v => World.cell?_of_block (a := ⟨r, 1, none⟩) (key o u v), fun o u v => World.frozen?_of_block (a := ⟨r, 0, none⟩) (key o u v), fun o u v => World.frozen?_of_block (a := ⟨r, 1, none⟩) (key o u v)⟩
/-- The same, without a block more. -/
theorem ek4 {w9 : World} {q r : Nat} (h : r ≠ q) : (∀ (u v : Value), ((w9.setCell ⟨q, 0, none⟩ u).setCell ⟨q, 1, none⟩ v).cell? ⟨r, 0, none⟩ = w9.cell? ⟨r, 0, none⟩) ∧ (∀ (u v : Value), ((w9.setCell ⟨q, 0, none⟩ u).setCell ⟨q, 1, none⟩ v).cell? ⟨r, 1, none⟩ = w9.cell? ⟨r, 1, none⟩) ∧
    (∀ (u v : Value), ((w9.setCell ⟨q, 0, none⟩ u).setCell ⟨q, 1, none⟩ v).frozen? ⟨r, 0, none⟩ = w9.frozen? ⟨r, 0, none⟩) ∧ (∀ (u v : Value), ((w9.setCell ⟨q, 0, none⟩ u).setCell ⟨q, 1, none⟩ v).frozen? ⟨r, 1, none⟩ = w9.frozen? ⟨r, 1, none⟩) := by
  have key : ∀ (u v : Value), ((w9.setCell ⟨q, 0, none⟩ u).setCell ⟨q, 1, none⟩ v).heap[r]? = w9.heap[r]? := fun u v => by
    rw [heap_setCell_other _ _ _ _ h, heap_setCell_other _ _ _ _ h]
  exact ⟨fun u v => World.cell?_of_block (a := ⟨r, 0, none⟩) (key u v), fun u v => World.cell?_of_block (a := ⟨r, 1, none⟩) (key u v), fun u v => World.frozen?_of_block (a := ⟨r, 0, none⟩) (key u v), fun u v => World.frozen?_of_block (a := ⟨r, 1, none⟩) (key u v)⟩
theorem lt_early {X w9 : World} {o : Obj} (h : Below (X.alloc o).drew.heap.size (X.alloc o).drew w9) : w9.heap.size ≠ X.heap.size := by
  have h1 := h.size
  have h2 : (X.alloc o).drew.heap.size = X.heap.size + 1 := alloc_size X o
  omega
theorem ek1 {X w9 : World} {u v : Value} {T : TypeId} (h : Below (X.alloc (.cells #[u, v] T)).drew.heap.size (X.alloc (.cells #[u, v] T)).drew w9) : w9.heap[X.heap.size]? = some (.cells #[u, v] T (0, 0)) := by
  rw [h.block _ (by show X.heap.size < (X.alloc _).heap.size; rw [alloc_size]; omega)]; exact heap_alloc_new _ _
theorem ek5 {X w9 : World} {o' : Obj} {u v : Value} {T : TypeId} (h : Below ((X.alloc o').alloc (.cells #[u, v] T)).drew.heap.size ((X.alloc o').alloc (.cells #[u, v] T)).drew w9) : w9.heap[X.heap.size + 1]? = some (.cells #[u, v] T (0, 0)) := by
  have := ek1 h
  rw [alloc_size] at this; exact this
theorem ek2 {X w9 : World} {o : Obj} {u v : Value} {T : TypeId} (h : Below ((X.alloc (.cells #[u, v] T)).alloc o).drew.heap.size ((X.alloc (.cells #[u, v] T)).alloc o).drew w9) : w9.heap[X.heap.size]? = some (.cells #[u, v] T (0, 0)) := by
  rw [h.block _ (by show X.heap.size < ((X.alloc _).alloc _).heap.size; rw [alloc_size, alloc_size]; omega)]
  show ((X.heap.push _).push o)[X.heap.size]? = _
  rw [Array.getElem?_push_lt (by simp)]; simp
/-- A key's block and a fault's, both made by the call. -/
structure KP (w wx : World) (qk qf : Nat) (u v : Value) (C K : Int) : Prop where
  below : Below w.heap.size w wx
  lk : w.heap.size ≤ qk
  lf : w.heap.size ≤ qf
  k : wx.heap[qk]? = some (keyO u v)
  f : wx.heap[qf]? = some (fvO C K)
/-- What stood behind the call, below. -/
def Same9 (w w9 wx : World) : Prop := ∀ g, w.heap.size + 2 ≤ g → g < w9.heap.size → wx.heap[g]? = w9.heap[g]?
theorem al_lt {w : World} {o : Obj} {g : Nat} (h : g < w.heap.size) : (w.alloc o).heap[g]? = w.heap[g]? := (World.grownBy_alloc w o none).block g h (by simp)
theorem sc2 {w : World} {q g : Nat} {u v : Value} (h : g ≠ q) : ((w.setCell ⟨q, 0, none⟩ u).setCell ⟨q, 1, none⟩ v).heap[g]? = w.heap[g]? := by rw [heap_setCell_other _ _ _ _ h, heap_setCell_other _ _ _ _ h]
theorem sc2s {w : World} {q : Nat} {u v x y : Value} {T : TypeId} (h : w.heap[q]? = some (.cells #[x, y] T (0, 0))) : ((w.setCell ⟨q, 0, none⟩ u).setCell ⟨q, 1, none⟩ v).heap[q]? = some (.cells #[u, v] T (0, 0)) := heap_setCell_same _ _ _ _ _ _ (heap_setCell_same _ _ _ _ _ _ h)
section
variable {w w9 : World} {u v : Value} {C K : Int}
theorem kpa (h : Below w.heap.size w w9) : KP w ((w9.alloc (keyO u v)).alloc (fvO C K)) w9.heap.size (w9.heap.size + 1) u v C K ∧ Same9 w w9 ((w9.alloc (keyO u v)).alloc (fvO C K)) :=
  ⟨⟨bal (bal h _) _, h.size, Nat.le_succ_of_le h.size, (al_lt (by rw [alloc_size]; omega)).trans (heap_alloc_new _ _), by rw [← alloc_size w9 (keyO u v)]; exact heap_alloc_new _ _⟩, fun g _ hg => (al_lt (by rw [alloc_size]; omega)).trans (al_lt hg)⟩
theorem kpb (h : Below w.heap.size w w9) : KP w ((w9.alloc (fvO C K)).alloc (keyO u v)) (w9.heap.size + 1) w9.heap.size u v C K ∧ Same9 w w9 ((w9.alloc (fvO C K)).alloc (keyO u v)) :=
  ⟨⟨bal (bal h _) _, Nat.le_succ_of_le h.size, h.size, by rw [← alloc_size w9 (fvO C K)]; exact heap_alloc_new _ _, (al_lt (by rw [alloc_size]; omega)).trans (heap_alloc_new _ _)⟩, fun g _ hg => (al_lt (by rw [alloc_size]; omega)).trans (al_lt hg)⟩
theorem early1 {o : Obj} (h : Below (w.alloc o).drew.heap.size (w.alloc o).drew w9) : Below w.heap.size w w9 ∧ w.heap.size < w9.heap.size := by
  have h2 : (w.alloc o).drew.heap.size = w.heap.size + 1 := alloc_size w o
  have h1 := h.size
  exact ⟨below_tr ((Below.refl _ _).alloc (Nat.le_refl _) o).drew h, by omega⟩
theorem early2 {o o' : Obj} (h : Below ((w.alloc o).alloc o').drew.heap.size ((w.alloc o).alloc o').drew w9) : Below w.heap.size w w9 ∧ w.heap.size + 1 < w9.heap.size := by
  have h2 : ((w.alloc o).alloc o').drew.heap.size = w.heap.size + 1 + 1 := (alloc_size (w.alloc o) o').trans (by rw [alloc_size])
  have h1 := h.size
  exact ⟨below_tr (bal (bal (Below.refl _ _) o) o').drew h, by omega⟩
theorem bs2 {wx : World} {q : Nat} (h : Below w.heap.size w wx) (hq : w.heap.size ≤ q) (u v : Value) : Below w.heap.size w ((wx.setCell ⟨q, 0, none⟩ u).setCell ⟨q, 1, none⟩ v) := (h.setCell hq _).setCell hq _
theorem kpc (h : Below (w.alloc keyZ).drew.heap.size (w.alloc keyZ).drew w9) : KP w ((((w9.alloc ftO).setCell ⟨w.heap.size, 0, none⟩ u).setCell ⟨w.heap.size, 1, none⟩ v).setCell ⟨w9.heap.size, 0, none⟩ (.int .i64 C) |>.setCell ⟨w9.heap.size, 1, none⟩ (.int .i64 K)) w.heap.size w9.heap.size u v C K ∧
    Same9 w w9 ((((w9.alloc ftO).setCell ⟨w.heap.size, 0, none⟩ u).setCell ⟨w.heap.size, 1, none⟩ v).setCell ⟨w9.heap.size, 0, none⟩ (.int .i64 C) |>.setCell ⟨w9.heap.size, 1, none⟩ (.int .i64 K)) := by
  obtain ⟨h1, h2⟩ := early1 h
  refine ⟨⟨bs2 (bs2 (bal h1 _) (Nat.le_refl _) _ _) h1.size _ _, Nat.le_refl _, h1.size, ?_, ?_⟩, fun g hg1 hg2 => ?_⟩
  · rw [sc2 (by omega)]; exact sc2s ((al_lt h2).trans (ek1 h))
  · exact sc2s ((sc2 (by omega)).trans (heap_alloc_new _ _))
  · rw [sc2 (by omega), sc2 (by omega), al_lt hg2]
theorem kpd (h : Below ((w.alloc keyZ).alloc ftO).drew.heap.size ((w.alloc keyZ).alloc ftO).drew w9) : KP w (((w9.setCell ⟨w.heap.size, 0, none⟩ u).setCell ⟨w.heap.size, 1, none⟩ v).setCell ⟨w.heap.size + 1, 0, none⟩ (.int .i64 C) |>.setCell ⟨w.heap.size + 1, 1, none⟩ (.int .i64 K)) w.heap.size (w.heap.size + 1) u v C K ∧
    Same9 w w9 (((w9.setCell ⟨w.heap.size, 0, none⟩ u).setCell ⟨w.heap.size, 1, none⟩ v).setCell ⟨w.heap.size + 1, 0, none⟩ (.int .i64 C) |>.setCell ⟨w.heap.size + 1, 1, none⟩ (.int .i64 K)) := by
  obtain ⟨h1, h2⟩ := early2 h
  refine ⟨⟨bs2 (bs2 h1 (Nat.le_refl _) _ _) (Nat.le_succ _) _ _, Nat.le_refl _, Nat.le_succ _, ?_, ?_⟩, fun g hg1 hg2 => ?_⟩
  · rw [sc2 (by omega)]; exact sc2s (ek2 h)
  · exact sc2s ((sc2 (by omega)).trans (ek5 h))
  · rw [sc2 (by omega), sc2 (by omega)]
theorem kpe (h : Below (w.alloc ftO).drew.heap.size (w.alloc ftO).drew w9) : KP w (((w9.alloc (keyO u v)).setCell ⟨w.heap.size, 0, none⟩ (.int .i64 C)).setCell ⟨w.heap.size, 1, none⟩ (.int .i64 K)) w9.heap.size w.heap.size u v C K ∧
    Same9 w w9 (((w9.alloc (keyO u v)).setCell ⟨w.heap.size, 0, none⟩ (.int .i64 C)).setCell ⟨w.heap.size, 1, none⟩ (.int .i64 K)) := by
  obtain ⟨h1, h2⟩ := early1 h
  refine ⟨⟨bs2 (bal h1 _) (Nat.le_refl _) _ _, h1.size, Nat.le_refl _, ?_, ?_⟩, fun g hg1 hg2 => ?_⟩
  · rw [sc2 (by omega)]; exact heap_alloc_new _ _
  · exact sc2s ((al_lt h2).trans (ek1 h))
  · rw [sc2 (by omega), al_lt hg2]
theorem kpf (h : Below ((w.alloc ftO).alloc keyZ).drew.heap.size ((w.alloc ftO).alloc keyZ).drew w9) : KP w (((w9.setCell ⟨w.heap.size + 1, 0, none⟩ u).setCell ⟨w.heap.size + 1, 1, none⟩ v).setCell ⟨w.heap.size, 0, none⟩ (.int .i64 C) |>.setCell ⟨w.heap.size, 1, none⟩ (.int .i64 K)) (w.heap.size + 1) w.heap.size u v C K ∧
    Same9 w w9 (((w9.setCell ⟨w.heap.size + 1, 0, none⟩ u).setCell ⟨w.heap.size + 1, 1, none⟩ v).setCell ⟨w.heap.size, 0, none⟩ (.int .i64 C) |>.setCell ⟨w.heap.size, 1, none⟩ (.int .i64 K)) := by
  obtain ⟨h1, h2⟩ := early2 h
  refine ⟨⟨bs2 (bs2 h1 (Nat.le_succ _) _ _) (Nat.le_refl _) _ _, Nat.le_succ _, Nat.le_refl _, ?_, ?_⟩, fun g hg1 hg2 => ?_⟩
  · rw [sc2 (by omega)]; exact sc2s (ek5 h)
  · exact sc2s ((sc2 (by omega)).trans (ek2 h))
  · rw [sc2 (by omega), sc2 (by omega)]
end
/-- A key's rows in memory; nothing is said of a key that there is not. -/
def RowP (base : Nat) (w : World) (A1 A2 : Option Addr) (n : Nat) (r : KR) : Prop := match r with
  | .ok k _ => n = k.length ∧ ∃ (gA gB : Nat) (cA cB : Array Value), A1 = some ⟨gA, 0, none⟩ ∧ A2 = some ⟨gB, 0, none⟩ ∧ base ≤ gA ∧ base ≤ gB ∧ w.heap[gA]? = some (.cells cA 9 (0, 0)) ∧ w.heap[gB]? = some (.cells cB 40 (0, 0)) ∧ cA.toList.take k.length = Ty.kwC k ∧ cB.toList.take (k.length * 2) = Ty.ksC k
  | _ => True
theorem own_blk {w : World} {base size n c : Nat} {T : TypeId} {A : Option Addr} {xs : List Value} (h : w.ownsRow base T size (.slice A n c) n xs) (hn : 0 < n) : ∃ (g : Nat) (cur : Array Value), A = some ⟨g, 0, none⟩ ∧ base ≤ g ∧ w.heap[g]? = some (.cells cur T (0, 0)) ∧ cur.toList.take (n * size) = xs := by
  rcases h.2 with ⟨_, e⟩ | ⟨g, cap, cur, e, hb, hg, _, _, _, h4⟩
  · omega
  · injection e with e _ _
    exact ⟨g, cur, e, hb, hg, h4⟩
theorem RowP.on {w w9 wx : World} {A1 A2 : Option Addr} {n base : Nat} {r : KR} (h : RowP base w9 A1 A2 n r) (hb : w.heap.size + 2 ≤ base) (hs : Same9 w w9 wx) : RowP base wx A1 A2 n r := by
  unfold RowP at h ⊢
  cases r with
  | ok k e =>
    obtain ⟨h1, gA, gB, cA, cB, e1, e2, b1, b2, h2, h3, h4, h5⟩ := h
    exact ⟨h1, gA, gB, cA, cB, e1, e2, b1, b2, (hs gA (by omega) (lt_blk h2)).trans h2, (hs gB (by omega) (lt_blk h3)).trans h3, h4, h5⟩
  | bad c a => trivial
  | out => trivial
/-- What reading a key told, in letters. -/
theorem key_let {w wx : World} {S : ByteArray} {r : KR} {p : Nat} (h : Calls Tryz.prog 130 #[.string S, .int .i64 (p : Nat)] wx (Ty.KPost wx r)) (hb : Below w.heap.size w wx) {N C K : Nat}
    (hr : (∃ k, r = .ok k N ∧ k ≠ [] ∧ C = 0 ∧ K = 0) ∨ (r = .bad C K ∧ N = 0)) :
    Calls Tryz.prog 130 #[.string S, .int .i64 (p : Nat)] wx fun e w' => ∃ (A1 A2 : Option Addr) (n : Nat), e = .returned (.tuple #[.agg #[.slice A1 n n, .slice A2 n n], .int .i64 (N : Nat), .agg #[.int .i64 (C : Nat), .int .i64 (K : Nat)]]) ∧ Below wx.heap.size wx w' ∧ RowP (w.heap.size + 2) w' A1 A2 n r := by
  refine h.mono fun e w' hk => ?_
  rcases hr with ⟨k, rfl, hk0, rfl, rfl⟩ | ⟨rfl, rfl⟩
  · obtain ⟨h1, A, B, cA, cB, rfl, oA, oB⟩ := hk
    have hn : 0 < k.length := List.length_pos_iff.2 hk0
    obtain ⟨gA, cuA, rfl, bA, hA, tA⟩ := own_blk oA hn
    obtain ⟨gB, cuB, rfl, bB, hB, tB⟩ := own_blk oB hn
    have := hb.size
    exact ⟨_, _, _, rfl, h1, rfl, gA, gB, cuA, cuB, rfl, rfl, by omega, by omega, hA, hB, by rw [Nat.mul_one] at tA; exact tA, tB⟩
  · obtain ⟨h1, rfl⟩ := hk
    exact ⟨none, none, 0, rfl, h1, trivial⟩
section
variable {G : List (Nat × Obj)} {W w w' : World} {B P M : Nat} {S : ByteArray} {s : St} {tv : Value} {lab : Nat → Own} {X : List Nx} {p b : Nat} {E : Env}
/-- What a pair tells. -/
def pairR (E : Env) (f n : Nat) (s : St) (ar : Nat) : Rs := match E.kd s.a with
  | .bad c a => .bad c a
  | .out => .out
  | .ok k e => match lead k n (ar + 1) s with
    | .bad c a => .bad c a
    | .out => .out
    | .ok s1 => if bt E.l (endP blK E.l e) = 61 then val E f { s1 with a := endP blK E.l (endP blK E.l e + 1) } (ar + k.length) else .bad 3 (endP blK E.l e)
/-- value, with so many steps. -/
def ValC (W : World) (B P M : Nat) (S : ByteArray) (E : Env) (f : Nat) : Prop :=
  ∀ (G : List (Nat × Obj)) (w : World) (s : St) (tv : Value) (lab : Nat → Own) (X : List Nx) (p b ar : Nat), p ≤ 1 → b ≤ s.a → s.a ≤ E.l.length → 2 * (E.l.length - s.a) + 1 ≤ f → VP G W w B P M S s tv 0 0 lab X p b →
    Calls Tryz.prog 26 #[.pointer (some ⟨P, 0, none⟩), .int .i64 (ar : Nat)] w (VOut G W B P M S E.l.length s.a (val E f s ar))
set_option maxHeartbeats 64000000 in
set_option maxRecDepth 100000 in
theorem pair_any {f n ar : Nat} (HVC : ValC W B P M S E f) (H : EnvC W B E S) (h : VP G W w B P M S s tv 0 0 lab X 0 b) (hbs : b ≤ s.a) (ha : s.a ≤ E.l.length) (hn : n < s.X.length) (hf : 2 * (E.l.length - s.a) + 1 ≤ f) (har : ar < 256) {y1 y2 : Int} (hy1 : y1 = n) (hy2 : y2 = ((ar + 1 : Nat) : Int)) :
    Calls Tryz.prog 109 #[.pointer (some ⟨P, 0, none⟩), .int .i64 y1, .int .i64 y2] w (VOut G W B P M S E.l.length s.a (pairR E f n s ar)) := by
  subst hy1; subst hy2
  obtain ⟨_, _, c2, c3, _⟩ := h.cells
  have hP := h.plt
  have c2' : ∀ o, (w.alloc o).cell? ⟨P, 2, none⟩ = _ := fun o => (World.cell?_alloc_lt _ _ _ hP).trans c2
  have c3' : ∀ o, (w.alloc o).cell? ⟨P, 3, none⟩ = _ := fun o => (World.cell?_alloc_lt _ _ _ hP).trans c3
  have c2'' : ∀ o o', ((w.alloc o).alloc o').cell? ⟨P, 2, none⟩ = _ := fun o o' => (World.cell?_alloc_lt _ _ _ (by rw [alloc_size]; show P < _; omega)).trans (c2' o)
  have c3'' : ∀ o o', ((w.alloc o).alloc o').cell? ⟨P, 3, none⟩ = _ := fun o o' => (World.cell?_alloc_lt _ _ _ (by rw [alloc_size]; show P < _; omega)).trans (c3' o)
  have HV := Lib.hid h
  obtain ⟨N, C, K, HC⟩ : ∃ N C K : Nat, Hid ((∃ k, E.kd s.a = .ok k N ∧ k ≠ [] ∧ C = 0 ∧ K = 0) ∨ (E.kd s.a = .bad C K ∧ N = 0)) := by
    cases hkd : E.kd s.a with
    | ok k e => exact ⟨e, 0, 0, Lib.hid (.inl ⟨k, rfl, (H.keyOk _ _ _ ha hkd).1, rfl, rfl⟩)⟩
    | bad c a => exact ⟨0, c, a, Lib.hid (.inr ⟨rfl, rfl⟩)⟩
    | out =>
      have := H.keyOut s.a ha
      exact absurd hkd this
  have CR := Lib.hid (fun (wx : World) (hb : Below w.heap.size w wx) => key_let (H.key s.a ha wx (h.bel hb)) hb HC.out)
  have HE := Lib.hid H
  have HVC' := Lib.hid HVC
  have HA := Lib.hid (And.intro hbs (And.intro ha (And.intro hn hf)))
  clear h H HVC hbs ha hn hf
  go_enter Tryz.func109, Tryz.ntmps109
  go_upto_region 1 with fail
  go_cut [7, 8, 9] from 7 to 23 (fun s7 s8 s9 wx => s8 = .int .i64 (N : Nat) ∧ ∃ (qk qf : Nat) (A1 A2 : Option Addr) (n1 : Nat), s7 = .pointer (some ⟨qk, 0, none⟩) ∧ s9 = .pointer (some ⟨qf, 0, none⟩) ∧ Hid (KP w wx qk qf (.slice A1 n1 n1) (.slice A2 n1 n1) (C : Nat) (K : Nat) ∧ RowP (w.heap.size + 2) wx A1 A2 n1 (E.kd s.a)))
  case first =>
    go_region_with (go_at_call 130; refine (CR.out _ (by first | exact (Below.refl _ _).drew | exact (bal (Below.refl _ _) _).drew | exact (bal (bal (Below.refl _ _) _) _).drew | exact bal (Below.refl _ _) _ | exact Below.refl _ _)).mono ?_; rintro e w9 ⟨A1, A2, n1, rfl, hb, hrow⟩; (try have zk1 : (w9.cell? ⟨w.heap.size, 0, none⟩ = some (.slice none 0 0) ∧ w9.cell? ⟨w.heap.size, 1, none⟩ = some (.slice none 0 0) ∧ w9.frozen? ⟨w.heap.size, 0, none⟩ = false ∧ w9.frozen? ⟨w.heap.size, 1, none⟩ = false) ∧ ((∀ o, (w9.alloc o).cell? ⟨w.heap.size, 0, none⟩ = some (.slice none 0 0)) ∧ (∀ o, (w9.alloc o).cell? ⟨w.heap.size, 1, none⟩ = some (.slice none 0 0)) ∧ (∀ o, (w9.alloc o).frozen? ⟨w.heap.size, 0, none⟩ = false) ∧ (∀ o, (w9.alloc o).frozen? ⟨w.heap.size, 1, none⟩ = false)) := ek0 (ek1 hb)); (try have zf1 : (w9.cell? ⟨w.heap.size, 0, none⟩ = some (.int .i64 0) ∧ w9.cell? ⟨w.heap.size, 1, none⟩ = some (.int .i64 0) ∧ w9.frozen? ⟨w.heap.size, 0, none⟩ = false ∧ w9.frozen? ⟨w.heap.size, 1, none⟩ = false) ∧ ((∀ o, (w9.alloc o).cell? ⟨w.heap.size, 0, none⟩ = some (.int .i64 0)) ∧ (∀ o, (w9.alloc o).cell? ⟨w.heap.size, 1, none⟩ = some (.int .i64 0)) ∧ (∀ o, (w9.alloc o).frozen? ⟨w.heap.size, 0, none⟩ = false) ∧ (∀ o, (w9.alloc o).frozen? ⟨w.heap.size, 1, none⟩ = false)) := ek0 (ek1 hb)); (try have zk2 : (w9.cell? ⟨w.heap.size, 0, none⟩ = some (.slice none 0 0) ∧ w9.cell? ⟨w.heap.size, 1, none⟩ = some (.slice none 0 0) ∧ w9.frozen? ⟨w.heap.size, 0, none⟩ = false ∧ w9.frozen? ⟨w.heap.size, 1, none⟩ = false) ∧ ((∀ o, (w9.alloc o).cell? ⟨w.heap.size, 0, none⟩ = some (.slice none 0 0)) ∧ (∀ o, (w9.alloc o).cell? ⟨w.heap.size, 1, none⟩ = some (.slice none 0 0)) ∧ (∀ o, (w9.alloc o).frozen? ⟨w.heap.size, 0, none⟩ = false) ∧ (∀ o, (w9.alloc o).frozen? ⟨w.heap.size, 1, none⟩ = false)) := ek0 (ek2 hb)); (try have zf2 : (w9.cell? ⟨w.heap.size, 0, none⟩ = some (.int .i64 0) ∧ w9.cell? ⟨w.heap.size, 1, none⟩ = some (.int .i64 0) ∧ w9.frozen? ⟨w.heap.size, 0, none⟩ = false ∧ w9.frozen? ⟨w.heap.size, 1, none⟩ = false) ∧ ((∀ o, (w9.alloc o).cell? ⟨w.heap.size, 0, none⟩ = some (.int .i64 0)) ∧ (∀ o, (w9.alloc o).cell? ⟨w.heap.size, 1, none⟩ = some (.int .i64 0)) ∧ (∀ o, (w9.alloc o).frozen? ⟨w.heap.size, 0, none⟩ = false) ∧ (∀ o, (w9.alloc o).frozen? ⟨w.heap.size, 1, none⟩ = false)) := ek0 (ek2 hb)); (try have zf3 : (w9.cell? ⟨w.heap.size + 1, 0, none⟩ = some (.int .i64 0) ∧ w9.cell? ⟨w.heap.size + 1, 1, none⟩ = some (.int .i64 0) ∧ w9.frozen? ⟨w.heap.size + 1, 0, none⟩ = false ∧ w9.frozen? ⟨w.heap.size + 1, 1, none⟩ = false) ∧ ((∀ o, (w9.alloc o).cell? ⟨w.heap.size + 1, 0, none⟩ = some (.int .i64 0)) ∧ (∀ o, (w9.alloc o).cell? ⟨w.heap.size + 1, 1, none⟩ = some (.int .i64 0)) ∧ (∀ o, (w9.alloc o).frozen? ⟨w.heap.size + 1, 0, none⟩ = false) ∧ (∀ o, (w9.alloc o).frozen? ⟨w.heap.size + 1, 1, none⟩ = false)) := ek0 (ek5 hb)); (try have zk3 : (w9.cell? ⟨w.heap.size + 1, 0, none⟩ = some (.slice none 0 0) ∧ w9.cell? ⟨w.heap.size + 1, 1, none⟩ = some (.slice none 0 0) ∧ w9.frozen? ⟨w.heap.size + 1, 0, none⟩ = false ∧ w9.frozen? ⟨w.heap.size + 1, 1, none⟩ = false) ∧ ((∀ o, (w9.alloc o).cell? ⟨w.heap.size + 1, 0, none⟩ = some (.slice none 0 0)) ∧ (∀ o, (w9.alloc o).cell? ⟨w.heap.size + 1, 1, none⟩ = some (.slice none 0 0)) ∧ (∀ o, (w9.alloc o).frozen? ⟨w.heap.size + 1, 0, none⟩ = false) ∧ (∀ o, (w9.alloc o).frozen? ⟨w.heap.size + 1, 1, none⟩ = false)) := ek0 (ek5 hb)); (try (have z3 : w9.heap.size ≠ w.heap.size := lt_early hb; obtain ⟨e31, e32, e33, e34⟩ := ek3 (w9 := w9) (q := w.heap.size) (r := w9.heap.size) z3)); (try obtain ⟨e41, e42, e43, e44⟩ := ek4 (w9 := w9) (q := w.heap.size) (r := w.heap.size + 1) (by omega)); (try obtain ⟨e51, e52, e53, e54⟩ := ek4 (w9 := w9) (q := w.heap.size + 1) (r := w.heap.size) (by omega)); (try obtain ⟨⟨yk11, yk12, yk13, yk14⟩, yk15, yk16, yk17, yk18⟩ := zk1); (try obtain ⟨⟨yf11, yf12, yf13, yf14⟩, yf15, yf16, yf17, yf18⟩ := zf1); (try obtain ⟨⟨yk21, yk22, yk23, yk24⟩, yk25, yk26, yk27, yk28⟩ := zk2); (try obtain ⟨⟨yf21, yf22, yf23, yf24⟩, yf25, yf26, yf27, yf28⟩ := zf2); (try obtain ⟨⟨yf31, yf32, yf33, yf34⟩, yf35, yf36, yf37, yf38⟩ := zf3); (try obtain ⟨⟨yk31, yk32, yk33, yk34⟩, yk35, yk36, yk37, yk38⟩ := zk3))
    all_goals
      go_wp2_with fail
      go_meet
      first
      | (have q := kpa (u := .slice A1 n1 n1) (v := .slice A2 n1 n1) (C := (C : Nat)) (K := (K : Nat)) (below_tr (Below.refl _ _).drew hb); exact ⟨rfl, _, _, _, _, _, rfl, rfl, Lib.hid ⟨q.1, hrow.on (Nat.le_refl _) q.2⟩⟩)
      | (have q := kpb (u := .slice A1 n1 n1) (v := .slice A2 n1 n1) (C := (C : Nat)) (K := (K : Nat)) (below_tr (Below.refl _ _).drew hb); exact ⟨rfl, _, _, _, _, _, rfl, rfl, Lib.hid ⟨q.1, hrow.on (Nat.le_refl _) q.2⟩⟩)
      | (have q := kpc (u := .slice A1 n1 n1) (v := .slice A2 n1 n1) (C := (C : Nat)) (K := (K : Nat)) hb; exact ⟨rfl, _, _, _, _, _, rfl, rfl, Lib.hid ⟨q.1, hrow.on (Nat.le_refl _) q.2⟩⟩)
      | (have q := kpd (u := .slice A1 n1 n1) (v := .slice A2 n1 n1) (C := (C : Nat)) (K := (K : Nat)) hb; exact ⟨rfl, _, _, _, _, _, rfl, rfl, Lib.hid ⟨q.1, hrow.on (Nat.le_refl _) q.2⟩⟩)
      | (have q := kpe (u := .slice A1 n1 n1) (v := .slice A2 n1 n1) (C := (C : Nat)) (K := (K : Nat)) hb; exact ⟨rfl, _, _, _, _, _, rfl, rfl, Lib.hid ⟨q.1, hrow.on (Nat.le_refl _) q.2⟩⟩)
      | (have q := kpf (u := .slice A1 n1 n1) (v := .slice A2 n1 n1) (C := (C : Nat)) (K := (K : Nat)) hb; exact ⟨rfl, _, _, _, _, _, rfl, rfl, Lib.hid ⟨q.1, hrow.on (Nat.le_refl _) q.2⟩⟩)
  case rest =>
    obtain ⟨rfl, qk, qf, A1, A2, n1, rfl, rfl, HQ⟩ := hcut
    have HK := Lib.hid HQ.out.1
    have HROW := Lib.hid HQ.out.2
    have hkf := HQ.out.1.f
    have q0 : wc.cell? ⟨qf, 0, none⟩ = some (.int .i64 (C : Nat)) := by simp [World.cell?, hkf]
    have q1 : wc.cell? ⟨qf, 1, none⟩ = some (.int .i64 (K : Nat)) := by simp [World.cell?, hkf]
    clear hkf HQ c2 c3 c2' c3' c2'' c3''
    rcases HC.out with ⟨k, hkd, hk0, rfl, rfl⟩ | ⟨hkd, rfl⟩
    case inr =>
      have hC0 : ¬ ((C : Nat) : Int) = 0 := by have := HE.out.keyBad _ _ _ hkd; omega
      have HV1 := Lib.hid (HV.out.on HK.out.below)
      have HF := Lib.hid (fail_any (c := C) (k := K) HV1.out (y1 := (C : Nat)) (y2 := (K : Nat)) rfl rfl)
      have HR := Lib.hid (show pairR E f n s ar = .bad C K by unfold pairR; rw [hkd])
      clear hkd
      go_wp2_with fail
      refine HF.out.mono ?_
      rintro e w2 ⟨rfl, V2⟩
      go_wp2_with fail
      go_ret
      rw [HR.out]
      exact ⟨rfl, V2.bad⟩
    have hrow := HROW.out
    rw [hkd] at hrow
    obtain ⟨hn1, gA, gB, cA, cB, eA, eB, bA, bB, hA, hB, tA, tB⟩ := hrow
    subst eA; subst eB
    obtain ⟨L, hL⟩ : ∃ L, k.length = L + 1 := ⟨k.length - 1, by have := List.length_pos_iff.2 hk0; omega⟩
    obtain rfl : n1 = L + 1 := by omega
    obtain ⟨_, hkN, hNl, hkw⟩ := HE.out.keyOk _ _ _ HA.out.2.1 hkd
    obtain ⟨G1, hG1⟩ : ∃ G1, G1 = [(qk, keyO (.slice (some ⟨gA, 0, none⟩) (L + 1) (L + 1)) (.slice (some ⟨gB, 0, none⟩) (L + 1) (L + 1))), (gA, Obj.cells cA 9 (0, 0)), (gB, Obj.cells cB 40 (0, 0))] ++ G := ⟨_, rfl⟩
    have hv1 := HV.out.guard (L := [(qk, keyO (.slice (some ⟨gA, 0, none⟩) (L + 1) (L + 1)) (.slice (some ⟨gB, 0, none⟩) (L + 1) (L + 1))), (gA, Obj.cells cA 9 (0, 0)), (gB, Obj.cells cB 40 (0, 0))]) HK.out.below (fun q hq => by
      simp only [List.mem_cons, List.not_mem_nil, or_false] at hq
      rcases hq with rfl | rfl | rfl
      · exact ⟨HK.out.lk, HK.out.k⟩
      · exact ⟨by show w.heap.size ≤ gA; omega, hA⟩
      · exact ⟨by show w.heap.size ≤ gB; omega, hB⟩)
    rw [← hG1] at hv1
    have HGS := Lib.hid (show ∀ q ∈ G, q ∈ G1 from fun q hq => by rw [hG1]; exact List.mem_append_right _ hq)
    have HKG := Lib.hid (show KeyG G1 gA gB k from ⟨⟨cA, by rw [hG1]; simp, tA⟩, cB, by rw [hG1]; simp, tB⟩)
    have HBX := Lib.hid (show (qk, keyO (.slice (some ⟨gA, 0, none⟩) (L + 1) (L + 1)) (.slice (some ⟨gB, 0, none⟩) (L + 1) (L + 1))) ∈ G1 by rw [hG1]; simp)
    have hl5 := HE.out.hl
    obtain ⟨d0, d1⟩ := hv1.boxc HBX.out
    obtain ⟨R, hR⟩ : ∃ R, R = lead k n (ar + 1) s := ⟨_, rfl⟩
    have HLD := Lib.hid (lead_any (t := n) (ar := ar + 1) hL hv1 HKG.out HA.out.2.2.1 (by have := HA.out.1; have := HA.out.2.1; omega) hkw (by omega) (y1 := (n : Nat)) (y2 := ((ar : Nat) : Int) + 1) rfl (by omega))
    rw [← hR] at HLD
    have HL := Lib.hid hL
    have HKD := Lib.hid hkd
    have HKN := Lib.hid (And.intro hkN hNl)
    have HR := Lib.hid hR
    have hNs : N ≤ 50000 := by omega
    have hL6 : L ≤ 50000 := by omega
    have HL5 := Lib.hid hl5
    clear hn1 hkd hk0 hA hB tA tB hL hkN hNl hkw hG1 hv1 hl5 hR bA bB
    go_wp2_with fail
    refine HLD.out.mono ?_
    intro e w2 hlo
    cases R with
    | out => exact absurd hlo (by unfold LOut; exact fun h => h)
    | bad c a =>
      obtain ⟨rfl, hbad⟩ := hlo
      have HB := Lib.hid hbad
      have HRR := Lib.hid (show pairR E f n s ar = .bad c a by unfold pairR; rw [HKD.out]; show (match lead k n (ar + 1) s with | .bad c a => Rs.bad c a | .out => .out | .ok s1 => _) = _; rw [← HR.out])
      clear hbad
      go_wp2_with fail
      go_ret
      rw [HRR.out]
      exact ⟨rfl, HB.out.less HGS.out⟩
    | ok s1 =>
      obtain ⟨rfl, hsa, tv2, lab2, X2, V2⟩ := hlo
      have c3 := V2.cells.2.2.2.1
      have z3 := V2.free 3
      have hv3 := V2.at_ (a' := N)
      have HSA := Lib.hid hsa
      have HV3 := Lib.hid hv3
      have BL := Lib.hid (blanks_r hv3 HE.out.hs HE.out.hl HKN.out.2)
      have HRR := Lib.hid (show pairR E f n s ar = if bt E.l (endP blK E.l N) = 61 then val E f { s1 with a := endP blK E.l (endP blK E.l N + 1) } (ar + k.length) else .bad 3 (endP blK E.l N) by
        unfold pairR; rw [HKD.out]; show (match lead k n (ar + 1) s with | .bad c a => Rs.bad c a | .out => .out | .ok s1 => _) = _; rw [← HR.out])
      clear V2 hv3 hsa d0 d1
      go_wp2_with fail
      refine BL.out.mono ?_
      rintro e w3 ⟨rfl, V3⟩
      obtain ⟨q, hq⟩ : ∃ q, q = endP blK E.l N := ⟨_, rfl⟩
      have hqN : N ≤ q := by rw [hq]; exact Ty.endP_ge ..
      have hql : q ≤ E.l.length := by rw [hq]; exact Ty.endP_le _ _ _ HKN.out.2
      try simp only at V3
      rw [← hq] at V3 HRR
      obtain ⟨x, hx⟩ : ∃ x, x = decide (bt E.l q = 61) := ⟨_, rfl⟩
      have TK := Lib.hid (takes_any V3 HE.out.hs HE.out.hl hql 61 hx)
      have HQ := Lib.hid (And.intro hqN hql)
      clear V3 hq hqN hql
      go_wp2_with fail
      refine TK.out.mono ?_
      rintro e w4 ⟨rfl, V4⟩
      cases x with
      | false =>
        rw [if_neg (by decide)] at V4
        have HV4 := Lib.hid V4
        have c3 := V4.cells.2.2.2.1
        have HF := Lib.hid (fail_any (c := 3) (k := q) V4 (y1 := 3) (y2 := (q : Nat)) rfl rfl)
        have HR3 := Lib.hid (HRR.out.trans (if_neg (of_decide_eq_false hx.symm)))
        clear V4 hx
        go_wp2_with fail
        refine HF.out.mono ?_
        rintro e w5 ⟨rfl, V5⟩
        go_wp2_with fail
        go_ret
        rw [HR3.out]
        exact ⟨rfl, V5.bad.less HGS.out⟩
      | true =>
        rw [if_pos rfl] at V4
        have h61 := of_decide_eq_true hx.symm
        have hq1 := bt_in h61 (by decide)
        have HR3 := Lib.hid (HRR.out.trans (if_pos h61))
        have BL2 := Lib.hid (blanks_r V4 HE.out.hs HE.out.hl (by show q + 1 ≤ E.l.length; omega))
        have HQ1 := Lib.hid hq1
        clear V4 hx h61 hq1
        go_wp2_with fail
        refine BL2.out.mono ?_
        rintro e w5 ⟨rfl, V5⟩
        obtain ⟨q2, hq2⟩ : ∃ q2, q2 = endP blK E.l (q + 1) := ⟨_, rfl⟩
        have hqq : q + 1 ≤ q2 := by rw [hq2]; exact Ty.endP_ge ..
        have hql2 : q2 ≤ E.l.length := by rw [hq2]; exact Ty.endP_le _ _ _ HQ1.out
        try simp only at V5
        rw [← hq2] at V5 HR3
        obtain ⟨d0, d1⟩ := V5.boxc HBX.out
        have HQ2 := Lib.hid (And.intro hqq hql2)
        have HVAL := Lib.hid (fun (y : Int) (hy : y = ((ar + k.length : Nat) : Int)) => show Calls Tryz.prog 26 #[.pointer (some ⟨P, 0, none⟩), .int .i64 y] w5 (VOut G1 W B P M S E.l.length q2 (val E f { s1 with a := q2 } (ar + k.length))) from by
          subst hy
          have h1 := HA.out
          have h2 := HKN.out
          have h3 := HQ.out
          have h4 := HL.out
          exact HVC'.out G1 w5 { s1 with a := q2 } tv2 lab2 X2 1 (b + L) (ar + k.length) (Nat.le_refl _) (by show b + L ≤ q2; omega) hql2 (by show 2 * (E.l.length - q2) + 1 ≤ f; omega) V5)
        clear V5 hq2 hqq hql2
        go_wp2_with fail
        refine (HVAL.out _ (by have := HL.out; omega)).mono ?_
        intro e w6 hvo
        have h2 := HKN.out
        have h3 := HQ.out
        have h4 := HQ2.out
        cases hr : val E f { s1 with a := q2 } (ar + k.length) with
        | out => rw [hr] at hvo; exact absurd hvo (by unfold VOut; exact fun h => h)
        | bad c a =>
          rw [hr] at hvo HR3
          obtain ⟨rfl, hbad⟩ := hvo
          have HB := Lib.hid hbad
          clear hbad hr
          go_wp2_with fail
          go_ret
          rw [HR3.out]
          exact ⟨rfl, HB.out.less HGS.out⟩
        | ok s2 =>
          rw [hr] at hvo HR3
          obtain ⟨rfl, ⟨tv6, lab6, X6, V6⟩, h5, h6⟩ := hvo
          have HV6 := Lib.hid V6
          have H56 := Lib.hid (And.intro h5 h6)
          have H234 := Lib.hid (And.intro h2 (And.intro h3 h4))
          clear V6 h5 h6 h2 h3 h4 hr
          go_wp2_with fail
          go_ret
          rw [HR3.out]
          have h5 := H56.out
          have h2 := H234.out
          have h7 := HL.out
          exact ⟨rfl, ⟨_, _, _, HV6.out.less HGS.out⟩, by omega, h5.2⟩

end
end Tv
end Go.Proofs.YtbeefjhcbphiaaaGreatDoor
