/- The document's parser in memory: its object, and its smallest functions. -/
import Derived.Test.YtdclhepjoifpiaaGreatDoorKdm
import Derived.Test.YtdclhepjoifpiaaGreatDoorAz
import Derived.Deep.CutRange
import Derived.Deep.DeepCutAuto
namespace Go.Proofs.YtdclhepjoifpiaaGreatDoor
open Go.RowKit
namespace Jt
namespace R9
open Jk (lt_blk below_tr TkR)

abbrev rpO (bv lv : Value) (en : Nat × Nat) (a : Nat) (tv : Value) (fc fa : Nat) : Obj :=
  .cells #[bv, lv, .int .i64 (en.1 : Nat), .int .i64 (en.2 : Nat), .int .i64 (a : Nat), tv, .int .i64 0, .int .i64 (fc : Nat), .int .i64 (fa : Nat)] 68
/-- The document's parser between two calls: so many tokens are taken, these are the nodes so far. -/
structure RP (W w : World) (P : Nat) (bv lv : Value) (en : Nat × Nat) (a : Nat) (tv : Value) (fc fa : Nat) (lab : Nat → Own) (X : List Nx) : Prop where
  obj : w.heap[P]? = some (rpO bv lv en a tv fc fa)
  nt : NT w W.heap.size lab (fun _ => True) tv X
  keep : ∀ b, b < W.heap.size → b ≠ P → w.heap[b]? = W.heap[b]?
  below : Below P W w
  lt : P < W.heap.size
  few : X.length ≤ a ∧ ∀ (i : Nat) (x : Nx), X[i]? = some x → x.nd.keys.length ≤ a ∧ x.nd.spots.length ≤ a ∧ x.nd.subs.length ≤ a
theorem lt_cell2 {w : World} {b k : Nat} {v : Value} (h : w.cell? ⟨b, k, none⟩ = some v) : b < w.heap.size := World.block_lt_of_cell? _ _ h
theorem bdn {B : Nat} {a w : World} (h : Below B a w) (k : Nat) : Below B a (w.drewN k) := ⟨h.os, h.tape, h.output, h.size, h.block⟩
/-- What the parser reads: the text, its tokens. -/
structure RE (W : World) (P : Nat) (l : Bs) (S : List Tok) (A AL : Option Addr) (n c N cL : Nat) : Prop where
  hb : Byt W P A l
  hn : n = l.length
  hc : n ≤ c
  hcm : c ≤ maxLen
  htk : TkR W (P + 1) .i64 72 AL N S
  hcl : N ≤ cL
  hclm : cL ≤ maxLen
  hsm : n ≤ 10000
  hsN : N ≤ 10000
  hok : ∀ t ∈ S, t.2.1 < t.2.2 ∧ t.2.2 ≤ l.length ∧ t.1 ≤ 4
section
variable {W w w' : World} {P : Nat} {bv lv tv : Value} {en : Nat × Nat} {a fc fa : Nat} {lab : Nat → Own} {X : List Nx}
theorem RP.size (h : RP W w P bv lv en a tv fc fa lab X) : W.heap.size ≤ w.heap.size := h.below.size
theorem RP.plt (h : RP W w P bv lv en a tv fc fa lab X) : P < w.heap.size := lt_blk h.obj
theorem RP.on (h : RP W w P bv lv en a tv fc fa lab X) (hb : Below w.heap.size w w') : RP W w' P bv lv en a tv fc fa lab X :=
  ⟨by rw [hb.block _ h.plt]; exact h.obj, h.nt.below hb, fun b h1 h2 => by rw [hb.block b (by have := h.size; omega)]; exact h.keep b h1 h2, h.below.trans (hb.mono (Nat.le_of_lt h.plt)), h.lt, h.few⟩
theorem RP.cells (h : RP W w P bv lv en a tv fc fa lab X) : w.cell? ⟨P, 0, none⟩ = some bv ∧ w.cell? ⟨P, 1, none⟩ = some lv ∧ w.cell? ⟨P, 2, none⟩ = some (.int .i64 (en.1 : Nat)) ∧ w.cell? ⟨P, 3, none⟩ = some (.int .i64 (en.2 : Nat)) ∧ w.cell? ⟨P, 4, none⟩ = some (.int .i64 (a : Nat)) ∧ w.cell? ⟨P, 5, none⟩ = some tv ∧ w.cell? ⟨P, 7, none⟩ = some (.int .i64 (fc : Nat)) ∧ w.cell? ⟨P, 8, none⟩ = some (.int .i64 (fa : Nat)) := by
  have := h.obj
  refine ⟨?_, ?_, ?_, ?_, ?_, ?_, ?_, ?_⟩ <;> simp [World.cell?, this]
theorem RP.free (h : RP W w P bv lv en a tv fc fa lab X) (k : Nat) : w.frozen? ⟨P, k, none⟩ = false := by simp [World.frozen?, h.obj]
/-- Cells of the object are stored. -/
theorem RP.turn {a' fc' fa' : Nat} (h : RP W w P bv lv en a tv fc fa lab X) (ho : w'.heap[P]? = some (rpO bv lv en a' tv fc' fa')) (hb : ∀ b, b ≠ P → w'.heap[b]? = w.heap[b]?) (hB : Below P w w') (ha : a ≤ a') : RP W w' P bv lv en a' tv fc' fa' lab X :=
  ⟨ho, h.nt.keep (fun k hk _ _ => hb k (by have := h.lt; omega)) (fun _ _ => rfl) (fun _ q => q), fun b h1 h2 => (hb b h2).trans (h.keep b h1 h2), h.below.trans hB, h.lt, Nat.le_trans h.few.1 ha, fun i x hx => by
    obtain ⟨q1, q2, q3⟩ := h.few.2 i x hx
    exact ⟨by omega, by omega, by omega⟩⟩
theorem RP.fault {c k : Nat} (h : RP W w P bv lv en a tv 0 0 lab X) : RP W ((w.setCell ⟨P, 7, none⟩ (.int .i64 (c : Nat))).setCell ⟨P, 8, none⟩ (.int .i64 (k : Nat))) P bv lv en a tv c k lab X := by
  refine h.turn (heap_setCell_same _ _ _ _ _ _ (heap_setCell_same _ _ _ _ _ _ h.obj)) (fun b hb => ?_) (((Below.refl P _).setCell (show P ≤ P from Nat.le_refl P) _).setCell (show P ≤ P from Nat.le_refl P) _) (Nat.le_refl _)
  rw [heap_setCell_other _ _ _ _ hb, heap_setCell_other _ _ _ _ hb]
theorem RP.next (h : RP W w P bv lv en a tv 0 0 lab X) : RP W (w.setCell ⟨P, 4, none⟩ (.int .i64 ((a + 1 : Nat) : Int))) P bv lv en (a + 1) tv 0 0 lab X := by
  refine h.turn (heap_setCell_same _ _ _ _ _ _ h.obj) (fun b hb => heap_setCell_other _ _ _ _ hb) ((Below.refl P _).setCell (show P ≤ P from Nat.le_refl P) _) (Nat.le_succ _)
variable {l : Bs} {S : List Tok} {A AL : Option Addr} {n c N cL : Nat}
theorem RE.on (h : RE W P l S A AL n c N cL) (R : RP W w P bv lv en a tv fc fa lab X) : Byt w P A l ∧ TkR w (P + 1) .i64 72 AL N S := by
  refine ⟨h.hb.below R.below, h.htk.1, fun h0 => ?_⟩
  obtain ⟨g, cur, e, hbg, hg, r⟩ := h.htk.2 h0
  exact ⟨g, cur, e, hbg, by rw [R.keep g (lt_blk hg) (by omega)]; exact hg, r⟩
set_option maxRecDepth 100000 in
theorem wrong_any {k1 k2 : Nat} (R : RP W w P bv lv en a tv 0 0 lab X) {y1 y2 : Int} (h1 : y1 = k1) (h2 : y2 = k2) :
    Calls Tryz.prog 25 #[.pointer (some ⟨P, 0, none⟩), .int .i64 y1, .int .i64 y2] w fun e w' => e = .returned (.bool false) ∧ RP W w' P bv lv en a tv k1 k2 lab X := by
  have c7 := R.cells.2.2.2.2.2.2.1
  have c8 := R.cells.2.2.2.2.2.2.2
  have z7 := R.free 7
  have z8 := R.free 8
  have HR := Lib.hid (R.fault (c := k1) (k := k2))
  subst h1; subst h2
  clear R
  go_enter Tryz.func25, Tryz.ntmps25
  go_wp2_with fail
  go_ret
  exact ⟨rfl, HR.out⟩
set_option maxRecDepth 100000 in
theorem more_yes (R : RP W w P bv (.slice AL N cL) en a tv fc fa lab X) (h : a < N) (_hN : N ≤ 10000) :
    Calls Tryz.prog 33 #[.pointer (some ⟨P, 0, none⟩)] w fun e w' => e = .returned (.bool true) ∧ Below w.heap.size w w' := by
  obtain ⟨_, c1, c2, c3, c4, _⟩ := R.cells
  clear R
  go_enter Tryz.func33, Tryz.ntmps33
  go_upto_region 1 with fail
  go_quiet (fail)
  go_wp2_with fail
  go_ret
  exact ⟨rfl, bdn (Below.refl _ _) _⟩
set_option maxRecDepth 100000 in
theorem more_no (R : RP W w P bv (.slice AL N cL) en a tv 0 0 lab X) (h : ¬ a < N) (_hN : N ≤ 10000) :
    Calls Tryz.prog 33 #[.pointer (some ⟨P, 0, none⟩)] w fun e w' => e = .returned (.bool false) ∧ RP W w' P bv (.slice AL N cL) en a tv en.1 en.2 lab X := by
  obtain ⟨_, c1, c2, c3, c4, _⟩ := R.cells
  have HW := Lib.hid (fun (wx : World) (hb : Below w.heap.size w wx) => wrong_any (k1 := en.1) (k2 := en.2) (R.on hb) rfl rfl)
  clear R
  go_enter Tryz.func33, Tryz.ntmps33
  go_upto_region 1 with fail
  go_quiet (fail)
  go_upto_region 3 with fail
  go_region_with (go_at_call 25; refine (HW.out _ (by first | exact bdn (Below.refl _ _) _ | exact (bdn (Below.refl _ _) _).drew)).mono ?_; rintro e w2 ⟨rfl, R2⟩)
  all_goals
    go_wp2_with fail
    go_ret
    exact ⟨rfl, R2⟩
end
end R9
end Jt
end Go.Proofs.YtdclhepjoifpiaaGreatDoor
