/- What landed: the next token. -/
import Derived.Test.YtfnahondlcbjnaaUb
import Derived.Test.YtfnahondlcbjnaaUe
import Derived.Test.YtfnahondlcbjnaaUg
import Derived.Test.YtfnahondlcbjnaaTn
import Derived.Test.YtfnahondlcbjnaaTf
import Derived.Laws.EntriesVeiled
namespace Go.Proofs.Ytfnahondlcbjnaa
open Go.RowKit
namespace Jk

/-- A token of what landed; its answers' blocks. -/
abbrev ltV (k i j : Int) : Value := .agg #[.int .u8 k, .int .i64 i, .int .i64 j]
abbrev ltO (k i j : Int) : Obj := .cells #[.int .u8 k, .int .i64 i, .int .i64 j] 36
/-- The answers' blocks: a token's, a fault's. -/
structure RL (w wx : World) (k i j c a : Int) : Prop where
  below : Below w.heap.size w wx
  r : wx.heap[w.heap.size]? = some (ltO k i j)
  v : wx.heap[w.heap.size + 1]? = some (fvO c a)
section
variable {w wx wy : World} {k i j c a k' i' j' c' a' : Int}
theorem RL.start : RL w ((w.alloc (ltO k i j)).alloc (fvO c a)) k i j c a := by
  refine ⟨((Below.refl _ _).alloc (Nat.le_refl _) _).alloc (by simp) _, ?_, ?_⟩
  · show ((w.heap.push _).push _)[w.heap.size]? = _
    rw [Array.getElem?_push, if_neg (by simp), Array.getElem?_push, if_pos rfl]
  · show ((w.heap.push _).push _)[w.heap.size + 1]? = _
    rw [Array.getElem?_push, if_pos (by simp)]
theorem RL.on (H : RL w wx k i j c a) (hb : Below wx.heap.size wx wy) : RL w wy k i j c a :=
  ⟨below_tr H.below hb, by rw [hb.block _ (lt_blk H.r)]; exact H.r, by rw [hb.block _ (lt_blk H.v)]; exact H.v⟩
theorem RL.cells (H : RL w wx k i j c a) : (wx.cell? ⟨w.heap.size, 0, none⟩ = some (.int .u8 k) ∧ wx.cell? ⟨w.heap.size, 1, none⟩ = some (.int .i64 i) ∧ wx.cell? ⟨w.heap.size, 2, none⟩ = some (.int .i64 j) ∧ wx.cell? ⟨w.heap.size + 1, 0, none⟩ = some (.int .i64 c) ∧ wx.cell? ⟨w.heap.size + 1, 1, none⟩ = some (.int .i64 a)) ∧
    wx.frozen? ⟨w.heap.size, 0, none⟩ = false ∧ wx.frozen? ⟨w.heap.size, 1, none⟩ = false ∧ wx.frozen? ⟨w.heap.size, 2, none⟩ = false ∧ wx.frozen? ⟨w.heap.size + 1, 0, none⟩ = false ∧ wx.frozen? ⟨w.heap.size + 1, 1, none⟩ = false := by
  simp [World.cell?, World.frozen?, H.r, H.v]
theorem RL.set (H : RL w wx k i j c a) : RL w (((((wx.setCell ⟨w.heap.size, 0, none⟩ (.int .u8 k')).setCell ⟨w.heap.size, 1, none⟩ (.int .i64 i')).setCell ⟨w.heap.size, 2, none⟩ (.int .i64 j')).setCell ⟨w.heap.size + 1, 0, none⟩ (.int .i64 c')).setCell ⟨w.heap.size + 1, 1, none⟩ (.int .i64 a')) k' i' j' c' a' := by
  have h1 := heap_setCell_same wx w.heap.size 0 _ _ (.int .u8 k') H.r
  have h2 := heap_setCell_same _ w.heap.size 1 _ _ (.int .i64 i') h1
  have h3 := heap_setCell_same _ w.heap.size 2 _ _ (.int .i64 j') h2
  have oth : ∀ (W : World) (p q n : Nat) (o : Obj) (u : Value), p ≠ q → W.heap[p]? = some o → (W.setCell ⟨q, n, none⟩ u).heap[p]? = some o := fun W p q n o u hpq hW => by
    rw [heap_setCell_other W ⟨q, n, none⟩ p u (by simpa using hpq)]; exact hW
  have g0 := oth _ (w.heap.size + 1) w.heap.size 2 _ (.int .i64 j') (by omega) (oth _ (w.heap.size + 1) w.heap.size 1 _ (.int .i64 i') (by omega) (oth _ (w.heap.size + 1) w.heap.size 0 _ (.int .u8 k') (by omega) H.v))
  have g1 := heap_setCell_same _ (w.heap.size + 1) 0 _ _ (.int .i64 c') g0
  have g2 := heap_setCell_same _ (w.heap.size + 1) 1 _ _ (.int .i64 a') g1
  refine ⟨((((H.below.setCell (by simp) _).setCell (by simp) _).setCell (by simp) _).setCell (by simp) _).setCell (by simp) _, ?_, g2⟩
  exact oth _ _ _ _ _ _ (by omega) (oth _ _ _ _ _ _ (by omega) h3)
end
/-- What is answered of a place. -/
def lnA (i : Nat) : TR → Value
  | .tok k n => .tuple #[ltV k i ((i + n : Nat) : Int), fvV 0 0]
  | .bad n => .tuple #[ltV 0 0 0, fvV 3 ((i + n : Nat) : Int)]
/-- The five forms. -/
abbrev fmV (F : ByteArray) (f : Nat) : Value := .agg #[.string F, .func (.func f) #[] #[]]
abbrev fmO (F : ByteArray) (f : Nat) : Obj := .cells #[.string F, .func (.func f) #[] #[]] 52
abbrev fmsV : Value := .agg #[.string ⟨#[32, 9, 10, 13]⟩, .func (.func 24) #[] #[], .string ⟨#[123, 125, 91, 93, 44, 58]⟩, .func (.func 25) #[] #[], .string ⟨#[97, 98, 99, 100, 101, 102, 103, 104, 105, 106, 107, 108, 109, 110, 111, 112, 113, 114, 115, 116, 117, 118, 119, 120, 121, 122]⟩, .func (.func 26) #[] #[], .string ⟨#[45, 48, 49, 50, 51, 52, 53, 54, 55, 56, 57]⟩, .func (.func 27) #[] #[], .string ⟨#[34]⟩, .func (.func 28) #[] #[]]
abbrev fmsO : Obj := .cells #[.string ⟨#[32, 9, 10, 13]⟩, .func (.func 24) #[] #[], .string ⟨#[123, 125, 91, 93, 44, 58]⟩, .func (.func 25) #[] #[], .string ⟨#[97, 98, 99, 100, 101, 102, 103, 104, 105, 106, 107, 108, 109, 110, 111, 112, 113, 114, 115, 116, 117, 118, 119, 120, 121, 122]⟩, .func (.func 26) #[] #[], .string ⟨#[45, 48, 49, 50, 51, 52, 53, 54, 55, 56, 57]⟩, .func (.func 27) #[] #[], .string ⟨#[34]⟩, .func (.func 28) #[] #[]] 53
theorem forms_is (w : World) : Calls Try.prog 16 #[] w fun e w' => e = .returned fmsV ∧ Below w.heap.size w w' := by
  go_enter Try.func16, Try.ntmps16
  go_wp2_with fail
  refine bodyPost_ret (v := fmsV) (by simp [results, Try.results16, go_sem, *]) rfl ?_
  exact ⟨rfl, (Below.refl _ _).alloc (Nat.le_refl _) _⟩
theorem form_0 (w : World) : (Instr.index 53 fmsV (.int .i64 0)).run Try.prog w = .ok (fmV ⟨#[32, 9, 10, 13]⟩ 24) w := by kernel_rfl
theorem form_1 (w : World) : (Instr.index 53 fmsV (.int .i64 1)).run Try.prog w = .ok (fmV ⟨#[123, 125, 91, 93, 44, 58]⟩ 25) w := by kernel_rfl
theorem form_2 (w : World) : (Instr.index 53 fmsV (.int .i64 2)).run Try.prog w = .ok (fmV ⟨#[97, 98, 99, 100, 101, 102, 103, 104, 105, 106, 107, 108, 109, 110, 111, 112, 113, 114, 115, 116, 117, 118, 119, 120, 121, 122]⟩ 26) w := by kernel_rfl
theorem form_3 (w : World) : (Instr.index 53 fmsV (.int .i64 3)).run Try.prog w = .ok (fmV ⟨#[45, 48, 49, 50, 51, 52, 53, 54, 55, 56, 57]⟩ 27) w := by kernel_rfl
theorem form_4 (w : World) : (Instr.index 53 fmsV (.int .i64 4)).run Try.prog w = .ok (fmV ⟨#[34]⟩ 28) w := by kernel_rfl
/-- Where a form of each kind ends. -/
def en (l : List UInt8) (i : Nat) : Nat → Nat × Bool
  | 0 => (i + rw spc (l.drop i), true)
  | 1 => (i + 1, true)
  | 2 => if words ((l.drop i).take (rw ltr (l.drop i))) = true then (i + rw ltr (l.drop i), true) else (i, false)
  | 3 => if dg (bt l (mnI l i)) = true then (exE l (frE l (intE l (mnI l i))), true) else (mnI l i, false)
  | _ => match strE l (i + 1) with | .ok n => (n, true) | .bad n => (n, false)
def enV (p : Nat × Bool) : Value := .tuple #[.int .i64 (p.1 : Nat), .bool p.2]
/-- What is told of a place at which a form of a kind begins. -/
def enA (i m : Nat) (p : Nat × Bool) : Value := if p.2 = true then .tuple #[ltV m i (p.1 : Nat), fvV 0 0] else .tuple #[ltV 0 0 0, fvV 3 (p.1 : Nat)]
section
variable {l : List UInt8} {i : Nat}
theorem nx_en0 (h : spc (bt l i) = true) : lnA i (nx (l.drop i)) = enA i 0 (en l i 0) := by
  rw [nx_space (by rw [bt_drop, Nat.add_zero]; exact h)]; rfl
theorem nx_en1 (h : mrk (bt l i) = true) : lnA i (nx (l.drop i)) = enA i 1 (en l i 1) := by
  rw [nx_mark (by rw [bt_drop, Nat.add_zero]; exact h)]; rfl
theorem nx_en2 (h : ltr (bt l i) = true) : lnA i (nx (l.drop i)) = enA i 2 (en l i 2) := by
  rw [nx_letter (by rw [bt_drop, Nat.add_zero]; exact h), en]
  split <;> rfl
theorem nx_en3 (h : (decide (bt l i = 45) || dg (bt l i)) = true) : lnA i (nx (l.drop i)) = enA i 3 (en l i 3) := by
  have e0 : bt (l.drop i) 0 = bt l i := by rw [bt_drop, Nat.add_zero]
  have em : i + mnE (l.drop i) = mnI l i := by unfold mnE mnI; rw [e0]; split <;> omega
  rw [Bool.or_eq_true, decide_eq_true_eq] at h
  rw [nx_digit (by rw [e0]; exact h), bt_drop, em, en]
  split
  · rw [lnA, nmE, exE_drop, frE_drop, intE_drop, em]; rfl
  · rw [lnA, em]; rfl
theorem nx_en4 (hi : i < l.length) (h : decide (bt l i = 34) = true) : lnA i (nx (l.drop i)) = enA i 4 (en l i 4) := by
  have e : en l i 4 = (match strE l (i + 1) with | .ok n => (n, true) | .bad n => (n, false)) := rfl
  rw [nx_quote (by rw [bt_drop, Nat.add_zero]; exact of_decide_eq_true h), e, ← (strE_drop (Nat.le_of_lt hi) _ 1 (Nat.le_refl _)).resolve_right (by omega)]
  cases strE (l.drop i) 1 <;> rfl
theorem nx_en5 (h0 : spc (bt l i) = false) (h1 : mrk (bt l i) = false) (h2 : ltr (bt l i) = false) (h3 : (decide (bt l i = 45) || dg (bt l i)) = false) (h4 : decide (bt l i = 34) = false) : lnA i (nx (l.drop i)) = .tuple #[ltV 0 0 0, fvV 3 (i : Nat)] := by
  have e0 : bt (l.drop i) 0 = bt l i := by rw [bt_drop, Nat.add_zero]
  rw [Bool.or_eq_false_iff] at h3
  rw [nx_other (by rw [e0, h0]) (by rw [e0, h1]) (by rw [e0, h2]) (by rw [e0]; exact of_decide_eq_false h3.1) (by rw [e0]; exact h3.2) (by rw [e0]; exact of_decide_eq_false h4)]; rfl
variable {B : Nat} {A : Option Addr}
def EndIs (l : List UInt8) (A : Option Addr) (n c i m f : Nat) : Prop := ∀ w B, Byt w B A l → Calls Try.prog f #[.slice A n c, .int .i64 (i : Nat)] w fun e w' => e = .returned (enV (en l i m)) ∧ w = w'
variable {n c : Nat} (hF : Forms) (hn : n = l.length) (hm : n ≤ 1000000) (hi : i < l.length)
include hn hm hi
theorem end0 (hF : Forms) : EndIs l A n c i 0 24 := fun w B hA => spaceEnd_is n c i w hF hn hA hm rfl (by omega) rfl
theorem end1 : EndIs l A n c i 1 25 := fun w B hA => markEnd_is _ w (by omega) (by omega)
theorem end2 (hF : Forms) (hnc : n ≤ c) (hc6 : c ≤ maxLen) : EndIs l A n c i 2 26 := fun w B hA => by
  have := wordEnd_is n c i w hF hn hnc hc6 hA hm rfl hi
  have e : wdv l i = enV (en l i 2) := by unfold wdv en; split <;> rfl
  rwa [e] at this
theorem end3 (hF : Forms) : EndIs l A n c i 3 27 := fun w B hA => by
  have := numberEnd_is n c i w hF hn hA hm rfl hi
  have e : nmV l i = enV (en l i 3) := by unfold nmV en; split <;> rfl
  rwa [e] at this
theorem end4 (hF : Forms) : EndIs l A n c i 4 28 := fun w B hA => by
  have := stringEnd_is n c i w hF hn hA hm rfl hi
  have e : srV (strE l (i + 1)) = enV (en l i 4) := by unfold en; cases strE l (i + 1) <;> rfl
  rwa [e] at this
end
end Jk
end Go.Proofs.Ytfnahondlcbjnaa
