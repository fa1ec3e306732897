/- The law's own: a value spoilt, and what stands behind its rows. -/
import Derived.Test.YtnnlgodgaolkkaaDoorUfm
import Derived.Test.YtnnlgodgaolkkaaDoorHe
namespace Go.Proofs.YtnnlgodgaolkkaaDoor
open Go.RowKit
namespace Va
set_option maxRecDepth 100000

/-- A row that may be written. -/
def RW (w : World) (g : Nat) : Prop := ∃ cur t, w.heap[g]? = some (.cells cur t (0, 0))
theorem RW.free {w : World} {g : Nat} (h : RW w g) (j : Nat) : w.frozen? ⟨g, j, none⟩ = false := by
  obtain ⟨cur, t, e⟩ := h
  simp [World.frozen?, e]
theorem RW.set {w : World} {g : Nat} (h : RW w g) (j : Nat) (v : Value) : RW (w.setCell ⟨g, j, none⟩ v) g := by
  obtain ⟨cur, t, e⟩ := h
  exact ⟨_, _, Go.heap_setCell_same w g j cur t v e⟩
theorem RW.eq {w w' : World} {g : Nat} (h : RW w g) (e : w'.heap[g]? = w.heap[g]?) : RW w' g := by
  obtain ⟨cur, t, e2⟩ := h
  exact ⟨cur, t, e.trans e2⟩
/-- Blocks of a kind alone have turned. -/
structure Ch (R : Nat → Prop) (a b : World) : Prop where
  os : b.os = a.os
  tape : b.tape = a.tape
  output : b.output = a.output
  size : a.heap.size ≤ b.heap.size
  block : ∀ g, g < a.heap.size → ¬ R g → b.heap[g]? = a.heap[g]?
theorem Ch.refl (R : Nat → Prop) (a : World) : Ch R a a := ⟨rfl, rfl, rfl, Nat.le_refl _, fun _ _ _ => rfl⟩
theorem Ch.trans {R : Nat → Prop} {a b c : World} (h1 : Ch R a b) (h2 : Ch R b c) : Ch R a c :=
  ⟨h2.os.trans h1.os, h2.tape.trans h1.tape, h2.output.trans h1.output, Nat.le_trans h1.size h2.size, fun g hg hr => (h2.block g (Nat.lt_of_lt_of_le hg h1.size) hr).trans (h1.block g hg hr)⟩
theorem Ch.more {R R' : Nat → Prop} {a b : World} (h : Ch R a b) (hi : ∀ g, R g → R' g) : Ch R' a b := ⟨h.os, h.tape, h.output, h.size, fun g hg hr => h.block g hg fun e => hr (hi g e)⟩
theorem Ch.set (R : Nat → Prop) (a : World) {g : Nat} (hg : R g) (j : Nat) (v : Value) : Ch R a (a.setCell ⟨g, j, none⟩ v) :=
  ⟨rfl, rfl, rfl, by simp, fun k _ hr => Go.RowKit.Below.heap_setCell _ _ _ _ (fun e => hr (by rw [e]; exact hg))⟩
theorem Ch.below {R : Nat → Prop} {a b : World} (h : Below a.heap.size a b) : Ch R a b := ⟨h.os, h.tape, h.output, h.size, fun g hg _ => h.block g hg⟩
/-- A value that may be spoilt: all that its rows have room for lies in blocks of its own. -/
def Vp : Nat → World → (Nat → Prop) → Value → Prop
  | 0, _, _, _ => False
  | N + 1, w, ok, v => ∃ (k : Nat) (t : ByteArray) (A B : Option Addr) (n c m d : Nat), v = .agg #[.int .u8 k, .string t, .slice A n c, .slice B m d] ∧ n ≤ c ∧ m ≤ d ∧ c ≤ 1000000 ∧ d ≤ 1000000 ∧ (A = none → c = 0) ∧ (B = none → d = 0) ∧
      (0 < d → ∃ h p, B = some ⟨h, p, none⟩ ∧ ok h ∧ h < w.heap.size ∧ RW w h ∧ ∀ i, i < d → ∃ s, w.cell? ⟨h, p + i, none⟩ = some (.string s)) ∧
      (0 < c → ∃ g o, A = some ⟨g, o, none⟩ ∧ ok g ∧ g < w.heap.size ∧ RW w g ∧ (∀ h p, B = some ⟨h, p, none⟩ → 0 < d → h ≠ g) ∧ ∃ (f : Nat → Nat → Value) (oks : Nat → Nat → Prop), (∀ i, i < c → ∀ j, j < 4 → w.cell? ⟨g, o + i * 4 + j, none⟩ = some (f i j)) ∧
        ∀ i, i < c → Vp N w (oks i) (.agg #[f i 0, f i 1, f i 2, f i 3]) ∧ ∀ q, oks i q → ok q ∧ q < w.heap.size ∧ q ≠ g ∧ (∀ h p, B = some ⟨h, p, none⟩ → 0 < d → q ≠ h) ∧ ∀ j, j < c → j ≠ i → ¬ oks j q)
theorem Vp.keep : ∀ {N : Nat} {w w' : World} {ok : Nat → Prop} {v : Value}, Vp N w ok v → (∀ g, ok g → g < w.heap.size → w'.heap[g]? = w.heap[g]?) → w.heap.size ≤ w'.heap.size → Vp N w' ok v
  | 0, _, _, _, _, h, _, _ => h.elim
  | N + 1, w, w', ok, v, h, hb, hs => by
    obtain ⟨k, t, A, B, n, c, m, d, rfl, h1, h2, h3, h4, h5, h6, hk, hl⟩ := h
    refine ⟨k, t, A, B, n, c, m, d, rfl, h1, h2, h3, h4, h5, h6, fun h0 => ?_, fun h0 => ?_⟩
    · obtain ⟨h, p, e, ho, hh, hr, hc⟩ := hk h0
      refine ⟨h, p, e, ho, Nat.lt_of_lt_of_le hh hs, hr.eq (hb h ho hh), fun i hi => ?_⟩
      obtain ⟨s, hs⟩ := hc i hi
      exact ⟨s, cell_eq (hb h ho hh) hs⟩
    · obtain ⟨g, o, e, ho, hh, hr, hne, f, oks, hc, hv⟩ := hl h0
      refine ⟨g, o, e, ho, Nat.lt_of_lt_of_le hh hs, hr.eq (hb g ho hh), hne, f, oks, fun i hi j hj => cell_eq (hb g ho hh) (hc i hi j hj), fun i hi => ?_⟩
      obtain ⟨v1, v2⟩ := hv i hi
      exact ⟨v1.keep (fun q hq hlt => hb q (v2 q hq).1 hlt) hs, fun q hq => by
        obtain ⟨q1, q2, q3, q4, q5⟩ := v2 q hq
        exact ⟨q1, Nat.lt_of_lt_of_le q2 hs, q3, q4, q5⟩⟩
theorem Vp.shape {N : Nat} {w : World} {ok : Nat → Prop} {v : Value} (h : Vp N w ok v) : ∃ (k : Nat) (t : ByteArray) (A B : Option Addr) (n c m d : Nat), v = .agg #[.int .u8 k, .string t, .slice A n c, .slice B m d] := by
  cases N with
  | zero => exact h.elim
  | succ N =>
    obtain ⟨k, t, A, B, n, c, m, d, e, _⟩ := h
    exact ⟨k, t, A, B, n, c, m, d, e⟩
end Va
end Go.Proofs.YtnnlgodgaolkkaaDoor
