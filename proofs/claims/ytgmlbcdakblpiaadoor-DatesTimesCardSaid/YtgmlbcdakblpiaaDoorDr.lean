/- What landed: a text split into parts. -/
import Derived.Test.YtgmlbcdakblpiaaDoorDq
import Derived.Test.YtgmlbcdakblpiaaDoorShelf
import Derived.OneCell
namespace Go.Proofs.YtgmlbcdakblpiaaDoor
open Go.RowKit
namespace Da

theorem sp_ix : ∀ n, n < 256 → (decide (0 ≤ Lib.indexByte [84, 116, 32] (UInt8.ofNat n)) = sp (n : Int)) ∧ -1 ≤ Lib.indexByte [84, 116, 32] (UInt8.ofNat n) ∧ Lib.indexByte [84, 116, 32] (UInt8.ofNat n) ≤ 2 := by
  have : (List.range 256).all (fun n => decide ((decide (0 ≤ Lib.indexByte [84, 116, 32] (UInt8.ofNat n)) = sp (n : Int)) ∧ -1 ≤ Lib.indexByte [84, 116, 32] (UInt8.ofNat n) ∧ Lib.indexByte [84, 116, 32] (UInt8.ofNat n) ≤ 2)) = true := by decide +kernel
  intro n hn
  exact of_decide_eq_true ((List.all_eq_true.1 this) n (List.mem_range.2 hn))
theorem tsp_is {c : Int} (h0 : 0 ≤ c) (h1 : c ≤ 255) : ∃ y : Int, decide (0 ≤ y) = sp c ∧ -1 ≤ y ∧ y ≤ 2 ∧ ∀ w, Calls Tryd.prog 46 #[.string ⟨#[84, 116, 32]⟩, .int .u8 c] w fun e w' => e = .returned (.int .i64 y) ∧ w = w' := by
  obtain ⟨n, rfl⟩ : ∃ n : Nat, c = n := ⟨c.toNat, by omega⟩
  obtain ⟨e1, e2, e3⟩ := sp_ix n (by omega)
  refine ⟨_, e1, e2, e3, fun w => ?_⟩
  refine (Tryd.strings_IndexByte ⟨#[84, 116, 32]⟩ n w).mono ?_
  rintro e w' ⟨rfl, rfl⟩
  exact ⟨rfl, rfl⟩
/-- A date-time's text in parts. -/
abbrev wv (a b c d : ByteArray) : Value := .agg #[.string a, .string b, .string c, .string d]
abbrev wo (a b c d : ByteArray) : Obj := .cells #[.string a, .string b, .string c, .string d] 44
/-- The parts lie in W's next block; nothing that W had has turned. -/
def PW (W w : World) (a b c d : ByteArray) : Prop := Below W.heap.size W w ∧ w.heap[W.heap.size]? = some (wo a b c d)
section
variable {W w w' : World} {a b c d a' b' c' d' : ByteArray}
theorem PW.start : PW W (W.alloc (wo a b c d)) a b c d := ⟨(Below.refl _ _).alloc (Nat.le_refl _) _, by show (W.heap.push _)[W.heap.size]? = _; simp⟩
theorem PW.below (h : PW W w a b c d) (hb : Below w.heap.size w w') : PW W w' a b c d := ⟨below_tr h.1 hb, by rw [hb.block _ (lt_of_block h.2)]; exact h.2⟩
theorem PW.alloc (h : PW W w a b c d) (o : Obj) : PW W (w.alloc o) a b c d := h.below ((Below.refl _ _).alloc (Nat.le_refl _) _)
theorem PW.cells (h : PW W w a b c d) : (w.cell? ⟨W.heap.size, 0, none⟩ = some (.string a) ∧ w.cell? ⟨W.heap.size, 1, none⟩ = some (.string b) ∧ w.cell? ⟨W.heap.size, 2, none⟩ = some (.string c) ∧ w.cell? ⟨W.heap.size, 3, none⟩ = some (.string d)) ∧
    w.frozen? ⟨W.heap.size, 0, none⟩ = false ∧ w.frozen? ⟨W.heap.size, 1, none⟩ = false ∧ w.frozen? ⟨W.heap.size, 2, none⟩ = false ∧ w.frozen? ⟨W.heap.size, 3, none⟩ = false := by
  obtain ⟨_, h⟩ := h
  simp [World.cell?, World.frozen?, h]
theorem PW.set0 (h : PW W w a b c d) : PW W (w.setCell ⟨W.heap.size, 0, none⟩ (.string a')) a' b c d := by
  refine ⟨h.1.setCell (Nat.le_refl _) _, ?_⟩
  rw [heap_setCell_same w W.heap.size 0 _ _ (.string a') h.2]; rfl
theorem PW.set1 (h : PW W w a b c d) : PW W (w.setCell ⟨W.heap.size, 1, none⟩ (.string b')) a b' c d := by
  refine ⟨h.1.setCell (Nat.le_refl _) _, ?_⟩
  rw [heap_setCell_same w W.heap.size 1 _ _ (.string b') h.2]; rfl
theorem PW.set2 (h : PW W w a b c d) : PW W (w.setCell ⟨W.heap.size, 2, none⟩ (.string c')) a b c' d := by
  refine ⟨h.1.setCell (Nat.le_refl _) _, ?_⟩
  rw [heap_setCell_same w W.heap.size 2 _ _ (.string c') h.2]; rfl
theorem PW.set3 (h : PW W w a b c d) : PW W (w.setCell ⟨W.heap.size, 3, none⟩ (.string d')) a b c d' := by
  refine ⟨h.1.setCell (Nat.le_refl _) _, ?_⟩
  rw [heap_setCell_same w W.heap.size 3 _ _ (.string d') h.2]; rfl
theorem PW.set (h : PW W w a b c d) : PW W ((((w.setCell ⟨W.heap.size, 0, none⟩ (.string a')).setCell ⟨W.heap.size, 1, none⟩ (.string b')).setCell ⟨W.heap.size, 2, none⟩ (.string c')).setCell ⟨W.heap.size, 3, none⟩ (.string d')) a' b' c' d' := h.set0.set1.set2.set3
end
theorem cut1_at {l f : List UInt8} {s X Y F : ByteArray} {g : Nat} (w : World) (hs : s = txt l) (hl : l.length ≤ 1000000) (hf : f.length ≤ 100 ∧ fb f) (hF : F = txt f) (hX : X = txt (cutL [f] l).1) (hY : Y = txt (cutL [f] l).2) (hg : g < w.heap.size) (hc : w.cell? ⟨g, 0, none⟩ = some (.string F)) :
    Calls Tryd.prog 44 #[.string s, .slice (some ⟨g, 0, none⟩) 1 1] w fun e w' => e = .returned (.tuple #[.string X, .string Y]) ∧ Below w.heap.size w w' :=
  cut_is (fs := [f]) (n := 1) _ hs hl (fun g hg => by obtain rfl : g = f := by simpa using hg
                                                      exact hf) (by simp) hg (fun i g' h => by
    match i, h with
    | 0, h => obtain rfl : f = g' := by simpa using h
              rw [hc, hF]
    | n + 1, h => simp at h) rfl hX hY
/-- What a text's parts are told as. -/
def spv (l : List UInt8) : Value := .tuple #[wv (txt (pD l)) (txt (pT l)) (txt (pF l)) (txt (pZ l)), .string (txt (l.drop (en l)))]
/-- The cases of it. -/
theorem sp_none {l : List UInt8} (hd : dte l = false) : pD l = [] ∧ pT l = cT l ∧ pF l = cF l ∧ pZ l = [] ∧ l.drop (en l) = cR l := by
  have ht : tp l = 0 := by rw [tp, hd]; rfl
  have hh : hT l = clk l 0 := by rw [hT, hd]; rfl
  have hz : nZ l = 0 := by rw [nZ, hd]; simp
  refine ⟨by rw [pD, hd]; rfl, ?_, ?_, by rw [pZ, hz]; rfl, ?_⟩
  · rw [pT, hh, ht, cT, List.drop_zero]
  · rw [pF, nF, hh, ht, cF]
    cases clk l 0 <;> rfl
  · rw [en, nF, hh, ht, hz, hd, cR]
    cases clk l 0 <;> simp
theorem sp_date {l : List UInt8} (hd : dte l = true) (hn : (sp (bt l 10) && clk l 11) = false) : pD l = l.take 10 ∧ pT l = [] ∧ pF l = [] ∧ pZ l = [] ∧ l.drop (en l) = l.drop 10 := by
  have hh : hT l = false := by rw [hT, hd, if_pos rfl]; exact hn
  have hf : nF l = 0 := by rw [nF, hh]; rfl
  have hz : nZ l = 0 := by rw [nZ, hh]; simp
  refine ⟨by rw [pD, hd]; rfl, by rw [pT, hh]; rfl, by rw [pF, hf]; rfl, by rw [pZ, hz]; rfl, by rw [en, hh, hd]; rfl⟩
theorem sp_both {l : List UInt8} (hd : dte l = true) (hs : sp (bt l 10) = true) (hk : clk l 11 = true) :
    pD l = l.take 10 ∧ pT l = cT (l.drop 11) ∧ pF l = cF (l.drop 11) ∧ pZ l = (cR (l.drop 11)).take (zn (cR (l.drop 11)) 0) ∧ l.drop (en l) = (cR (l.drop 11)).drop (zn (cR (l.drop 11)) 0) := by
  have hh : hT l = true := by rw [hT, hd, if_pos rfl, hs, hk]; rfl
  have ht : tp l = 11 := by rw [tp, hd]; rfl
  have hf : nF l = frc l 19 := by rw [nF, hh, ht]; rfl
  have hk' : clk (l.drop 11) 0 = true := by rw [clk_dr]; exact hk
  have hf' : frc (l.drop 11) 8 = frc l 19 := by rw [frc_dr]
  have hR : cR (l.drop 11) = l.drop (19 + frc l 19) := by
    rw [cR, if_pos hk', hf', List.drop_drop]; congr 1; omega
  have hz : nZ l = zn (l.drop (19 + frc l 19)) 0 := by rw [nZ, if_pos ⟨hd, hh⟩, ht, hf, zn_dr]; rfl
  refine ⟨by rw [pD, hd]; rfl, by rw [pT, hh, ht, cT, if_pos hk', if_pos rfl], ?_, ?_, ?_⟩
  · rw [pF, ht, hf, cF, if_pos hk', hf', List.drop_drop]
  · rw [hR, pZ, ht, hf, hz]
  · rw [hR, en, hh, if_pos rfl, ht, hf, hz, List.drop_drop]
theorem cT_nil {l : List UInt8} : cT l = [] ↔ clk l 0 = false := by
  unfold cT
  cases h : clk l 0
  · simp
  · have := clk_in h
    simp only [if_true]
    constructor
    · intro e; have := congrArg List.length e; rw [List.length_take, List.length_nil] at this; omega
    · intro e; cases e
theorem cR_len (l : List UInt8) : (cR l).length ≤ l.length := by
  unfold cR; split <;> simp
end Da
end Go.Proofs.YtgmlbcdakblpiaaDoor
