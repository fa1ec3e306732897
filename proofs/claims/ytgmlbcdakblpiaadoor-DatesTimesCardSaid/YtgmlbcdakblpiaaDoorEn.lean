/- An array of five bytes, as it is read: taken apart, and put together; the law of times as its row asks it. -/
import Derived.Test.YtgmlbcdakblpiaaDoorEk
import Derived.Test.YtgmlbcdakblpiaaDoorEz
namespace Go.Proofs.YtgmlbcdakblpiaaDoor
open Go.ChangeShapes Go.WideShapes Go.ChangeAt Go.RowKit
namespace Da

section
variable {H : Type} {enc : TypeId × Value → H} {P : Program} {W : World} {b0 base : Nat} {sp : Nat → Bool} {held : Bool} {t e : TypeId}
theorem open_five (ht : P.underlying t = some (.array 5 e)) (he : P.underlying e = some (.int .u8)) (hce : P.cellsOf e = 1) (hct : P.cellsOf t = 5) {v : Value} {d : DataW H} {p : List MemPlace}
    (hval : Value.okWide P W .any b0 t v) (h : DataW.Trod enc P W base sp held t v d p) :
    ∃ x0 x1 x2 x3 x4, v = fiv x0 x1 x2 x3 x4 ∧ d = .agg [.lit (.int .u8 x0), .lit (.int .u8 x1), .lit (.int .u8 x2), .lit (.int .u8 x3), .lit (.int .u8 x4)] ∧ p = [] ∧ (Lit.int .u8 x0).wf = true ∧ (Lit.int .u8 x1).wf = true ∧ (Lit.int .u8 x2).wf = true ∧ (Lit.int .u8 x3).wf = true ∧ (Lit.int .u8 x4).wf = true := by
  obtain ⟨cs, rfl, hsz, _⟩ : ∃ cs, v = .agg cs ∧ cs.size = P.cellsOf t ∧ Row.okWide P W .any b0 t cs := by
    simpa [Value.okWide, ht] using hval
  obtain ⟨fuel, hf⟩ := h
  obtain ⟨xs, m, _, hx, _, hl, hel⟩ := DataW.trod_array ht hf
  rw [hct] at hsz
  obtain ⟨l⟩ := cs
  have hl2 : l.length = 5 := hsz
  obtain ⟨c0, c1, c2, c3, c4, rfl⟩ : ∃ c0 c1 c2 c3 c4, l = [c0, c1, c2, c3, c4] := by
    match l, hl2 with
    | [c0, c1, c2, c3, c4], _ => exact ⟨c0, c1, c2, c3, c4, rfl⟩
  obtain ⟨z0, z1, z2, z3, z4, rfl⟩ : ∃ z0 z1 z2 z3 z4, xs = [z0, z1, z2, z3, z4] := by
    match xs, hl with
    | [z0, z1, z2, z3, z4], _ => exact ⟨z0, z1, z2, z3, z4, rfl⟩
  have h0 := hel 0 (by omega)
  have h1 := hel 1 (by omega)
  have h2 := hel 2 (by omega)
  have h3 := hel 3 (by omega)
  have h4 := hel 4 (by omega)
  rw [hce] at h0 h1 h2 h3 h4
  have h0' : DataW.trod enc P W base sp held m e [c0] = some z0 := by simpa [Value.cells] using h0
  have h1' : DataW.trod enc P W base sp held m e [c1] = some z1 := by simpa [Value.cells] using h1
  have h2' : DataW.trod enc P W base sp held m e [c2] = some z2 := by simpa [Value.cells] using h2
  have h3' : DataW.trod enc P W base sp held m e [c3] = some z3 := by simpa [Value.cells] using h3
  have h4' : DataW.trod enc P W base sp held m e [c4] = some z4 := by simpa [Value.cells] using h4
  obtain ⟨x0, e0, rfl, w0⟩ := DataW.trod_int he h0'
  obtain ⟨x1, e1, rfl, w1⟩ := DataW.trod_int he h1'
  obtain ⟨x2, e2, rfl, w2⟩ := DataW.trod_int he h2'
  obtain ⟨x3, e3, rfl, w3⟩ := DataW.trod_int he h3'
  obtain ⟨x4, e4, rfl, w4⟩ := DataW.trod_int he h4'
  simp at e0 e1 e2 e3 e4
  subst e0 e1 e2 e3 e4
  simp at hx
  obtain ⟨rfl, rfl⟩ := hx
  exact ⟨x0, x1, x2, x3, x4, rfl, rfl, rfl, w0, w1, w2, w3, w4⟩
theorem shut_five (ht : P.underlying t = some (.array 5 e)) (he : P.underlying e = some (.int .u8)) (hce : P.cellsOf e = 1) (hct : P.cellsOf t = 5) {x0 x1 x2 x3 x4 : Int} (w0 : (Lit.int .u8 x0).wf = true) (w1 : (Lit.int .u8 x1).wf = true) (w2 : (Lit.int .u8 x2).wf = true) (w3 : (Lit.int .u8 x3).wf = true) (w4 : (Lit.int .u8 x4).wf = true) :
    DataW.Trod enc P W base sp held t (fiv x0 x1 x2 x3 x4) (.agg [.lit (.int .u8 x0), .lit (.int .u8 x1), .lit (.int .u8 x2), .lit (.int .u8 x3), .lit (.int .u8 x4)]) [] := by
  have r5 : List.range 5 = [0, 1, 2, 3, 4] := rfl
  exact ⟨2, by simp [DataW.trod, Value.cells, ht, he, hce, hct, r5, w0, w1, w2, w3, w4]⟩
end
theorem timesW_any {x0 x1 x2 x3 x4 xp xk : Int} (a0 : 0 ≤ x0) (z0 : x0 ≤ 255) (a1 : 0 ≤ x1) (z1 : x1 ≤ 255) (a2 : 0 ≤ x2) (z2 : x2 ≤ 255) (a3 : 0 ≤ x3) (z3 : x3 ≤ 255) (a4 : 0 ≤ x4) (z4 : x4 ≤ 255)
    (ap : 0 ≤ xp) (zp : xp ≤ 4294967295) (ak : 0 ≤ xk) (zk : xk ≤ 255) (w : World) (_h : True) :
    Calls Tryd.prog 5 #[fiv x0 x1 x2 x3 x4, .int .u32 xp, .int .u8 xk] w fun e w' => e = .returned (.bool true) ∧ Below w.heap.size w w' := timesL_any a0 z0 a1 z1 a2 z2 a3 z3 a4 z4 ap zp ak zk w
end Da
end Go.Proofs.YtgmlbcdakblpiaaDoor
