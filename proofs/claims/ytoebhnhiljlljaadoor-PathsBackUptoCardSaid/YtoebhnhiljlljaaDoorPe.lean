/- Steps in memory; how much there is of a path, as far as the law asks. -/
import Derived.Test.YtoebhnhiljlljaaDoorProg
import Derived.Test.YtoebhnhiljlljaaDoorBase
import Derived.Test.YtoebhnhiljlljaaDoorPd
import Derived.BigQuiet
import Derived.Deep.QuietTactic
namespace Go.Proofs.YtoebhnhiljlljaaDoor
open Go.RowKit
namespace Pa
set_option maxRecDepth 100000

def i64 (z : Int) : Prop := -9223372036854775808 ≤ z ∧ z ≤ 9223372036854775807
structure St.Ok (s : St) : Prop where
  k : s.kind < 256
  p : i64 s.pos
abbrev stC (s : St) : List Value := [.int .u8 s.kind, .string (txt s.text), .string (txt s.id), .int .i64 s.pos]
/-- A step. -/
abbrev stV (s : St) : Value := .agg #[.int .u8 s.kind, .string (txt s.text), .string (txt s.id), .int .i64 s.pos]
/-- A row of steps in memory. -/
def Sx (w : World) (A : Option Addr) (L : List St) : Prop := 0 < L.length → ∃ g o, A = some ⟨g, o, none⟩ ∧ g < w.heap.size ∧ ∀ i s, L[i]? = some s → w.cell? ⟨g, o + i * 4, none⟩ = some (.int .u8 s.kind) ∧ w.cell? ⟨g, o + i * 4 + 1, none⟩ = some (.string (txt s.text)) ∧ w.cell? ⟨g, o + i * 4 + 2, none⟩ = some (.string (txt s.id)) ∧ w.cell? ⟨g, o + i * 4 + 3, none⟩ = some (.int .i64 s.pos)
theorem Sx.on {w w' : World} {A : Option Addr} {L : List St} (h : Sx w A L) (hb : Below w.heap.size w w') : Sx w' A L := fun h0 => by
  obtain ⟨g, o, e, hg, hf⟩ := h h0
  refine ⟨g, o, e, Nat.lt_of_lt_of_le hg hb.size, fun i s hs => ?_⟩
  obtain ⟨h1, h2, h3, h4⟩ := hf i s hs
  exact ⟨(hb.cell (p := ⟨g, o + i * 4, none⟩) hg).trans h1, (hb.cell (p := ⟨g, o + i * 4 + 1, none⟩) hg).trans h2, (hb.cell (p := ⟨g, o + i * 4 + 2, none⟩) hg).trans h3, (hb.cell (p := ⟨g, o + i * 4 + 3, none⟩) hg).trans h4⟩
theorem Sx.take {w : World} {A : Option Addr} {L : List St} (h : Sx w A L) (n : Nat) : Sx w A (L.take n) := fun h0 => by
  obtain ⟨g, o, e, hg, hf⟩ := h (by simp at h0; omega)
  refine ⟨g, o, e, hg, fun i s hs => hf i s ?_⟩
  rw [List.getElem?_take] at hs
  split at hs
  · exact hs
  · cases hs
/-- A slice of steps. -/
structure Sm (w : World) (A : Option Addr) (n c : Nat) (L : List St) : Prop where
  len : n = L.length
  cap : n ≤ c ∧ c ≤ maxLen
  nil : A = none → c = 0
  row : Sx w A L
  ok : ∀ s ∈ L, s.Ok
theorem Sm.on {w w' : World} {A : Option Addr} {n c : Nat} {L : List St} (h : Sm w A n c L) (hb : Below w.heap.size w w') : Sm w' A n c L := ⟨h.len, h.cap, h.nil, h.row.on hb, h.ok⟩
theorem Sm.at_ {w : World} {A : Option Addr} {n c : Nat} {L : List St} (h : Sm w A n c L) {i : Nat} (hi : i < n) : ∃ g o s, A = some ⟨g, o, none⟩ ∧ g < w.heap.size ∧ L[i]? = some s ∧ s.Ok ∧ w.cell? ⟨g, o + i * 4, none⟩ = some (.int .u8 s.kind) ∧ w.cell? ⟨g, o + i * 4 + 1, none⟩ = some (.string (txt s.text)) ∧ w.cell? ⟨g, o + i * 4 + 2, none⟩ = some (.string (txt s.id)) ∧ w.cell? ⟨g, o + i * 4 + 3, none⟩ = some (.int .i64 s.pos) := by
  have hl := h.len
  obtain ⟨g, o, e, hg, hf⟩ := h.row (by omega)
  have hs : L[i]? = some (L[i]'(by omega)) := List.getElem?_eq_getElem (by omega)
  exact ⟨g, o, _, e, hg, hs, h.ok _ (List.getElem_mem _), hf i _ hs⟩
/-- How much there is of a path. -/
def sw (s : St) : Nat := 1 + s.text.length + s.id.length
def pW : List St → Nat
  | [] => 0
  | s :: r => sw s + pW r
theorem pW_drop {L : List St} {i : Nat} {s : St} (h : L[i]? = some s) : pW (L.drop i) = sw s + pW (L.drop (i + 1)) := by
  have hl := (List.getElem?_eq_some_iff.1 h).1
  have e : L[i] = s := (List.getElem?_eq_some_iff.1 h).2
  rw [List.drop_eq_getElem_cons hl, pW, e]
theorem pW_len : ∀ L : List St, L.length ≤ pW L
  | [] => Nat.zero_le _
  | s :: r => by have := pW_len r; rw [pW, List.length_cons, sw]; omega
set_option maxHeartbeats 4000000 in
theorem great_any {A : Option Addr} {n c : Nat} {L : List St} (w : World) (h : Sm w A n c L) (hw : pW L ≤ 1000000000000) :
    Calls Tryd.prog 6 #[.slice A n c] w fun e w' => e = .returned (.bool (decide (3000 ≤ pW L))) ∧ Below w.heap.size w w' := by
  have HS := Lib.hid h
  have HW := Lib.hid hw
  have HN := Lib.hid h.len
  have hn5 : n ≤ 1000000000000 := by have := pW_len L; rw [h.len]; omega
  clear h hw
  go_enter Tryd.func6, Tryd.ntmps6
  go_wp2_with fail
  go_loopw [3, 4] (fun a b wx => Hid (Below w.heap.size w wx) ∧ ∃ q i : Nat, i ≤ n ∧ q ≤ 1000000000000 ∧ a = .int .i64 q ∧ b = .int .i64 i ∧ Hid (q + pW (L.drop i) = pW L)) (fun _ b _ => n - (intOf b).toNat)
  case atStart => exact ⟨Lib.hid (Below.refl _ _), 0, 0, Nat.zero_le _, Nat.zero_le _, rfl, rfl, Lib.hid (by simp)⟩
  case round =>
    obtain ⟨HBR, q, i, hi, hq, rfl, rfl, HQ⟩ := hrel
    by_cases hlt : i < n
    · by_cases h5 : (q : Int) < 3000
      · obtain ⟨g, o, s, rfl, hg, hs, _, _, c1, c2, _⟩ := HS.out.at_ hlt
        have d1 := (HBR.out.cell (p := ⟨g, o + i * 4 + 1, none⟩) hg).trans c1
        have d2 := (HBR.out.cell (p := ⟨g, o + i * 4 + 2, none⟩) hg).trans c2
        obtain ⟨T, hT⟩ : ∃ T, T = txt s.text := ⟨_, rfl⟩
        obtain ⟨U, hU⟩ : ∃ U, U = txt s.id := ⟨_, rfl⟩
        rw [← hT] at d1
        rw [← hU] at d2
        have HE := Lib.hid (show q + 1 + T.size + U.size + pW (L.drop (i + 1)) = pW L by rw [hT, hU, txt_size, txt_size, ← HQ.out, pW_drop hs, sw]; omega)
        have h6 : q + 1 + T.size + U.size ≤ 1000000000000 := by have := HW.out; have := HE.out; omega
        have hi2 : i < n := hlt
        clear c1 c2 hs hT hU
        go_wp2_with fail
        go_quiet (fail)
        go_wp2_with fail
        go_roundw
        case rel => exact ⟨Lib.hid (by have := HBR.out; exact ⟨this.os, this.tape, this.output, this.size, this.block⟩), q + 1 + T.size + U.size, i + 1, by omega, h6, by go_num, by go_num, HE⟩
        case measure => simp [intOf] <;> omega
      · have HE := Lib.hid (show decide (3000 ≤ pW L) = true by have := HQ.out; simp; omega)
        go_wp2_with fail
        go_ret
        exact ⟨ret_bool (by rw [HE.out]), HBR.out⟩
    · have HE := Lib.hid (show pW L = q by have := HQ.out; rw [List.drop_eq_nil_of_le (by rw [← HN.out]; omega), pW] at this; omega)
      go_wp2_with fail
      go_ret
      exact ⟨ret_bool (by rw [HE.out]; by_cases h : 3000 ≤ q <;> simp [h] <;> omega), HBR.out⟩
end Pa
end Go.Proofs.YtoebhnhiljlljaaDoor
