/- The units' cells, and one step of their reading. -/
import Derived.Test.YtilokhbhkbikiaaDoorUns
import Derived.Test.YtilokhbhkbikiaaDoorQWr
import Derived.Test.YtilokhbhkbikiaaDoorQRd
namespace Go.Proofs.YtilokhbhkbikiaaDoor
open Go.RowKit

theorem usV_get : ∀ (us : List Qu.U) (j f : Nat) (u : Qu.U) (r : List Qu.U), us.drop j = u :: r → f < 4 → (usV us)[j * 4 + f]? = (uV u)[f]?
  | [], j, f, u, r, h, _ => by simp at h
  | x :: us, 0, f, u, r, h, hf => by
    simp only [List.drop_zero, List.cons.injEq] at h
    obtain ⟨rfl, rfl⟩ := h
    rw [Nat.zero_mul, Nat.zero_add, usV, List.flatMap_cons, List.getElem?_append_left (by simp [uV]; omega)]
  | x :: us, j + 1, f, u, r, h, hf => by
    rw [List.drop_succ_cons] at h
    have ih := usV_get us j f u r h hf
    rw [usV, List.flatMap_cons, List.getElem?_append_right (by simp [uV]; omega)]
    rw [← ih, usV]
    congr 1
    simp [uV]; omega
/-- The units lie in block g, as they were in W. -/
def UC (W : World) (g : Nat) (us : List Qu.U) : Prop := g < W.heap.size ∧ ∀ j u r, us.drop j = u :: r → W.cell? ⟨g, j * 4, none⟩ = some (.int .i64 (u.place : Int)) ∧ W.cell? ⟨g, j * 4 + 1, none⟩ = some (.int .i64 (u.long : Int)) ∧ W.cell? ⟨g, j * 4 + 2, none⟩ = some (.bool u.byte) ∧ W.cell? ⟨g, j * 4 + 3, none⟩ = some (.int .i64 (u.n : Int))
theorem drop_lt {us r : List Qu.U} {j : Nat} {u : Qu.U} (h : us.drop j = u :: r) : j < us.length ∧ r = us.drop (j + 1) := by
  rcases Nat.lt_or_ge j us.length with h1 | h1
  · refine ⟨h1, ?_⟩
    rw [List.drop_eq_getElem_cons h1] at h
    injection h with _ h; exact h.symm
  · rw [List.drop_eq_nil_of_le h1] at h; cases h
theorem uc_of {w : World} {base n : Nat} {v : Value} {us : List Qu.U} (h : w.ownsRow base 45 4 v n (usV us)) (hn : n = us.length) : ∃ A c, v = .slice A n c ∧ n ≤ c ∧ (0 < n → ∃ g, A = some ⟨g, 0, none⟩ ∧ UC w g us) := by
  rcases h.2 with ⟨rfl, rfl⟩ | ⟨g, cap, cur, rfl, _, _, hnc, _, _⟩
  · exact ⟨none, 0, rfl, Nat.le_refl _, fun h => absurd h (by omega)⟩
  · refine ⟨_, cap, rfl, hnc, fun _ => ⟨g, rfl, (h.lt _ rfl).2, fun j u r hd => ?_⟩⟩
    obtain ⟨hj, _⟩ := drop_lt hd
    refine ⟨?_, ?_, ?_, ?_⟩
    · rw [h.cellAt (j * 4) (by omega)]; have := usV_get us j 0 u r hd (by omega); simpa [uV] using this
    · rw [h.cellAt (j * 4 + 1) (by omega), usV_get us j 1 u r hd (by omega)]; rfl
    · rw [h.cellAt (j * 4 + 2) (by omega), usV_get us j 2 u r hd (by omega)]; rfl
    · rw [h.cellAt (j * 4 + 3) (by omega), usV_get us j 3 u r hd (by omega)]; rfl
theorem UC.at_ {W w : World} {g j : Nat} {us r : List Qu.U} {u : Qu.U} (h : UC W g us) (hb : Below W.heap.size W w) (hd : us.drop j = u :: r) : w.cell? ⟨g, j * 4, none⟩ = some (.int .i64 (u.place : Int)) ∧ w.cell? ⟨g, j * 4 + 1, none⟩ = some (.int .i64 (u.long : Int)) ∧ w.cell? ⟨g, j * 4 + 2, none⟩ = some (.bool u.byte) ∧ w.cell? ⟨g, j * 4 + 3, none⟩ = some (.int .i64 (u.n : Int)) := by
  obtain ⟨h0, h1⟩ := h
  obtain ⟨c0, c1, c2, c3⟩ := h1 j u r hd
  exact ⟨cell_old hb h0 c0, cell_old hb h0 c1, cell_old hb h0 c2, cell_old hb h0 c3⟩
namespace Qu
theorem unl_n : ∀ (N i : Nat) (m : List UInt8), m.length ≤ N → ∀ u ∈ (unl i m).1, u.byte = false → u.n < 65536 := fun N => by
  induction N with
  | zero =>
    intro i m hN u hu
    obtain rfl := List.eq_nil_of_length_eq_zero (Nat.le_zero.1 hN)
    rw [unl_bad i (show un [] = .bad 0 from rfl)] at hu; cases hu
  | succ N ih =>
    intro i m hN u hu hb
    cases hm : un m with
    | bad k => rw [unl_bad i hm] at hu; cases hu
    | done x => cases x with
      | nil => rw [unl_end i hm] at hu; cases hu
      | cons c r => rw [unl_more i hm] at hu; cases hu
    | unit k x r =>
      have hlen := un_unit hm
      cases x with
      | byte b =>
        rw [unl_byte i hm] at hu
        rcases List.mem_cons.1 hu with rfl | hu
        · cases hb
        · exact ih _ r (by omega) u hu hb
      | rune n =>
        rw [unl_rune i hm] at hu
        rcases List.mem_cons.1 hu with rfl | hu
        · exact (un_rune hm).2
        · exact ih _ r (by omega) u hu hb
theorem unq_n {l : List UInt8} {us : List U} {e : Option Nat} (h : unq l = (us, e)) : ∀ u ∈ us, u.byte = false → u.n < 65536 := by
  unfold unq at h
  split at h
  · rename_i r
    have := unl_n r.length 1 r (Nat.le_refl _)
    rw [h] at this; exact this
  · cases h; intro u hu; cases hu
section
variable {us r : List U} {j : Nat} {u v : U}
theorem step_byte (h : us.drop j = u :: us.drop (j + 1)) (hb : u.byte = true) : rdu (us.drop j) = (rdu (us.drop (j + 1))).pre 0 [UInt8.ofNat u.n] := by
  rw [h, rdu_on (show st (u :: us.drop (j + 1)) = some (.inl (1, [UInt8.ofNat u.n])) by rw [st_cons, if_pos hb]) (by omega) (by simp)]; rfl
theorem step_pair (h : us.drop j = u :: us.drop (j + 1)) (h2 : us.drop (j + 1) = v :: us.drop (j + 2)) (hb : u.byte = false) (hu : uh u = true) (hv : ul v = true) : rdu (us.drop j) = (rdu (us.drop (j + 2))).pre 0 (pt (pair u.n v.n)) := by
  have e : st (u :: us.drop (j + 1)) = some (.inl (2, pt (pair u.n v.n))) := by
    rw [h2, st_cons, if_neg (by simp [hb]), if_pos ⟨hu, hv⟩]
  generalize pt (pair u.n v.n) = x at e ⊢
  rw [h, rdu_on e (by omega) (by rw [h2]; simp), List.drop_succ_cons, h2]; rfl
theorem step_half (h : us.drop j = u :: us.drop (j + 1)) (hb : u.byte = false) (hu : uh u = true) (hv : ulH (us.drop (j + 1)) = false) : rdu (us.drop j) = .bad true u.place := by
  rw [h]
  exact rdu_bad (by rw [st_cons, if_neg (by simp [hb]), if_neg (by rw [hv]; simp), if_pos (.inl hu)])
theorem step_low (h : us.drop j = u :: us.drop (j + 1)) (hb : u.byte = false) (hu : uh u = false) (hv : ul u = true) : rdu (us.drop j) = .bad true u.place := by
  rw [h]
  exact rdu_bad (by rw [st_cons, if_neg (by simp [hb]), if_neg (by rw [hu]; simp), if_pos (.inr hv)])
theorem step_one (h : us.drop j = u :: us.drop (j + 1)) (hb : u.byte = false) (hu : uh u = false) (hv : ul u = false) : rdu (us.drop j) = (rdu (us.drop (j + 1))).pre 0 (pt u.n) := by
  have e : st (u :: us.drop (j + 1)) = some (.inl (1, pt u.n)) := by
    rw [st_cons, if_neg (by simp [hb]), if_neg (by rw [hu]; simp), if_neg (by rw [hu, hv]; simp)]
  generalize pt u.n = x at e ⊢
  rw [h, rdu_on e (by omega) (by simp)]; rfl
end
end Qu
end Go.Proofs.YtilokhbhkbikiaaDoor
