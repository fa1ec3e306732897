/- The units' cells, and one step of their reading. -/
import Derived.Test.YtdclhepjoifpiaaGreatDoorUnsm
import Derived.Test.YtdclhepjoifpiaaGreatDoorAq
namespace Go.Proofs.YtdclhepjoifpiaaGreatDoor
open Go.RowKit

def WR (w wr : World) (t : List UInt8) (v : Value) : Prop := wr.ownsRow w.heap.size 5 1 v t.length (bytV t) ∧ Below w.heap.size w wr
theorem WR.of {w wr w' : World} {t u : List UInt8} {v v' : Value} {o : Obj} (h : WR w wr t v) (h1 : w'.ownsRow w.heap.size 5 1 v' (t.length + u.length) (bytV t ++ bytV u)) (h2 : (wr.alloc o).grownBy w' v.ownBlock) : WR w w' (t ++ u) v' := by
  refine ⟨by rw [List.length_append, show bytV (t ++ u) = bytV t ++ bytV u by simp [bytV]]; exact h1, ?_⟩
  refine (h.2.alloc h.2.size o).grown h2 (by have := h.2.size; simp; omega) (fun g e => ?_)
  rcases h.1.2 with ⟨rfl, _⟩ | ⟨g', cap, cur, rfl, hb', _⟩
  · cases e
  · obtain rfl : g' = g := by simpa [Value.ownBlock] using e
    exact hb'
theorem WR.conv {w wr : World} {t : List UInt8} {v : Value} (h : WR w wr t v) : ∃ A n c S, v = .slice A n c ∧ (convert 22 9 (.slice A n c)).run Tryz.prog wr = .ok (.string S) wr ∧ S = txt t := by
  obtain ⟨A, c, rfl, o1, o2, o3, o4, o5⟩ := own_form h.1
  exact ⟨A, _, c, _, rfl, conv_bytes _ c rfl o4, rfl⟩
theorem cells_two {w : World} (c d : UInt8) (x y : Int) (hx : x = (c.toNat : Int)) (hy : y = (d.toNat : Int)) : Byt (w.alloc (.cells #[.int .u8 x, .int .u8 y] 5)) (w.alloc (.cells #[.int .u8 x, .int .u8 y] 5)).heap.size (some ⟨w.heap.size, 0, none⟩) [c, d] := by
  subst hx; subst hy
  refine fun _ => ⟨w.heap.size, 0, rfl, by simp, fun k hk => ?_⟩
  rw [World.cell?_alloc_at _ _ _ _ rfl]
  obtain rfl | rfl : k = 0 ∨ k = 1 := by simp at hk; omega
  · rfl
  · rfl
theorem cells_one' {w : World} (c : UInt8) (x : Int) (hx : x = (c.toNat : Int)) : Byt (w.alloc (.cells #[.int .u8 x] 5)) (w.alloc (.cells #[.int .u8 x] 5)).heap.size (some ⟨w.heap.size, 0, none⟩) [c] := by
  subst hx
  refine fun _ => ⟨w.heap.size, 0, rfl, by simp, fun k hk => ?_⟩
  obtain rfl : k = 0 := by simpa using hk
  rw [World.cell?_alloc_at _ _ _ _ rfl]
  simp [bt]
theorem cells_six {w : World} (a b c d e f : UInt8) : Byt (w.alloc (.cells #[.int .u8 (a.toNat : Int), .int .u8 (b.toNat : Int), .int .u8 (c.toNat : Int), .int .u8 (d.toNat : Int), .int .u8 (e.toNat : Int), .int .u8 (f.toNat : Int)] 5)).drew
    (w.alloc (.cells #[.int .u8 (a.toNat : Int), .int .u8 (b.toNat : Int), .int .u8 (c.toNat : Int), .int .u8 (d.toNat : Int), .int .u8 (e.toNat : Int), .int .u8 (f.toNat : Int)] 5)).drew.heap.size (some ⟨w.heap.size, 0, none⟩) [a, b, c, d, e, f] := by
  refine fun _ => ⟨w.heap.size, 0, rfl, by show _ < (w.alloc _).heap.size; simp, fun k hk => ?_⟩
  show (w.alloc _).cell? _ = _
  rw [World.cell?_alloc_at _ _ _ _ rfl]
  obtain rfl | rfl | rfl | rfl | rfl | rfl : k = 0 ∨ k = 1 ∨ k = 2 ∨ k = 3 ∨ k = 4 ∨ k = 5 := by simp at hk; omega
  all_goals rfl

theorem usV_get : ∀ (us : List Qu.U) (j f : Nat) (u : Qu.U) (r : List Qu.U), us.drop j = u :: r → f < 4 → (usV us)[j * 4 + f]? = (uV u)[f]?
  | [], j, f, u, r, h, _ => by simp at h
  | x :: us, 0, f, u, r, h, hf => by
    simp only [List.drop_zero, List.cons.injEq] at h
    obtain ⟨rfl, rfl⟩ := h
    rw [Nat.zero_mul, Nat.zero_add, usV, List.flatMap_cons, List.getElem?_append_left (by simp [uV]; omega)]
  | x :: us, j + 1, f, u, r, h, hf => by
    rw [List.drop_succ_cons] at h
    have ih := usV_get us j f u r h hf
    rw [usV, List.flatMap_cons, List.getElem?_append_right (by simp [uV]; omega)]
    rw [← ih, usV]
    congr 1
    simp [uV]; omega
/-- The units lie in block g, as they were in W. -/
def UC (W : World) (g : Nat) (us : List Qu.U) : Prop := g < W.heap.size ∧ ∀ j u r, us.drop j = u :: r → W.cell? ⟨g, j * 4, none⟩ = some (.int .i64 (u.place : Int)) ∧ W.cell? ⟨g, j * 4 + 1, none⟩ = some (.int .i64 (u.long : Int)) ∧ W.cell? ⟨g, j * 4 + 2, none⟩ = some (.bool u.byte) ∧ W.cell? ⟨g, j * 4 + 3, none⟩ = some (.int .i64 (u.n : Int))
theorem drop_lt {us r : List Qu.U} {j : Nat} {u : Qu.U} (h : us.drop j = u :: r) : j < us.length ∧ r = us.drop (j + 1) := by
  rcases Nat.lt_or_ge j us.length with h1 | h1
  · refine ⟨h1, ?_⟩
    rw [List.drop_eq_getElem_cons h1] at h
    injection h with _ h; exact h.symm
  · rw [List.drop_eq_nil_of_le h1] at h; cases h
theorem uc_of {w : World} {base n : Nat} {v : Value} {us : List Qu.U} (h : w.ownsRow base 132 4 v n (usV us)) (hn : n = us.length) : ∃ A c, v = .slice A n c ∧ n ≤ c ∧ (0 < n → ∃ g, A = some ⟨g, 0, none⟩ ∧ UC w g us) := by
  rcases h.2 with ⟨rfl, rfl⟩ | ⟨g, cap, cur, rfl, _, _, hnc, _, _⟩
  · exact ⟨none, 0, rfl, Nat.le_refl _, fun h => absurd h (by omega)⟩
  · refine ⟨_, cap, rfl, hnc, fun _ => ⟨g, rfl, (h.lt _ rfl).2, fun j u r hd => ?_⟩⟩
    obtain ⟨hj, _⟩ := drop_lt hd
    refine ⟨?_, ?_, ?_, ?_⟩
    · rw [h.cellAt (j * 4) (by omega)]; have := usV_get us j 0 u r hd (by omega); simpa [uV] using this
    · rw [h.cellAt (j * 4 + 1) (by omega), usV_get us j 1 u r hd (by omega)]; rfl
    · rw [h.cellAt (j * 4 + 2) (by omega), usV_get us j 2 u r hd (by omega)]; rfl
    · rw [h.cellAt (j * 4 + 3) (by omega), usV_get us j 3 u r hd (by omega)]; rfl
theorem UC.at_ {W w : World} {g j : Nat} {us r : List Qu.U} {u : Qu.U} (h : UC W g us) (hb : Below W.heap.size W w) (hd : us.drop j = u :: r) : w.cell? ⟨g, j * 4, none⟩ = some (.int .i64 (u.place : Int)) ∧ w.cell? ⟨g, j * 4 + 1, none⟩ = some (.int .i64 (u.long : Int)) ∧ w.cell? ⟨g, j * 4 + 2, none⟩ = some (.bool u.byte) ∧ w.cell? ⟨g, j * 4 + 3, none⟩ = some (.int .i64 (u.n : Int)) := by
  obtain ⟨h0, h1⟩ := h
  obtain ⟨c0, c1, c2, c3⟩ := h1 j u r hd
  exact ⟨cell_old hb h0 c0, cell_old hb h0 c1, cell_old hb h0 c2, cell_old hb h0 c3⟩
namespace Qu
theorem unl_n : ∀ (N i : Nat) (m : List UInt8), m.length ≤ N → ∀ u ∈ (unl i m).1, u.byte = false → u.n < 65536 := fun N => by
  induction N with
  | zero =>
    intro i m hN u hu
    obtain rfl := List.eq_nil_of_length_eq_zero (Nat.le_zero.1 hN)
    rw [unl_bad i (show un [] = .bad 0 from rfl)] at hu; cases hu
  | succ N ih =>
    intro i m hN u hu hb
    cases hm : un m with
    | bad k => rw [unl_bad i hm] at hu; cases hu
    | done x => cases x with
      | nil => rw [unl_end i hm] at hu; cases hu
      | cons c r => rw [unl_more i hm] at hu; cases hu
    | unit k x r =>
      have hlen := un_unit hm
      cases x with
      | byte b =>
        rw [unl_byte i hm] at hu
        rcases List.mem_cons.1 hu with rfl | hu
        · cases hb
        · exact ih _ r (by omega) u hu hb
      | rune n =>
        rw [unl_rune i hm] at hu
        rcases List.mem_cons.1 hu with rfl | hu
        · exact (un_rune hm).2
        · exact ih _ r (by omega) u hu hb
theorem unq_n {l : List UInt8} {us : List U} {e : Option Nat} (h : unq l = (us, e)) : ∀ u ∈ us, u.byte = false → u.n < 65536 := by
  unfold unq at h
  split at h
  · rename_i r
    have := unl_n r.length 1 r (Nat.le_refl _)
    rw [h] at this; exact this
  · cases h; intro u hu; cases hu
section
variable {us r : List U} {j : Nat} {u v : U}
theorem step_byte (h : us.drop j = u :: us.drop (j + 1)) (hb : u.byte = true) : rdu (us.drop j) = (rdu (us.drop (j + 1))).pre 0 [UInt8.ofNat u.n] := by
  rw [h, rdu_on (show st (u :: us.drop (j + 1)) = some (.inl (1, [UInt8.ofNat u.n])) by rw [st_cons, if_pos hb]) (by omega) (by simp)]; rfl
theorem step_pair (h : us.drop j = u :: us.drop (j + 1)) (h2 : us.drop (j + 1) = v :: us.drop (j + 2)) (hb : u.byte = false) (hu : uh u = true) (hv : ul v = true) : rdu (us.drop j) = (rdu (us.drop (j + 2))).pre 0 (pt (pair u.n v.n)) := by
  have e : st (u :: us.drop (j + 1)) = some (.inl (2, pt (pair u.n v.n))) := by
    rw [h2, st_cons, if_neg (by simp [hb]), if_pos ⟨hu, hv⟩]
  generalize pt (pair u.n v.n) = x at e ⊢
  rw [h, rdu_on e (by omega) (by rw [h2]; simp), List.drop_succ_cons, h2]; rfl
theorem step_half (h : us.drop j = u :: us.drop (j + 1)) (hb : u.byte = false) (hu : uh u = true) (hv : ulH (us.drop (j + 1)) = false) : rdu (us.drop j) = .bad true u.place := by
  rw [h]
  exact rdu_bad (by rw [st_cons, if_neg (by simp [hb]), if_neg (by rw [hv]; simp), if_pos (.inl hu)])
theorem step_low (h : us.drop j = u :: us.drop (j + 1)) (hb : u.byte = false) (hu : uh u = false) (hv : ul u = true) : rdu (us.drop j) = .bad true u.place := by
  rw [h]
  exact rdu_bad (by rw [st_cons, if_neg (by simp [hb]), if_neg (by rw [hu]; simp), if_pos (.inr hv)])
theorem step_one (h : us.drop j = u :: us.drop (j + 1)) (hb : u.byte = false) (hu : uh u = false) (hv : ul u = false) : rdu (us.drop j) = (rdu (us.drop (j + 1))).pre 0 (pt u.n) := by
  have e : st (u :: us.drop (j + 1)) = some (.inl (1, pt u.n)) := by
    rw [st_cons, if_neg (by simp [hb]), if_neg (by rw [hu]; simp), if_neg (by rw [hu, hv]; simp)]
  generalize pt u.n = x at e ⊢
  rw [h, rdu_on e (by omega) (by simp)]; rfl
end
end Qu
end Go.Proofs.YtdclhepjoifpiaaGreatDoor
