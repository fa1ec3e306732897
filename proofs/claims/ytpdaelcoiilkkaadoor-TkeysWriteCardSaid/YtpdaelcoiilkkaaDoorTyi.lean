/- The law's own questions of TOML's keys: is, fails. -/
import Derived.Test.YtpdaelcoiilkkaaDoorTyh
namespace Go.Proofs.YtpdaelcoiilkkaaDoor
open Go.RowKit
namespace Ty

theorem own_cells {w : World} {base n c : Nat} {e : TypeId} {A : Option Addr} {xs : List Value} (h : w.ownsRow base e 1 (.slice A n c) n xs) : ∀ k, k < n → ∃ b off, A = some ⟨b, off, none⟩ ∧ ∀ j, j < n → w.cell? ⟨b, off + j, none⟩ = xs[j]? := by
  intro k hk
  rcases h.2 with ⟨e, rfl⟩ | ⟨g, cap, cur, e, hb, hg, h1, h2, h3, h4⟩
  · omega
  · injection e with e _ _
    refine ⟨g, 0, e, fun j hj => ?_⟩
    rw [cell_of_row w g _ cur _ (0, 0) hg, ← Array.getElem?_toList, ← h4, List.getElem?_take, if_pos (by omega), Nat.zero_add]
theorem kw_at (k : Ky) (j : Nat) (h : j < k.length) : (kwC k)[j]? = some (.string (txt ((k.map Prod.fst).getD j []))) := by
  unfold kwC
  rw [List.getElem?_map, List.getElem?_eq_getElem h, List.getD_eq_getElem?_getD, List.getElem?_map, List.getElem?_eq_getElem h]
  rfl
abbrev keyO (v u : Value) : Obj := .cells #[v, u] 26
theorem two_cells {w : World} {a b : Value} {c d : Value} :
    (((w.alloc (keyO a b)).alloc (.cells #[c, d] 29)).cell? ⟨w.heap.size, 0, none⟩ = some a ∧ ((w.alloc (keyO a b)).alloc (.cells #[c, d] 29)).cell? ⟨w.heap.size, 1, none⟩ = some b) ∧
    ((w.alloc (keyO a b)).alloc (.cells #[c, d] 29)).cell? ⟨w.heap.size + 1, 0, none⟩ = some c ∧ ((w.alloc (keyO a b)).alloc (.cells #[c, d] 29)).cell? ⟨w.heap.size + 1, 1, none⟩ = some d := by
  have e1 : ((w.alloc (keyO a b)).alloc (.cells #[c, d] 29)).heap[w.heap.size]? = some (keyO a b) := by
    show ((w.heap.push _).push _)[w.heap.size]? = _
    rw [Array.getElem?_push_lt (by simp)]; simp
  have e2 : ((w.alloc (keyO a b)).alloc (.cells #[c, d] 29)).heap[w.heap.size + 1]? = some (.cells #[c, d] 29) := by
    show ((w.heap.push _).push _)[w.heap.size + 1]? = _
    rw [Array.getElem?_push, if_pos (by simp)]
  exact ⟨⟨by rw [cell_of_row _ _ _ _ _ _ e1]; rfl, by rw [cell_of_row _ _ _ _ _ _ e1]; rfl⟩, by rw [cell_of_row _ _ _ _ _ _ e2]; rfl, by rw [cell_of_row _ _ _ _ _ _ e2]; rfl⟩
set_option maxHeartbeats 4000000 in
set_option maxRecDepth 100000 in
theorem is_of {s : ByteArray} {at_ en : Nat} {k : Ky} {B : Option Addr} {n d : Nat} (w : World) (hC : Calls Tryd.prog 8 #[.string s, .int .i64 at_] w (KPost w (.ok k en))) (hn : n = k.length) (hn6 : n ≤ 1000)
    (hB : ∀ j, j < n → ∃ b off, B = some ⟨b, off, none⟩ ∧ ∀ j, j < n → w.cell? ⟨b, off + j, none⟩ = some (.string (txt ((k.map Prod.fst).getD j [])))) :
    Calls Tryd.prog 18 #[.string s, .int .i64 at_, .int .i64 en, .slice B n d] w fun e w' => e = .returned (.bool true) ∧ Below w.heap.size w w' := by
  subst hn
  obtain ⟨n, hn⟩ : ∃ n, n = k.length := ⟨_, rfl⟩
  rw [← hn] at hn6 hB ⊢
  have HC := Lib.hid hC
  have HB := Lib.hid hB
  have HN := Lib.hid hn
  clear hC hB hn
  go_enter Tryd.func18, Tryd.ntmps18
  go_wp2_with fail
  refine HC.out.mono ?_
  rintro e w1 ⟨hb1, A1, B1, cA, cB, rfl, hoA, _⟩
  rw [← HN.out] at hoA ⊢
  have HB1 := Lib.hid hb1
  have HOA := Lib.hid hoA
  clear hb1 hoA
  go_upto_region 2 with fail
  obtain ⟨W, hW⟩ : ∃ W, W = (w1.alloc (keyO (.slice A1 n n) (.slice B1 n n))).alloc (.cells #[.int .i64 0, .int .i64 0] 29) := ⟨_, rfl⟩
  have hbW : Below w1.heap.size w1 W := by rw [hW]; exact ((Below.refl _ _).alloc (Nat.le_refl _) _).alloc (by rw [al_size]; omega) _
  obtain ⟨⟨c0, c1⟩, c2, c3⟩ := two_cells (w := w1) (a := .slice A1 n n) (b := .slice B1 n n) (c := .int .i64 0) (d := .int .i64 0)
  rw [← hW] at c0 c1 c2 c3 ⊢
  have HBW := Lib.hid (below_tr HB1.out hbW)
  have HCS := Lib.hid (same_yes (L := k.map Prod.fst) (A := A1) (B := B) (n := n) (c := n) (d := d) (w := W) (by rw [List.length_map]; exact HN.out) hn6
    (fun j hj => by
      obtain ⟨b, off, e, h⟩ := own_cells HOA.out j hj
      refine ⟨b, off, e, fun j hj => ?_⟩
      have h9 := (h j hj).trans (kw_at k j (by rw [← HN.out]; exact hj))
      exact (hbW.cell (p := ⟨b, off + j, none⟩) (World.block_lt_of_cell? _ _ h9)).trans h9)
    (fun j hj => by
      obtain ⟨b, off, e, h⟩ := HB.out j hj
      exact ⟨b, off, e, fun j hj => (HBW.out.cell (p := ⟨b, off + j, none⟩) (World.block_lt_of_cell? _ _ (h j hj))).trans (h j hj)⟩))
  clear hW hbW
  go_wp2_with (go_at_call 32; refine HCS.out.mono ?_; rintro e w' ⟨rfl, hb⟩)
  go_ret
  exact ⟨rfl, below_tr HBW.out hb⟩
set_option maxHeartbeats 4000000 in
set_option maxRecDepth 100000 in
theorem fails_of {s : ByteArray} {at_ bad : Nat} (w : World) (hC : Calls Tryd.prog 8 #[.string s, .int .i64 at_] w (KPost w (.bad 3 bad))) :
    Calls Tryd.prog 19 #[.string s, .int .i64 at_, .int .i64 bad] w fun e w' => e = .returned (.bool true) ∧ Below w.heap.size w w' := by
  have HC := Lib.hid hC
  clear hC
  go_enter Tryd.func19, Tryd.ntmps19
  go_wp2_with fail
  refine HC.out.mono ?_
  rintro e w1 ⟨hb1, rfl⟩
  have HB1 := Lib.hid hb1
  clear hb1
  go_upto_region 2 with fail
  obtain ⟨W, hW⟩ : ∃ W, W = (w1.alloc (keyO (.slice none 0 0) (.slice none 0 0))).alloc (.cells #[.int .i64 3, .int .i64 bad] 29) := ⟨_, rfl⟩
  have hbW : Below w1.heap.size w1 W := by rw [hW]; exact ((Below.refl _ _).alloc (Nat.le_refl _) _).alloc (by rw [al_size]; omega) _
  obtain ⟨⟨c0, c1⟩, c2, c3⟩ := two_cells (w := w1) (a := .slice none 0 0) (b := .slice none 0 0) (c := .int .i64 3) (d := .int .i64 bad)
  rw [← hW] at c0 c1 c2 c3 ⊢
  have HBW := Lib.hid (below_tr HB1.out hbW)
  clear hW hbW
  go_wp2_with fail
  go_ret
  exact ⟨rfl, HBW.out⟩
end Ty
end Go.Proofs.YtpdaelcoiilkkaaDoor
