/- What landed: digits with one low mark between two of them at most. -/
import Derived.Test.YtonfaphllpjmpaaDoorPb
import Derived.Test.YtonfaphllpjmpaaDoorInR
namespace Go.Proofs.YtonfaphllpjmpaaDoor
open Go.RowKit

theorem below_alloc {W w : World} {o : Obj} (h : Below (W.alloc o).heap.size (W.alloc o) w) : Below W.heap.size W w :=
  ((Below.refl W.heap.size W).alloc (Nat.le_refl _) o).trans (h.mono (by simp))
/-- The parts' own block, whatever came behind it. -/
theorem wr_cells {W w : World} {m : Bool} {b : Int} {s : ByteArray} (h : Below (W.alloc (wrt m b s)).heap.size (W.alloc (wrt m b s)) w) :
    w.cell? ⟨W.heap.size, 0, none⟩ = some (.bool m) ∧ w.cell? ⟨W.heap.size, 1, none⟩ = some (.int .i64 b) ∧ w.cell? ⟨W.heap.size, 2, none⟩ = some (.string s) := by
  refine ⟨?_, ?_, ?_⟩ <;> (rw [h.cell (by simp), World.cell?_alloc_new]; rfl)
/-- A round of the look at the digits. -/
def SpRel (W : World) (b : Nat) (r : List UInt8) (k : Nat) (y : Int) (wx : World) : Prop :=
  k ≤ r.length ∧ In.spc b false r = In.spc b (decide (y ≠ 95)) (r.drop k) ∧ Below W.heap.size W wx
theorem spc_end {b : Nat} {r : List UInt8} {k : Nat} {p : Bool} (h : k = r.length) : In.spc b p (r.drop k) = p := by
  rw [h, List.drop_length]; rfl
theorem spc_95 {b : Nat} {r : List UInt8} {k : Nat} (h : k < r.length) (hy : bt r k = 95) (p : Bool) : In.spc b p (r.drop k) = if p = true then In.spc b false (r.drop (k + 1)) else false := by
  obtain ⟨c, e, hb⟩ := drop_one h
  obtain rfl : c = 95 := by_num (k := 95) hb (by omega) hy
  rw [e, In.spc, if_pos rfl]
theorem spc_dg {b : Nat} (hb : b ≤ 16) {r : List UInt8} {k : Nat} (h : k < r.length) (hy : bt r k ≠ 95) (p : Bool) : In.spc b p (r.drop k) = if decide (0 ≤ gJ (bt r k) ∧ gJ (bt r k) < b) = true then In.spc b true (r.drop (k + 1)) else false := by
  obtain ⟨c, e, hbb⟩ := drop_one h
  rw [hbb] at hy ⊢
  rw [gJ_dg c hb, e, In.spc, if_neg (by rintro rfl; exact hy rfl)]
  simp
set_option maxHeartbeats 4000000 in
set_option maxRecDepth 100000 in
theorem pspaced_is {r : List UInt8} {s : ByteArray} {m x : Bool} {b : Nat} (w : World) (hs : s = txt r) (hl : r.length ≤ 100000) (hb : b ≤ 16) (hx : x = In.spc b false r) :
    Calls Tryd.prog 60 #[wrv m b s] w fun e w' => e = .returned (.bool x) ∧ Below w.heap.size w w' := by
  have HS := Lib.hid hs
  have HZ := Lib.hid (show s.size = r.length by rw [hs, txt_size])
  have hsz : s.size ≤ 100000 := by rw [HZ.out]; exact hl
  have HX := Lib.hid hx
  have HBB := Lib.hid hb
  have R0 : SpRel (w.alloc (wrt m b s)) b r 0 95 (w.alloc (wrt m b s)) := ⟨Nat.zero_le _, rfl, Below.refl _ _⟩
  clear hs hl hx hb
  go_enter Tryd.func60, Tryd.ntmps60
  go_wp2_with fail
  go_loopw [3, 9] (fun v i wx => ∃ (k : Nat) (y : Int), i = .int .i64 k ∧ v = .int .u8 y ∧ SpRel (w.alloc (wrt m b s)) b r k y wx) (fun _ i _ => s.size - (intOf i).toNat)
  case atStart => exact ⟨0, 95, rfl, rfl, R0⟩
  case round =>
    obtain ⟨k, y, rfl, rfl, Rk⟩ := hrel
    clear R0
    have HRk := Lib.hid Rk
    obtain ⟨c0, c1, c2⟩ := wr_cells Rk.2.2
    have hkT : k ≤ s.size := by rw [HZ.out]; exact Rk.1
    clear Rk
    by_cases hlt : k < s.size
    · have hkr : k < r.length := by rw [← HZ.out]; exact hlt
      have hx := txt_at HS.out (k := k)
      have b0 := bt_lo r k
      have b1 := bt_hi r k
      obtain ⟨z, HYY⟩ : ∃ z, Hid (z = bt r k) := ⟨_, rfl⟩
      rw [← HYY.out] at hx b0 b1
      by_cases h95 : z = 95
      · have HE := Lib.hid (show bt r k = 95 by rw [← HYY.out]; exact h95)
        have E := Lib.hid (spc_95 (b := b) hkr HE.out (decide (y ≠ 95)))
        subst h95
        by_cases hy : y = 95
        · have F := Lib.hid (show x = false by rw [HX.out, HRk.out.2.1, E.out, hy]; rfl)
          subst hy
          go_wp2_with fail
          go_ret
          exact ⟨ret_bool (by rw [F.out]), below_alloc HRk.out.2.2⟩
        · have hyi : (y == 95) = false := by simp [hy]
          have F := Lib.hid (show SpRel (w.alloc (wrt m b s)) b r (k + 1) 95 _ from ⟨hkr, by rw [HRk.out.2.1, E.out, decide_eq_true hy]; rfl, HRk.out.2.2⟩)
          go_wp2_with fail
          exact ⟨⟨k + 1, 95, by simp, rfl, F.out⟩, by simp [intOf]; omega⟩
      · have hzi : (z == 95) = false := by simp [h95]
        have HE := Lib.hid (show bt r k ≠ 95 by rw [← HYY.out]; exact h95)
        obtain ⟨q, hq⟩ : ∃ q, q = decide (0 ≤ gJ z ∧ gJ z < (b : Int)) := ⟨_, rfl⟩
        have E := Lib.hid (spc_dg HBB.out hkr HE.out (decide (y ≠ 95)))
        rw [← HYY.out, ← hq] at E
        have HP := Lib.hid (fun w => phas_is (m := m) (s := s) w hq b0 b1)
        clear hq
        go_wp2_with fail
        refine (HP.out _).mono ?_
        rintro e w1 ⟨rfl, rfl⟩
        cases q
        · have F := Lib.hid (show x = false by rw [HX.out, HRk.out.2.1, E.out]; rfl)
          go_wp2_with fail
          go_ret
          exact ⟨ret_bool (by rw [F.out]), (below_alloc HRk.out.2.2).alloc (below_alloc HRk.out.2.2).size _⟩
        · have F := Lib.hid (show In.spc b false r = In.spc b (decide (z ≠ 95)) (r.drop (k + 1)) by rw [HRk.out.2.1, E.out, decide_eq_true h95]; rfl)
          go_wp2_with fail
          exact ⟨⟨k + 1, z, by simp, rfl, hkr, F.out, HRk.out.2.2.alloc HRk.out.2.2.size _⟩, by simp [intOf]; omega⟩
    · have F := Lib.hid (show x = decide (y ≠ 95) by rw [HX.out, HRk.out.2.1, spc_end (by rw [← HZ.out]; omega)])
      go_wp2_with fail
      go_ret
      exact ⟨ret_bool (by rw [F.out]; by_cases h : y = 95 <;> simp [h]), below_alloc HRk.out.2.2⟩
end Go.Proofs.YtonfaphllpjmpaaDoor
