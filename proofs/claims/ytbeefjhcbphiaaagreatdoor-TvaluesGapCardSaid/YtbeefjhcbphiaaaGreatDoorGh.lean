/- What landed: what begins with a radix's prefix. -/
import Derived.Test.YtbeefjhcbphiaaaGreatDoorGg
import Derived.Deep.RegionWith
import Derived.Deep.RegionLaw
import Derived.Deep.QuietTactic
namespace Go.Proofs.YtbeefjhcbphiaaaGreatDoor.II
open Go.RowKit

/-- The table of radixes lies as the program lays it. -/
def Rads (w : World) : Prop := w.cell? ⟨6, 0, none⟩ = some (.int .u8 48) ∧ w.cell? ⟨6, 1, none⟩ = some (.int .u8 120) ∧ w.cell? ⟨6, 2, none⟩ = some (.int .i64 16) ∧ w.cell? ⟨6, 3, none⟩ = some (.int .u8 48) ∧ w.cell? ⟨6, 4, none⟩ = some (.int .u8 111) ∧ w.cell? ⟨6, 5, none⟩ = some (.int .i64 8) ∧ w.cell? ⟨6, 6, none⟩ = some (.int .u8 48) ∧ w.cell? ⟨6, 7, none⟩ = some (.int .u8 98) ∧ w.cell? ⟨6, 8, none⟩ = some (.int .i64 2)
theorem cell_lt {w : World} {b i : Nat} {v : Value} (h : w.cell? ⟨b, i, none⟩ = some v) : b < w.heap.size := by
  rcases Nat.lt_or_ge b w.heap.size with h' | h'
  · exact h'
  · simp [World.cell?, Array.getElem?_eq_none h'] at h
theorem Rads.below {w w' : World} (h : Rads w) (hb : Below w.heap.size w w') : Rads w' := by
  have hl := cell_lt h.1
  unfold Rads at h ⊢
  simp only [hb.cell (p := ⟨6, _, none⟩) hl]
  exact h
theorem rx_0 (w : World) : (Instr.index 272 (.agg #[.int .u8 48, .int .u8 120, .int .i64 16, .int .u8 48, .int .u8 111, .int .i64 8, .int .u8 48, .int .u8 98, .int .i64 2]) (.int .i64 0)).run Tryz.prog w = .ok (.agg #[.int .u8 48, .int .u8 120, .int .i64 16]) w := by kernel_rfl
theorem rx_1 (w : World) : (Instr.index 272 (.agg #[.int .u8 48, .int .u8 120, .int .i64 16, .int .u8 48, .int .u8 111, .int .i64 8, .int .u8 48, .int .u8 98, .int .i64 2]) (.int .i64 1)).run Tryz.prog w = .ok (.agg #[.int .u8 48, .int .u8 111, .int .i64 8]) w := by kernel_rfl
theorem rx_2 (w : World) : (Instr.index 272 (.agg #[.int .u8 48, .int .u8 120, .int .i64 16, .int .u8 48, .int .u8 111, .int .i64 8, .int .u8 48, .int .u8 98, .int .i64 2]) (.int .i64 2)).run Tryz.prog w = .ok (.agg #[.int .u8 48, .int .u8 98, .int .i64 2]) w := by kernel_rfl
theorem wr_frozen {W w : World} {m : Bool} {b : Int} {s : ByteArray} (h : Below (W.alloc (wrt m b s)).heap.size (W.alloc (wrt m b s)) w) (i : Nat) : w.frozen? ⟨W.heap.size, i, none⟩ = false := by
  rw [h.frozen (by simp)]; exact World.frozen?_alloc_at _ _ _ _ rfl
/-- The base that a prefix tells. -/
def pbs (l : List UInt8) : Nat := if bt l 1 = 120 then 16 else if bt l 1 = 111 then 8 else 2
def pxv (l : List UInt8) : Value := if rdx l = true then .tuple #[wrv false (pbs l) (txt (l.drop 2)), .bool true] else .tuple #[wrv false 0 ⟨#[]⟩, .bool false]
def PxRel (W : World) (l : List UInt8) (k : Nat) (wx : World) : Prop :=
  Below W.heap.size W wx ∧ (0 < k → ¬ (bt l 0 = 48 ∧ bt l 1 = 120)) ∧ (1 < k → ¬ (bt l 0 = 48 ∧ bt l 1 = 111)) ∧ (2 < k → ¬ (bt l 0 = 48 ∧ bt l 1 = 98))
theorem PxRel.more {W w w' : World} {l : List UInt8} {k : Nat} (h : PxRel W l k w) (hb : Below w.heap.size w w') : PxRel W l k w' := ⟨below_tr h.1 hb, h.2⟩
theorem PxRel.drawn {W w : World} {l : List UInt8} {k : Nat} (h : PxRel W l k w) (n : Nat) : PxRel W l k (w.drewN n) := ⟨below_drewN h.1 n, h.2⟩
theorem PxRel.next0 {W w : World} {l : List UInt8} (h : PxRel W l 0 w) (n : ¬ (bt l 0 = 48 ∧ bt l 1 = 120)) : PxRel W l 1 w := ⟨h.1, fun _ => n, fun h => absurd h (by omega), fun h => absurd h (by omega)⟩
theorem PxRel.next1 {W w : World} {l : List UInt8} (h : PxRel W l 1 w) (n : ¬ (bt l 0 = 48 ∧ bt l 1 = 111)) : PxRel W l 2 w := ⟨h.1, fun _ => h.2.1 (by omega), fun _ => n, fun h => absurd h (by omega)⟩
theorem PxRel.next2 {W w : World} {l : List UInt8} (h : PxRel W l 2 w) (n : ¬ (bt l 0 = 48 ∧ bt l 1 = 98)) : PxRel W l 3 w := ⟨h.1, fun _ => h.2.1 (by omega), fun _ => h.2.2.1 (by omega), fun _ => n⟩
theorem pxv_no {W w : World} {l : List UInt8} {v : Value} (hv : v = pxv l) (h : PxRel W l 3 w) : v = .tuple #[wrv false 0 ⟨#[]⟩, .bool false] := by
  obtain ⟨_, h1, h2, h3⟩ := h
  have h1 := h1 (by omega)
  have h2 := h2 (by omega)
  have h3 := h3 (by omega)
  rw [hv, pxv, if_neg]
  simp only [rdx, decide_eq_true_eq]
  rintro ⟨_, a, b | b | b⟩
  · exact h1 ⟨a, b⟩
  · exact h2 ⟨a, b⟩
  · exact h3 ⟨a, b⟩
theorem pxv_of {l : List UInt8} {s : ByteArray} {v : Value} {c : Int} {b : Nat} (hs : s = txt l) (hv : v = pxv l) (h1 : 1 < s.size) (h2 : bt l 0 = 48) (h3 : bt l 1 = c) (hc : c = 120 ∧ b = 16 ∨ c = 111 ∧ b = 8 ∨ c = 98 ∧ b = 2) : v = .tuple #[wrv false b (s.extract 2 s.size), .bool true] := by
  have hz : s.size = l.length := by rw [hs, txt_size]
  have hr : rdx l = true := by
    simp only [rdx, decide_eq_true_eq]
    refine ⟨by omega, h2, ?_⟩
    rcases hc with ⟨e, _⟩ | ⟨e, _⟩ | ⟨e, _⟩ <;> omega
  rw [hv, pxv, if_pos hr, hs, txt_cut, txt_size, List.take_length]
  have e : pbs l = b := by
    unfold pbs
    rcases hc with ⟨e, rfl⟩ | ⟨e, rfl⟩ | ⟨e, rfl⟩
    · rw [if_pos (by omega)]
    · rw [if_neg (by omega), if_pos (by omega)]
    · rw [if_neg (by omega), if_neg (by omega)]
  rw [e]
set_option maxHeartbeats 4000000 in
set_option maxRecDepth 100000 in
theorem pprefixed_is {l : List UInt8} {s : ByteArray} {v : Value} (w : World) (hs : s = txt l) (hl : l.length ≤ 100000) (hT : Rads w) (hv : v = pxv l) :
    Calls Tryz.prog 199 #[.string s] w fun e w' => e = .returned v ∧ Below w.heap.size w w' := by
  have HS := Lib.hid hs
  have HZ := Lib.hid (show s.size = l.length by rw [hs, txt_size])
  have hsz : s.size ≤ 100000 := by rw [HZ.out]; exact hl
  have HV := Lib.hid hv
  have HT := Lib.hid hT
  have HLT := Lib.hid (cell_lt hT.1)
  have hx0 := txt_at hs (k := 0)
  have hx1 := txt_at hs (k := 1)
  obtain ⟨y0, HY0⟩ : ∃ y, Hid (y = bt l 0) := ⟨_, Lib.hid rfl⟩
  obtain ⟨y1, HY1⟩ : ∃ y, Hid (y = bt l 1) := ⟨_, Lib.hid rfl⟩
  rw [← HY0.out] at hx0
  rw [← HY1.out] at hx1
  clear hs hl hv hT
  by_cases h2 : s.size < 2
  · have F := Lib.hid (show v = .tuple #[wrv false 0 ⟨#[]⟩, .bool false] by rw [HV.out, pxv, if_neg]; simp [rdx]; intro h; have := HZ.out; omega)
    have h2i : (s.size : Int) < 2 := by omega
    clear hx0 hx1
    go_enter Tryz.func199, Tryz.ntmps199
    go_wp2_with fail
    refine bodyPost_ret (v := .tuple #[wrv false 0 ⟨#[]⟩, .bool false]) (by simp [results, Tryz.results199, go_sem]) rfl ?_
    exact ⟨by rw [F.out], (Below.refl w.heap.size w).alloc (Nat.le_refl _) _⟩
  · have h2i : ¬ (s.size : Int) < 2 := by omega
    have i0 : 0 < s.size := by omega
    have i1 : 1 < s.size := by omega
    have R0 : PxRel (w.alloc (wrt false 0 ⟨#[]⟩)) l 0 (w.alloc (wrt false 0 ⟨#[]⟩)) := ⟨Below.refl _ _, fun h => absurd h (by omega), fun h => absurd h (by omega), fun h => absurd h (by omega)⟩
    obtain ⟨z0, z1, z2, z3, z4, z5, z6, z7, z8⟩ := HT.out.below ((Below.refl w.heap.size w).alloc (Nat.le_refl _) (wrt false 0 ⟨#[]⟩))
    go_enter Tryz.func199, Tryz.ntmps199
    go_wp2_with fail
    clear z0 z1 z2 z3 z4 z5 z6 z7 z8
    go_loopw [11] (fun i wx => ∃ (k : Nat), k ≤ 3 ∧ i = .int .i64 k ∧ PxRel (w.alloc (wrt false 0 ⟨#[]⟩)) l k wx) (fun i _ => 3 - (intOf i).toNat)
    case atStart => exact ⟨0, by omega, rfl, R0⟩
    case round =>
      obtain ⟨k, hk, rfl, Rk⟩ := hrel
      clear R0
      have HRk := Lib.hid Rk
      obtain ⟨c0, c1, c2⟩ := wr_cells Rk.1
      have f0 := wr_frozen Rk.1 0
      have f1 := wr_frozen Rk.1 1
      have f2 := wr_frozen Rk.1 2
      clear Rk
      rcases (show k = 0 ∨ k = 1 ∨ k = 2 ∨ k = 3 by omega) with rfl | rfl | rfl | rfl
      · have hix := rx_0 wr
        by_cases hq : y0 = 48 ∧ y1 = 120
        · have F := Lib.hid (show v = .tuple #[wrv false 16 (s.extract 2 s.size), .bool true] from pxv_of (v := v) (c := 120) (b := 16) HS.out HV.out i1 (by rw [← HY0.out]; exact hq.1) (by rw [← HY1.out]; exact hq.2) (by simp))
          obtain ⟨rfl, rfl⟩ := hq
          go_upto_region 6 with fail
          go_quiet (fail)
          obtain ⟨wq, hwq⟩ : ∃ wq, wq = (wr.alloc (.cells #[.int .u8 48, .int .u8 120, .int .i64 16] 271)).drewN nq := ⟨_, rfl⟩
          rw [← hwq]
          have HBq := Lib.hid (show Below (w.alloc (wrt false 0 ⟨#[]⟩)).heap.size (w.alloc (wrt false 0 ⟨#[]⟩)) wq by rw [hwq]; exact below_drewN (HRk.out.1.alloc HRk.out.1.size _) _)
          obtain ⟨e0, e1, e2⟩ := wr_cells HBq.out
          have g0 := wr_frozen HBq.out 0
          have g1 := wr_frozen HBq.out 1
          have g2 := wr_frozen HBq.out 2
          have r2 : wq.cell? ⟨wr.heap.size, 2, none⟩ = some (.int .i64 16) := by rw [hwq]; exact World.cell?_alloc_new _ _ _ _
          clear c0 c1 c2 f0 f1 f2 hwq
          go_upto_region 7 with fail
          go_region
          go_wp2_with fail
          refine bodyPost_ret (v := .tuple #[wrv false 16 (s.extract 2 s.size), .bool true]) (by simp [results, Tryz.results199, go_sem, *]) rfl ?_
          exact ⟨by rw [F.out], ((((below_alloc HBq.out).setCell (Nat.le_refl _) _).setCell (Nat.le_refl _) _).setCell (Nat.le_refl _) _).drew⟩
        · have F := Lib.hid (show PxRel (w.alloc (wrt false 0 ⟨#[]⟩)) l 1 _ from (HRk.out.next0 (by rw [← HY0.out, ← HY1.out]; exact hq)).more ((Below.refl _ _).alloc (Nat.le_refl _) (.cells #[.int .u8 48, .int .u8 120, .int .i64 16] 271)))
          by_cases hy : y0 = 48
          · have hz : ¬ y1 = 120 := fun h => hq ⟨hy, h⟩
            have hz1 : ¬ (120 : Int) = y1 := fun h => hz h.symm
            have hz2 : ((120 : Int) == y1) = false := by simp [hz1]
            subst hy
            clear hq
            go_upto_region 6 with fail
            go_quiet (fail)
            go_wp2_with fail
            exact ⟨⟨1, by omega, rfl, F.out.drawn _⟩, by decide⟩
          · have hz1 : ¬ (48 : Int) = y0 := fun h => hy h.symm
            have hz2 : ((48 : Int) == y0) = false := by simp [hz1]
            clear hq
            go_upto_region 6 with fail
            go_quiet (fail)
            go_wp2_with fail
            exact ⟨⟨1, by omega, rfl, F.out.drawn _⟩, by decide⟩
      · have hix := rx_1 wr
        by_cases hq : y0 = 48 ∧ y1 = 111
        · have F := Lib.hid (show v = .tuple #[wrv false 8 (s.extract 2 s.size), .bool true] from pxv_of (v := v) (c := 111) (b := 8) HS.out HV.out i1 (by rw [← HY0.out]; exact hq.1) (by rw [← HY1.out]; exact hq.2) (by simp))
          obtain ⟨rfl, rfl⟩ := hq
          go_upto_region 6 with fail
          go_quiet (fail)
          obtain ⟨wq, hwq⟩ : ∃ wq, wq = (wr.alloc (.cells #[.int .u8 48, .int .u8 111, .int .i64 8] 271)).drewN nq := ⟨_, rfl⟩
          rw [← hwq]
          have HBq := Lib.hid (show Below (w.alloc (wrt false 0 ⟨#[]⟩)).heap.size (w.alloc (wrt false 0 ⟨#[]⟩)) wq by rw [hwq]; exact below_drewN (HRk.out.1.alloc HRk.out.1.size _) _)
          obtain ⟨e0, e1, e2⟩ := wr_cells HBq.out
          have g0 := wr_frozen HBq.out 0
          have g1 := wr_frozen HBq.out 1
          have g2 := wr_frozen HBq.out 2
          have r2 : wq.cell? ⟨wr.heap.size, 2, none⟩ = some (.int .i64 8) := by rw [hwq]; exact World.cell?_alloc_new _ _ _ _
          clear c0 c1 c2 f0 f1 f2 hwq
          go_upto_region 7 with fail
          go_region
          go_wp2_with fail
          refine bodyPost_ret (v := .tuple #[wrv false 8 (s.extract 2 s.size), .bool true]) (by simp [results, Tryz.results199, go_sem, *]) rfl ?_
          exact ⟨by rw [F.out], ((((below_alloc HBq.out).setCell (Nat.le_refl _) _).setCell (Nat.le_refl _) _).setCell (Nat.le_refl _) _).drew⟩
        · have F := Lib.hid (show PxRel (w.alloc (wrt false 0 ⟨#[]⟩)) l 2 _ from (HRk.out.next1 (by rw [← HY0.out, ← HY1.out]; exact hq)).more ((Below.refl _ _).alloc (Nat.le_refl _) (.cells #[.int .u8 48, .int .u8 111, .int .i64 8] 271)))
          by_cases hy : y0 = 48
          · have hz : ¬ y1 = 111 := fun h => hq ⟨hy, h⟩
            have hz1 : ¬ (111 : Int) = y1 := fun h => hz h.symm
            have hz2 : ((111 : Int) == y1) = false := by simp [hz1]
            subst hy
            clear hq
            go_upto_region 6 with fail
            go_quiet (fail)
            go_wp2_with fail
            exact ⟨⟨2, by omega, rfl, F.out.drawn _⟩, by decide⟩
          · have hz1 : ¬ (48 : Int) = y0 := fun h => hy h.symm
            have hz2 : ((48 : Int) == y0) = false := by simp [hz1]
            clear hq
            go_upto_region 6 with fail
            go_quiet (fail)
            go_wp2_with fail
            exact ⟨⟨2, by omega, rfl, F.out.drawn _⟩, by decide⟩
      · have hix := rx_2 wr
        by_cases hq : y0 = 48 ∧ y1 = 98
        · have F := Lib.hid (show v = .tuple #[wrv false 2 (s.extract 2 s.size), .bool true] from pxv_of (v := v) (c := 98) (b := 2) HS.out HV.out i1 (by rw [← HY0.out]; exact hq.1) (by rw [← HY1.out]; exact hq.2) (by simp))
          obtain ⟨rfl, rfl⟩ := hq
          go_upto_region 6 with fail
          go_quiet (fail)
          obtain ⟨wq, hwq⟩ : ∃ wq, wq = (wr.alloc (.cells #[.int .u8 48, .int .u8 98, .int .i64 2] 271)).drewN nq := ⟨_, rfl⟩
          rw [← hwq]
          have HBq := Lib.hid (show Below (w.alloc (wrt false 0 ⟨#[]⟩)).heap.size (w.alloc (wrt false 0 ⟨#[]⟩)) wq by rw [hwq]; exact below_drewN (HRk.out.1.alloc HRk.out.1.size _) _)
          obtain ⟨e0, e1, e2⟩ := wr_cells HBq.out
          have g0 := wr_frozen HBq.out 0
          have g1 := wr_frozen HBq.out 1
          have g2 := wr_frozen HBq.out 2
          have r2 : wq.cell? ⟨wr.heap.size, 2, none⟩ = some (.int .i64 2) := by rw [hwq]; exact World.cell?_alloc_new _ _ _ _
          clear c0 c1 c2 f0 f1 f2 hwq
          go_upto_region 7 with fail
          go_region
          go_wp2_with fail
          refine bodyPost_ret (v := .tuple #[wrv false 2 (s.extract 2 s.size), .bool true]) (by simp [results, Tryz.results199, go_sem, *]) rfl ?_
          exact ⟨by rw [F.out], ((((below_alloc HBq.out).setCell (Nat.le_refl _) _).setCell (Nat.le_refl _) _).setCell (Nat.le_refl _) _).drew⟩
        · have F := Lib.hid (show PxRel (w.alloc (wrt false 0 ⟨#[]⟩)) l 3 _ from (HRk.out.next2 (by rw [← HY0.out, ← HY1.out]; exact hq)).more ((Below.refl _ _).alloc (Nat.le_refl _) (.cells #[.int .u8 48, .int .u8 98, .int .i64 2] 271)))
          by_cases hy : y0 = 48
          · have hz : ¬ y1 = 98 := fun h => hq ⟨hy, h⟩
            have hz1 : ¬ (98 : Int) = y1 := fun h => hz h.symm
            have hz2 : ((98 : Int) == y1) = false := by simp [hz1]
            subst hy
            clear hq
            go_upto_region 6 with fail
            go_quiet (fail)
            go_wp2_with fail
            exact ⟨⟨3, by omega, rfl, F.out.drawn _⟩, by decide⟩
          · have hz1 : ¬ (48 : Int) = y0 := fun h => hy h.symm
            have hz2 : ((48 : Int) == y0) = false := by simp [hz1]
            clear hq
            go_upto_region 6 with fail
            go_quiet (fail)
            go_wp2_with fail
            exact ⟨⟨3, by omega, rfl, F.out.drawn _⟩, by decide⟩
      · have F := Lib.hid (pxv_no (v := v) HV.out HRk.out)
        go_wp2_with fail
        refine bodyPost_ret (v := .tuple #[wrv false 0 ⟨#[]⟩, .bool false]) (by simp [results, Tryz.results199, go_sem, *]) rfl ?_
        exact ⟨by rw [F.out], (((below_alloc HRk.out.1).setCell (Nat.le_refl _) _).setCell (Nat.le_refl _) _).setCell (Nat.le_refl _) _⟩
end Go.Proofs.YtbeefjhcbphiaaaGreatDoor.II
