/- What landed of values: entries held against one another; rows of entries. -/
import Derived.Test.YtnnlgodgaolkkaaGreatDoorLhm
import Derived.Sort.Grow
namespace Go.Proofs.YtnnlgodgaolkkaaGreatDoor
open Go.RowKit
namespace Va
set_option maxRecDepth 100000

theorem En.five {w : World} {g o : Nat} {e : En} (h : ∀ j u, e.enc[j]? = some u → w.cell? ⟨g, o + j, none⟩ = some u) : w.cell? ⟨g, o, none⟩ = some (.string (txt e.key)) ∧ w.cell? ⟨g, o + 1, none⟩ = some (.int .u8 e.kd) ∧ w.cell? ⟨g, o + 2, none⟩ = some (.string e.tx) ∧ w.cell? ⟨g, o + 3, none⟩ = some (.slice e.A e.n e.c) ∧ w.cell? ⟨g, o + 4, none⟩ = some (.slice e.B e.m e.d) :=
  ⟨h 0 _ rfl, h 1 _ rfl, h 2 _ rfl, h 3 _ rfl, h 4 _ rfl⟩
theorem five_new (w : World) (a b c d e : Value) : (w.alloc (eO a b c d e)).cell? ⟨w.heap.size, 0, none⟩ = some a ∧ (w.alloc (eO a b c d e)).cell? ⟨w.heap.size, 1, none⟩ = some b ∧ (w.alloc (eO a b c d e)).cell? ⟨w.heap.size, 2, none⟩ = some c ∧ (w.alloc (eO a b c d e)).cell? ⟨w.heap.size, 3, none⟩ = some d ∧ (w.alloc (eO a b c d e)).cell? ⟨w.heap.size, 4, none⟩ = some e := by
  have h := heap_alloc_new w (eO a b c d e)
  refine ⟨?_, ?_, ?_, ?_, ?_⟩ <;> · simp only [World.cell?, h]; rfl
set_option maxHeartbeats 4000000 in
/-- How two entries stand by their keys: two blocks are laid. -/
theorem byKey_any (e f : En) (w : World) : Calls Tryz.prog 75 #[.agg e.enc.toArray, .agg f.enc.toArray] w fun r w' => r = .returned (.int .i64 (oN (bcmp e.key f.key))) ∧ ∃ q os', w' = Sort.grow (w.drewN q) os' := by
  obtain ⟨k1, n1, t1, A1, a1, b1, B1, c1, d1⟩ := e
  obtain ⟨k2, n2, t2, A2, a2, b2, B2, c2, d2⟩ := f
  obtain ⟨S, hS⟩ : ∃ S, S = txt k1 := ⟨_, rfl⟩
  obtain ⟨T, hT⟩ : ∃ T, T = txt k2 := ⟨_, rfl⟩
  have CS := Lib.hid (strc_any hS hT)
  show Calls Tryz.prog 75 #[.agg #[.string (txt k1), .int .u8 n1, .string t1, .slice A1 a1 b1, .slice B1 c1 d1], .agg #[.string (txt k2), .int .u8 n2, .string t2, .slice A2 a2 b2, .slice B2 c2 d2]] w _
  rw [← hS, ← hT]
  obtain ⟨R, hR⟩ : ∃ R, R = oN (bcmp k1 k2) := ⟨_, rfl⟩
  show Calls _ _ _ _ fun r w' => r = .returned (.int .i64 (oN (bcmp k1 k2))) ∧ _
  rw [← hR] at CS ⊢
  clear hS hT hR
  go_enter Tryz.func75, Tryz.ntmps75
  go_wp2_with fail
  refine (CS.out _).mono ?_
  rintro e w2 ⟨rfl, rfl⟩
  go_wp2_with fail
  go_ret
  exact ⟨rfl, 0, _, by rw [Sort.alloc_eq_grow, Sort.alloc_eq_grow, Sort.grow_grow]; rfl⟩
theorem below_grow (w : World) (q : Nat) (os : Array Obj) : Below w.heap.size w (Sort.grow (w.drewN q) os) :=
  ⟨rfl, rfl, rfl, by simp [Sort.grow], fun g hg => by simp [Sort.grow, Array.getElem?_append, hg]⟩
theorem byKeyB (e f : En) (w : World) : Calls Tryz.prog 75 #[.agg e.enc.toArray, .agg f.enc.toArray] w fun r w' => r = .returned (.int .i64 (oN (bcmp e.key f.key))) ∧ Below w.heap.size w w' :=
  (byKey_any e f w).mono fun _r _w ⟨h, q, os, hw⟩ => ⟨h, hw ▸ below_grow w q os⟩
set_option maxHeartbeats 4000000 in
/-- How two entries stand: by their keys, then by their values. -/
theorem entO_any {e f : En} {x y : V} {z : Ordering} (w : World) (_hx : Vm w e.val x) (_hy : Vm w f.val y)
    (H : ∀ w' : World, Below w.heap.size w w' → Calls Tryz.prog 32 #[e.val, f.val] w' fun r w'' => r = .returned (.int .i64 (oN z)) ∧ Below w'.heap.size w' w'') :
    Calls Tryz.prog 56 #[.agg e.enc.toArray, .agg f.enc.toArray] w fun r w' => r = .returned (.int .i64 (oN ((bcmp e.key f.key).then z))) ∧ Below w.heap.size w w' := by
  have CB := Lib.hid (byKeyB e f)
  have HH := Lib.hid H
  clear H _hx _hy
  obtain ⟨k1, n1, t1, A1, a1, b1, B1, c1, d1⟩ := e
  obtain ⟨k2, n2, t2, A2, a2, b2, B2, c2, d2⟩ := f
  obtain ⟨S, hS⟩ : ∃ S, S = txt k1 := ⟨_, rfl⟩
  obtain ⟨T, hT⟩ : ∃ T, T = txt k2 := ⟨_, rfl⟩
  have CB : Hid (∀ w : World, Calls Tryz.prog 75 #[.agg #[.string S, .int .u8 n1, .string t1, .slice A1 a1 b1, .slice B1 c1 d1], .agg #[.string T, .int .u8 n2, .string t2, .slice A2 a2 b2, .slice B2 c2 d2]] w fun r w' => r = .returned (.int .i64 (oN (bcmp k1 k2))) ∧ Below w.heap.size w w') := by rw [hS, hT]; exact CB
  have HH : Hid (∀ w' : World, Below w.heap.size w w' → Calls Tryz.prog 32 #[.agg #[.int .u8 n1, .string t1, .slice A1 a1 b1, .slice B1 c1 d1], .agg #[.int .u8 n2, .string t2, .slice A2 a2 b2, .slice B2 c2 d2]] w' fun r w'' => r = .returned (.int .i64 (oN z)) ∧ Below w'.heap.size w' w'') := HH
  show Calls Tryz.prog 56 #[.agg #[.string (txt k1), .int .u8 n1, .string t1, .slice A1 a1 b1, .slice B1 c1 d1], .agg #[.string (txt k2), .int .u8 n2, .string t2, .slice A2 a2 b2, .slice B2 c2 d2]] w fun r w' => r = .returned (.int .i64 (oN ((bcmp k1 k2).then z))) ∧ Below w.heap.size w w'
  rw [← hS, ← hT]
  obtain ⟨b, hb⟩ : ∃ b, b = bcmp k1 k2 := ⟨_, rfl⟩
  rw [← hb] at CB ⊢
  clear hS hT hb
  obtain ⟨W1, hW1⟩ : ∃ W, W = w.alloc (eO (.string S) (.int .u8 n1) (.string t1) (.slice A1 a1 b1) (.slice B1 c1 d1)) := ⟨_, rfl⟩
  obtain ⟨W2, hW2⟩ : ∃ W, W = W1.alloc (eO (.string T) (.int .u8 n2) (.string t2) (.slice A2 a2 b2) (.slice B2 c2 d2)) := ⟨_, rfl⟩
  have hb1 : Below w.heap.size w W1 := by rw [hW1]; exact below_new ..
  have hb2 : Below W1.heap.size W1 W2 := by rw [hW2]; exact below_new ..
  have hl1 : w.heap.size < W1.heap.size := by rw [hW1]; show _ < (w.heap.push _).size; rw [Array.size_push]; omega
  have hl2 : W1.heap.size < W2.heap.size := by rw [hW2]; show _ < (W1.heap.push _).size; rw [Array.size_push]; omega
  have F1 := five_new w (.string S) (.int .u8 n1) (.string t1) (.slice A1 a1 b1) (.slice B1 c1 d1)
  rw [← hW1] at F1
  have F2 := five_new W1 (.string T) (.int .u8 n2) (.string t2) (.slice A2 a2 b2) (.slice B2 c2 d2)
  rw [← hW2] at F2
  have hsz : w.heap.size + 1 = W1.heap.size := by rw [hW1]; show _ = (w.heap.push _).size; rw [Array.size_push]
  obtain ⟨p0, p1, p2, p3, p4⟩ := F1
  obtain ⟨q0, q1, q2, q3, q4⟩ := F2
  have r0 := cell_old hb2 hl1 p0
  have r1 := cell_old hb2 hl1 p1
  have r2 := cell_old hb2 hl1 p2
  have r3 := cell_old hb2 hl1 p3
  have r4 := cell_old hb2 hl1 p4
  have HB2 := Lib.hid (below_tr hb1 hb2)
  have HL1 := Lib.hid (show w.heap.size < W2.heap.size by omega)
  have HL2 := Lib.hid hl2
  have HW1 := Lib.hid hW1
  have HW2 := Lib.hid hW2
  clear hb1 hb2 p0 p1 p2 p3 p4 hW1 hW2 hl1 hl2
  go_enter Tryz.func56, Tryz.ntmps56
  go_upto_region 1 with fail
  rw [← HW1.out, ← HW2.out]
  obtain ⟨h2, hh2⟩ : ∃ h2, h2 = W1.heap.size := ⟨_, rfl⟩
  rw [← hh2] at q0 q1 q2 q3 q4 HL2
  try rw [← hh2]
  obtain ⟨h, hh⟩ : ∃ h, h = w.heap.size := ⟨_, rfl⟩
  rw [← hh] at r0 r1 r2 r3 r4 HL1
  try rw [← hh]
  clear HW1 HW2 hh hsz hh2
  go_wp2_with fail
  refine (CB.out _).mono ?_
  rintro e w3 ⟨rfl, hb⟩
  have HB3 := Lib.hid (below_tr HB2.out hb)
  have s1 := cell_old hb HL1.out r1
  have s2 := cell_old hb HL1.out r2
  have s3 := cell_old hb HL1.out r3
  have s4 := cell_old hb HL1.out r4
  have u1 := cell_old hb HL2.out q1
  have u2 := cell_old hb HL2.out q2
  have u3 := cell_old hb HL2.out q3
  have u4 := cell_old hb HL2.out q4
  clear hb r0 r1 r2 r3 r4 q0 q1 q2 q3 q4
  cases b with
  | lt =>
    simp only [oN]
    go_wp2_with fail
    go_ret
    exact ⟨by first | rfl | trivial, HB3.out⟩
  | gt =>
    simp only [oN]
    go_wp2_with fail
    go_ret
    exact ⟨by first | rfl | trivial, HB3.out⟩
  | eq =>
    simp only [oN]
    go_wp2_with fail
    refine (HH.out _ HB3.out).mono ?_
    rintro e w4 ⟨rfl, hb⟩
    have HB4 := Lib.hid (below_tr HB3.out hb)
    clear hb
    go_wp2_with fail
    go_ret
    exact ⟨by cases z <;> rfl, HB4.out⟩
end Va
end Go.Proofs.YtnnlgodgaolkkaaGreatDoor
