/- What landed of values: May, Same, Cmp, Size, Deep, Text. -/
import Derived.Test.YtnnlgodgaolkkaaGreatDoorLfm
import Derived.Test.YtnnlgodgaolkkaaGreatDoorLom
import Derived.Test.YtnnlgodgaolkkaaGreatDoorLxm
import Derived.Test.YtnnlgodgaolkkaaGreatDoorLum
import Derived.Test.YtnnlgodgaolkkaaGreatDoorUim
namespace Go.Proofs.YtnnlgodgaolkkaaGreatDoor
open Go.RowKit
namespace Va
set_option maxRecDepth 100000

theorem mayD_may (x : V) : mayD 256 x = may x := rfl
theorem lmay_any {x : V} {v : Value} (w : World) (hv : Vm w v x) (hx : wt x ≤ 1000000) : Calls Tryz.prog 8 #[v] w fun e w' => e = .returned (.bool (may x)) ∧ Below w.heap.size w w' := by
  have CM := Lib.hid (fun (w' : World) (hb : Below w.heap.size w w') => may_any mayKeys_any 1000000 x hx (Nat.le_refl _) 256 w' v (by omega) (hv.on hb))
  obtain ⟨R, hR⟩ : ∃ R, R = may x := ⟨_, rfl⟩
  rw [mayD_may, ← hR] at CM
  rw [← hR]
  obtain ⟨k, t, l, ks⟩ := x
  obtain ⟨A, B, c, d, rfl, _⟩ := hv.inv
  obtain ⟨T, hT⟩ : ∃ T, T = txt t := ⟨_, rfl⟩
  rw [← hT] at CM ⊢
  clear hv hT hx hR
  go_enter Tryz.func8, Tryz.ntmps8
  go_wp2_with fail
  refine (CM.out _ (below_new ..)).mono ?_
  rintro e w2 ⟨rfl, hb⟩
  have HB := Lib.hid (below_tr (below_new ..) hb)
  clear hb
  go_wp2_with fail
  go_ret
  exact ⟨by first | rfl | trivial, HB.out⟩
theorem same_sm {x y : V} : sm x y = decide (fV x y = .eq) := by unfold sm fV; cases cmpV (can x) (can y) <;> rfl
set_option maxHeartbeats 4000000 in
theorem lsame_any {x y : V} {v u : Value} (w : World) (hv : Vm w v x) (hu : Vm w u y) (hx : wt x ≤ 1000000) (hy : wt y ≤ 1000000) :
    Calls Tryz.prog 10 #[v, u] w fun e w' => e = .returned (.bool (may x && may y && sm x y)) ∧ Below w.heap.size w w' := by
  have CX := Lib.hid (fun (w' : World) (hb : Below w.heap.size w w') => lmay_any w' (hv.on hb) hx)
  have CY := Lib.hid (fun (w' : World) (hb : Below w.heap.size w w') => lmay_any w' (hu.on hb) hy)
  have CO := Lib.hid (fun (w' : World) (hb : Below w.heap.size w w') (h1 : may x = true) (h2 : may y = true) => order_any 1000000 x y hx (Nat.le_refl _) hy h1 h2 w' v u (hv.on hb) (hu.on hb))
  obtain ⟨p, HP⟩ : ∃ p, Hid (p = may x) := ⟨_, Lib.hid rfl⟩
  obtain ⟨q, HQ⟩ : ∃ q, Hid (q = may y) := ⟨_, Lib.hid rfl⟩
  obtain ⟨z, HZ⟩ : ∃ z, Hid (z = fV x y) := ⟨_, Lib.hid rfl⟩
  rw [same_sm, ← HP.out, ← HQ.out, ← HZ.out]
  rw [← HP.out] at CX CO
  rw [← HQ.out] at CY CO
  rw [← HZ.out] at CO
  obtain ⟨k, t, l, ks⟩ := x
  obtain ⟨k', t', l', ks'⟩ := y
  obtain ⟨A, B, c, d, rfl, _⟩ := hv.inv
  obtain ⟨A', B', c', d', rfl, _⟩ := hu.inv
  obtain ⟨T, hT⟩ : ∃ T, T = txt t := ⟨_, rfl⟩
  obtain ⟨T', hT'⟩ : ∃ T, T = txt t' := ⟨_, rfl⟩
  obtain ⟨n, hn⟩ : ∃ n, n = l.length := ⟨_, rfl⟩
  obtain ⟨m, hm⟩ : ∃ n, n = ks.length := ⟨_, rfl⟩
  obtain ⟨n', hn'⟩ : ∃ n, n = l'.length := ⟨_, rfl⟩
  obtain ⟨m', hm'⟩ : ∃ n, n = ks'.length := ⟨_, rfl⟩
  rw [← hT, ← hn, ← hm] at CX CO ⊢
  rw [← hT', ← hn', ← hm'] at CY CO ⊢
  clear hv hu hT hT' hn hm hn' hm' hx hy HP HQ HZ
  obtain ⟨W1, hW1⟩ : ∃ W, W = w.alloc (vO (.int .u8 k) (.string T) (.slice A n c) (.slice B m d)) := ⟨_, rfl⟩
  obtain ⟨W2, hW2⟩ : ∃ W, W = W1.alloc (vO (.int .u8 k') (.string T') (.slice A' n' c') (.slice B' m' d')) := ⟨_, rfl⟩
  have hb1 : Below w.heap.size w W1 := by rw [hW1]; exact below_new ..
  have hb2 : Below W1.heap.size W1 W2 := by rw [hW2]; exact below_new ..
  have HX := Lib.hid (show Bx W2 w.heap.size (.int .u8 k) (.string T) (.slice A n c) (.slice B m d) from (show Bx W1 w.heap.size (.int .u8 k) (.string T) (.slice A n c) (.slice B m d) from by rw [hW1]; exact Bx.new ..).on hb2)
  have HY := Lib.hid (show Bx W2 W1.heap.size (.int .u8 k') (.string T') (.slice A' n' c') (.slice B' m' d') from by rw [hW2]; exact Bx.new ..)
  have hsz : w.heap.size + 1 = W1.heap.size := by rw [hW1]; show _ = (w.heap.push _).size; rw [Array.size_push]
  have HB2 := Lib.hid (below_tr hb1 hb2)
  have HW1 := Lib.hid hW1
  have HW2 := Lib.hid hW2
  clear hW1 hW2 hb1 hb2
  go_enter Tryz.func10, Tryz.ntmps10
  go_upto_region 1 with fail
  rw [← HW1.out, ← HW2.out]
  obtain ⟨h2, hh2⟩ : ∃ h2, h2 = W1.heap.size := ⟨_, rfl⟩
  rw [← hh2] at HY ⊢
  obtain ⟨h, hh⟩ : ∃ h, h = w.heap.size := ⟨_, rfl⟩
  rw [← hh] at HX ⊢
  clear HW1 HW2 hh hsz hh2
  obtain ⟨x0, x1, x2, x3⟩ : W2.cell? ⟨h, 0, none⟩ = some (.int .u8 k) ∧ W2.cell? ⟨h, 1, none⟩ = some (.string T) ∧ W2.cell? ⟨h, 2, none⟩ = some (.slice A n c) ∧ W2.cell? ⟨h, 3, none⟩ = some (.slice B m d) := ⟨HX.out.c0, HX.out.c1, HX.out.c2, HX.out.c3⟩
  go_wp2_with fail
  refine (CX.out _ HB2.out).mono ?_
  rintro e w3 ⟨rfl, hb⟩
  have HB3 := Lib.hid (below_tr HB2.out hb)
  have HX3 := Lib.hid (HX.out.on hb)
  have HY3 := Lib.hid (HY.out.on hb)
  clear hb x0 x1 x2 x3
  cases p with
  | false =>
    go_wp2_with fail
    go_ret
    exact ⟨ret_bool (by simp), HB3.out⟩
  | true =>
    obtain ⟨y0, y1, y2, y3⟩ : w3.cell? ⟨h2, 0, none⟩ = some (.int .u8 k') ∧ w3.cell? ⟨h2, 1, none⟩ = some (.string T') ∧ w3.cell? ⟨h2, 2, none⟩ = some (.slice A' n' c') ∧ w3.cell? ⟨h2, 3, none⟩ = some (.slice B' m' d') := ⟨HY3.out.c0, HY3.out.c1, HY3.out.c2, HY3.out.c3⟩
    go_wp2_with fail
    refine (CY.out _ HB3.out).mono ?_
    rintro e w4 ⟨rfl, hb⟩
    have HB4 := Lib.hid (below_tr HB3.out hb)
    have HX4 := Lib.hid (HX3.out.on hb)
    have HY4 := Lib.hid (HY3.out.on hb)
    clear hb y0 y1 y2 y3
    cases q with
    | false =>
      go_wp2_with fail
      go_ret
      exact ⟨ret_bool (by simp), HB4.out⟩
    | true =>
      have CO2 := Lib.hid (CO.out w4 HB4.out (by first | rfl | trivial) (by first | rfl | trivial))
      obtain ⟨x0, x1, x2, x3⟩ : w4.cell? ⟨h, 0, none⟩ = some (.int .u8 k) ∧ w4.cell? ⟨h, 1, none⟩ = some (.string T) ∧ w4.cell? ⟨h, 2, none⟩ = some (.slice A n c) ∧ w4.cell? ⟨h, 3, none⟩ = some (.slice B m d) := ⟨HX4.out.c0, HX4.out.c1, HX4.out.c2, HX4.out.c3⟩
      obtain ⟨y0, y1, y2, y3⟩ : w4.cell? ⟨h2, 0, none⟩ = some (.int .u8 k') ∧ w4.cell? ⟨h2, 1, none⟩ = some (.string T') ∧ w4.cell? ⟨h2, 2, none⟩ = some (.slice A' n' c') ∧ w4.cell? ⟨h2, 3, none⟩ = some (.slice B' m' d') := ⟨HY4.out.c0, HY4.out.c1, HY4.out.c2, HY4.out.c3⟩
      clear CO
      go_wp2_with fail
      refine CO2.out.mono ?_
      rintro e w5 ⟨rfl, hb⟩
      have HB5 := Lib.hid (below_tr HB4.out hb)
      clear hb x0 x1 x2 x3 y0 y1 y2 y3 CO2
      cases z with
      | lt =>
        simp only [oN]
        go_wp2_with fail
        go_ret
        exact ⟨by first | rfl | trivial, HB5.out⟩
      | eq =>
        simp only [oN]
        go_wp2_with fail
        go_ret
        exact ⟨by first | rfl | trivial, HB5.out⟩
      | gt =>
        simp only [oN]
        go_wp2_with fail
        go_ret
        exact ⟨by first | rfl | trivial, HB5.out⟩
set_option maxHeartbeats 4000000 in
theorem lcmp_any {x y : V} {v u : Value} (w : World) (hv : Vm w v x) (hu : Vm w u y) (hx : wt x ≤ 1000000) (hy : wt y ≤ 1000000) :
    Calls Tryz.prog 12 #[v, u] w fun e w' => e = .returned (.int .i64 (cI (may x) (may y) (oI (cmpV (can x) (can y))))) ∧ Below w.heap.size w w' := by
  have CX := Lib.hid (fun (w' : World) (hb : Below w.heap.size w w') => lmay_any w' (hv.on hb) hx)
  have CY := Lib.hid (fun (w' : World) (hb : Below w.heap.size w w') => lmay_any w' (hu.on hb) hy)
  have CO := Lib.hid (fun (w' : World) (hb : Below w.heap.size w w') (h1 : may x = true) (h2 : may y = true) => order_any 1000000 x y hx (Nat.le_refl _) hy h1 h2 w' v u (hv.on hb) (hu.on hb))
  obtain ⟨p, HP⟩ : ∃ p, Hid (p = may x) := ⟨_, Lib.hid rfl⟩
  obtain ⟨q, HQ⟩ : ∃ q, Hid (q = may y) := ⟨_, Lib.hid rfl⟩
  obtain ⟨z, HZ⟩ : ∃ z, Hid (z = fV x y) := ⟨_, Lib.hid rfl⟩
  rw [show oI (cmpV (can x) (can y)) = oN (fV x y) from rfl, ← HP.out, ← HQ.out, ← HZ.out]
  rw [← HP.out] at CX CO
  rw [← HQ.out] at CY CO
  rw [← HZ.out] at CO
  obtain ⟨k, t, l, ks⟩ := x
  obtain ⟨k', t', l', ks'⟩ := y
  obtain ⟨A, B, c, d, rfl, _⟩ := hv.inv
  obtain ⟨A', B', c', d', rfl, _⟩ := hu.inv
  obtain ⟨T, hT⟩ : ∃ T, T = txt t := ⟨_, rfl⟩
  obtain ⟨T', hT'⟩ : ∃ T, T = txt t' := ⟨_, rfl⟩
  obtain ⟨n, hn⟩ : ∃ n, n = l.length := ⟨_, rfl⟩
  obtain ⟨m, hm⟩ : ∃ n, n = ks.length := ⟨_, rfl⟩
  obtain ⟨n', hn'⟩ : ∃ n, n = l'.length := ⟨_, rfl⟩
  obtain ⟨m', hm'⟩ : ∃ n, n = ks'.length := ⟨_, rfl⟩
  rw [← hT, ← hn, ← hm] at CX CO ⊢
  rw [← hT', ← hn', ← hm'] at CY CO ⊢
  clear hv hu hT hT' hn hm hn' hm' hx hy HP HQ HZ
  obtain ⟨W1, hW1⟩ : ∃ W, W = w.alloc (vO (.int .u8 k) (.string T) (.slice A n c) (.slice B m d)) := ⟨_, rfl⟩
  obtain ⟨W2, hW2⟩ : ∃ W, W = W1.alloc (vO (.int .u8 k') (.string T') (.slice A' n' c') (.slice B' m' d')) := ⟨_, rfl⟩
  have hb1 : Below w.heap.size w W1 := by rw [hW1]; exact below_new ..
  have hb2 : Below W1.heap.size W1 W2 := by rw [hW2]; exact below_new ..
  have HX := Lib.hid (show Bx W2 w.heap.size (.int .u8 k) (.string T) (.slice A n c) (.slice B m d) from (show Bx W1 w.heap.size (.int .u8 k) (.string T) (.slice A n c) (.slice B m d) from by rw [hW1]; exact Bx.new ..).on hb2)
  have HY := Lib.hid (show Bx W2 W1.heap.size (.int .u8 k') (.string T') (.slice A' n' c') (.slice B' m' d') from by rw [hW2]; exact Bx.new ..)
  have hsz : w.heap.size + 1 = W1.heap.size := by rw [hW1]; show _ = (w.heap.push _).size; rw [Array.size_push]
  have HB2 := Lib.hid (below_tr hb1 hb2)
  have HW1 := Lib.hid hW1
  have HW2 := Lib.hid hW2
  clear hW1 hW2 hb1 hb2
  go_enter Tryz.func12, Tryz.ntmps12
  go_upto_region 1 with fail
  rw [← HW1.out, ← HW2.out]
  obtain ⟨h2, hh2⟩ : ∃ h2, h2 = W1.heap.size := ⟨_, rfl⟩
  rw [← hh2] at HY ⊢
  obtain ⟨h, hh⟩ : ∃ h, h = w.heap.size := ⟨_, rfl⟩
  rw [← hh] at HX ⊢
  clear HW1 HW2 hh hsz hh2
  obtain ⟨x0, x1, x2, x3⟩ : W2.cell? ⟨h, 0, none⟩ = some (.int .u8 k) ∧ W2.cell? ⟨h, 1, none⟩ = some (.string T) ∧ W2.cell? ⟨h, 2, none⟩ = some (.slice A n c) ∧ W2.cell? ⟨h, 3, none⟩ = some (.slice B m d) := ⟨HX.out.c0, HX.out.c1, HX.out.c2, HX.out.c3⟩
  go_wp2_with fail
  refine (CX.out _ HB2.out).mono ?_
  rintro e w3 ⟨rfl, hb⟩
  have HB3 := Lib.hid (below_tr HB2.out hb)
  have HX3 := Lib.hid (HX.out.on hb)
  have HY3 := Lib.hid (HY.out.on hb)
  clear hb x0 x1 x2 x3
  cases p with
  | false =>
    go_wp2_with fail
    go_ret
    exact ⟨by first | rfl | trivial, HB3.out⟩
  | true =>
    obtain ⟨y0, y1, y2, y3⟩ : w3.cell? ⟨h2, 0, none⟩ = some (.int .u8 k') ∧ w3.cell? ⟨h2, 1, none⟩ = some (.string T') ∧ w3.cell? ⟨h2, 2, none⟩ = some (.slice A' n' c') ∧ w3.cell? ⟨h2, 3, none⟩ = some (.slice B' m' d') := ⟨HY3.out.c0, HY3.out.c1, HY3.out.c2, HY3.out.c3⟩
    go_wp2_with fail
    refine (CY.out _ HB3.out).mono ?_
    rintro e w4 ⟨rfl, hb⟩
    have HB4 := Lib.hid (below_tr HB3.out hb)
    have HX4 := Lib.hid (HX3.out.on hb)
    have HY4 := Lib.hid (HY3.out.on hb)
    clear hb y0 y1 y2 y3
    cases q with
    | false =>
      go_wp2_with fail
      go_ret
      exact ⟨by first | rfl | trivial, HB4.out⟩
    | true =>
      have CO2 := Lib.hid (CO.out w4 HB4.out (by first | rfl | trivial) (by first | rfl | trivial))
      obtain ⟨x0, x1, x2, x3⟩ : w4.cell? ⟨h, 0, none⟩ = some (.int .u8 k) ∧ w4.cell? ⟨h, 1, none⟩ = some (.string T) ∧ w4.cell? ⟨h, 2, none⟩ = some (.slice A n c) ∧ w4.cell? ⟨h, 3, none⟩ = some (.slice B m d) := ⟨HX4.out.c0, HX4.out.c1, HX4.out.c2, HX4.out.c3⟩
      obtain ⟨y0, y1, y2, y3⟩ : w4.cell? ⟨h2, 0, none⟩ = some (.int .u8 k') ∧ w4.cell? ⟨h2, 1, none⟩ = some (.string T') ∧ w4.cell? ⟨h2, 2, none⟩ = some (.slice A' n' c') ∧ w4.cell? ⟨h2, 3, none⟩ = some (.slice B' m' d') := ⟨HY4.out.c0, HY4.out.c1, HY4.out.c2, HY4.out.c3⟩
      clear CO
      go_wp2_with fail
      refine CO2.out.mono ?_
      rintro e w5 ⟨rfl, hb⟩
      have HB5 := Lib.hid (below_tr HB4.out hb)
      clear hb x0 x1 x2 x3 y0 y1 y2 y3 CO2
      go_wp2_with fail
      go_ret
      exact ⟨by first | rfl | trivial, HB5.out⟩
set_option maxHeartbeats 4000000 in
/-- What is asked of a value that may be. -/
theorem askI_any {x : V} {v : Value} {g : FuncId} {R : Nat} (hg : g = 36 ∨ g = 37) (w : World) (hv : Vm w v x) (hx : wt x ≤ 1000000)
    (C : ∀ w' : World, Below w.heap.size w w' → Calls Tryz.prog g #[v] w' fun e w'' => e = .returned (.int .i64 (R : Nat)) ∧ Below w'.heap.size w' w'') :
    Calls Tryz.prog 35 #[v, .func (.func g) #[] #[]] w fun e w' => e = .returned (.int .i64 (iM (may x) R)) ∧ Below w.heap.size w w' := by
  have CM := Lib.hid (fun (w' : World) (hb : Below w.heap.size w w') => lmay_any w' (hv.on hb) hx)
  obtain ⟨p, HP⟩ : ∃ p, Hid (p = may x) := ⟨_, Lib.hid rfl⟩
  rw [← HP.out] at CM ⊢
  have HC := Lib.hid C
  obtain ⟨k, t, l, ks⟩ := x
  obtain ⟨A, B, c, d, rfl, _⟩ := hv.inv
  obtain ⟨T, hT⟩ : ∃ T, T = txt t := ⟨_, rfl⟩
  obtain ⟨n, hn⟩ : ∃ n, n = l.length := ⟨_, rfl⟩
  obtain ⟨m, hm⟩ : ∃ n, n = ks.length := ⟨_, rfl⟩
  rw [← hT, ← hn, ← hm] at CM HC ⊢
  clear hv hT hn hm hx HP C
  obtain ⟨W1, hW1⟩ : ∃ W, W = w.alloc (vO (.int .u8 k) (.string T) (.slice A n c) (.slice B m d)) := ⟨_, rfl⟩
  have hb1 : Below w.heap.size w W1 := by rw [hW1]; exact below_new ..
  have HX := Lib.hid (show Bx W1 w.heap.size (.int .u8 k) (.string T) (.slice A n c) (.slice B m d) from by rw [hW1]; exact Bx.new ..)
  have HB1 := Lib.hid hb1
  have HW1 := Lib.hid hW1
  clear hb1 hW1
  rcases hg with rfl | rfl <;>
  · go_enter Tryz.func35, Tryz.ntmps35
    go_upto_region 1 with fail
    rw [← HW1.out]
    obtain ⟨h, hh⟩ : ∃ h, h = w.heap.size := ⟨_, rfl⟩
    rw [← hh] at HX ⊢
    clear HW1 hh
    obtain ⟨x0, x1, x2, x3⟩ : W1.cell? ⟨h, 0, none⟩ = some (.int .u8 k) ∧ W1.cell? ⟨h, 1, none⟩ = some (.string T) ∧ W1.cell? ⟨h, 2, none⟩ = some (.slice A n c) ∧ W1.cell? ⟨h, 3, none⟩ = some (.slice B m d) := ⟨HX.out.c0, HX.out.c1, HX.out.c2, HX.out.c3⟩
    go_wp2_with fail
    refine (CM.out _ HB1.out).mono ?_
    rintro e w3 ⟨rfl, hb⟩
    have HB3 := Lib.hid (below_tr HB1.out hb)
    have HX3 := Lib.hid (HX.out.on hb)
    clear hb x0 x1 x2 x3
    cases p with
    | false =>
      go_wp2_with fail
      go_ret
      exact ⟨by first | rfl | trivial, HB3.out⟩
    | true =>
      obtain ⟨x0, x1, x2, x3⟩ : w3.cell? ⟨h, 0, none⟩ = some (.int .u8 k) ∧ w3.cell? ⟨h, 1, none⟩ = some (.string T) ∧ w3.cell? ⟨h, 2, none⟩ = some (.slice A n c) ∧ w3.cell? ⟨h, 3, none⟩ = some (.slice B m d) := ⟨HX3.out.c0, HX3.out.c1, HX3.out.c2, HX3.out.c3⟩
      go_wp2_with fail
      refine (HC.out _ HB3.out).mono ?_
      rintro e w4 ⟨rfl, hb⟩
      have HB4 := Lib.hid (below_tr HB3.out hb)
      clear hb x0 x1 x2 x3
      go_wp2_with fail
      go_ret
      exact ⟨by first | rfl | trivial, HB4.out⟩
theorem lsize_any {x : V} {v : Value} (w : World) (hv : Vm w v x) (hx : wt x ≤ 1000000) : Calls Tryz.prog 14 #[v] w fun e w' => e = .returned (.int .i64 (iM (may x) (sz x))) ∧ Below w.heap.size w w' := by
  have CA := Lib.hid (fun (w' : World) (hb : Below w.heap.size w w') => askI_any (.inl rfl) w' (hv.on hb) hx (fun w2 hb2 => size_any 1000000 x hx (Nat.le_refl _) w2 v ((hv.on hb).on hb2)))
  obtain ⟨R, hR⟩ : ∃ R, R = iM (may x) (sz x) := ⟨_, rfl⟩
  rw [← hR] at CA ⊢
  obtain ⟨k, t, l, ks⟩ := x
  obtain ⟨A, B, c, d, rfl, _⟩ := hv.inv
  obtain ⟨T, hT⟩ : ∃ T, T = txt t := ⟨_, rfl⟩
  rw [← hT] at CA ⊢
  clear hv hT hx hR
  go_enter Tryz.func14, Tryz.ntmps14
  go_wp2_with fail
  refine (CA.out _ (below_new ..)).mono ?_
  rintro e w2 ⟨rfl, hb⟩
  have HB := Lib.hid (below_tr (below_new ..) hb)
  clear hb
  go_wp2_with fail
  go_ret
  exact ⟨by first | rfl | trivial, HB.out⟩
theorem ldeep_any {x : V} {v : Value} (w : World) (hv : Vm w v x) (hx : wt x ≤ 1000000) : Calls Tryz.prog 16 #[v] w fun e w' => e = .returned (.int .i64 (iM (may x) (dp x))) ∧ Below w.heap.size w w' := by
  have CA := Lib.hid (fun (w' : World) (hb : Below w.heap.size w w') => askI_any (.inr rfl) w' (hv.on hb) hx (fun w2 hb2 => deep_any 1000000 x hx (Nat.le_refl _) w2 v ((hv.on hb).on hb2)))
  obtain ⟨R, hR⟩ : ∃ R, R = iM (may x) (dp x) := ⟨_, rfl⟩
  rw [← hR] at CA ⊢
  obtain ⟨k, t, l, ks⟩ := x
  obtain ⟨A, B, c, d, rfl, _⟩ := hv.inv
  obtain ⟨T, hT⟩ : ∃ T, T = txt t := ⟨_, rfl⟩
  rw [← hT] at CA ⊢
  clear hv hT hx hR
  go_enter Tryz.func16, Tryz.ntmps16
  go_wp2_with fail
  refine (CA.out _ (below_new ..)).mono ?_
  rintro e w2 ⟨rfl, hb⟩
  have HB := Lib.hid (below_tr (below_new ..) hb)
  clear hb
  go_wp2_with fail
  go_ret
  exact ⟨by first | rfl | trivial, HB.out⟩
end Va
end Go.Proofs.YtnnlgodgaolkkaaGreatDoor
/- What landed of values: inarch/values.Text. -/
namespace Go.Proofs.YtnnlgodgaolkkaaGreatDoor
open Go.RowKit
namespace Va
set_option maxRecDepth 100000

set_option maxHeartbeats 4000000 in
theorem wtltext_any {x : V} {v : Value} (w : World) (hv : Vm w v x) (hT : Shorts w ∧ 1 < w.heap.size) (hx : wt x ≤ 1000000) (hp : pl x = true) (hl : (teW plF x).length ≤ 800000000) :
    Calls Tryz.prog 40 #[.func (.func 39) #[] #[], v] w fun e w' => e = .returned (.string (txt (teW plF x))) ∧ Below w.heap.size w w' := by
  have CP := Lib.hid (fun (w' : World) (hb : Below w.heap.size w w') => by
    have h0 : TB w.heap.size w := ⟨hT.1, hT.2, Nat.le_refl _⟩
    have h1 : TB w'.heap.size w' := ⟨(h0.on hb).1, Nat.lt_of_lt_of_le hT.2 hb.size, Nat.le_refl _⟩
    have := put_any 1000000 x hx (Nat.le_refl _) hp w'.heap.size w' (.slice none 0 0) v [] (Vk.to (hv.on hb) (fun g hg _ => hg)) (BW.nil w') h1 (by simp; omega)
    rw [List.nil_append] at this
    exact this)
  obtain ⟨Y, hY⟩ : ∃ Y, Y = teW plF x := ⟨_, rfl⟩
  rw [← hY] at CP ⊢
  obtain ⟨k, t, l, ks⟩ := x
  obtain ⟨A, B, c, d, rfl, _⟩ := hv.inv
  obtain ⟨T, hT'⟩ : ∃ T, T = txt t := ⟨_, rfl⟩
  rw [← hT'] at CP ⊢
  clear hv hT' hx hY hT hp hl
  go_enter Tryz.func40, Tryz.ntmps40
  go_wp2_with fail
  refine (CP.out _ (below_new ..)).mono ?_
  rintro e w2 ⟨b, rfl, h1, h2⟩
  have HB := Lib.hid (below_tr (below_new ..) ((BW.nil _).below h2))
  obtain ⟨A9, c9, rfl, o1, o2, o3, o4, o5⟩ := own_form h1.1
  have hcv := conv_bytes (w := w2) Y.length c9 rfl o4
  clear h1 h2 o1 o2 o3 o4 o5
  go_wp2_with fail
  go_ret
  exact ⟨by first | rfl | trivial, HB.out⟩
set_option maxHeartbeats 4000000 in
theorem askltext_any {x : V} {v : Value} {Y : Bs} (w : World) (hv : Vm w v x) (hx : wt x ≤ 1000000)
    (C : ∀ w' : World, Below w.heap.size w w' → may x = true → Calls Tryz.prog 40 #[.func (.func 39) #[] #[], v] w' fun e w'' => e = .returned (.string (txt Y)) ∧ Below w'.heap.size w' w'') :
    Calls Tryz.prog 38 #[v, .func (.func 40) #[.func (.func 39) #[] #[]] #[]] w fun e w' => e = .returned (.string (txt (if may x = true then Y else []))) ∧ Below w.heap.size w w' := by
  have CM := Lib.hid (fun (w' : World) (hb : Below w.heap.size w w') => lmay_any w' (hv.on hb) hx)
  have HC := Lib.hid C
  obtain ⟨p, HP⟩ : ∃ p, Hid (p = may x) := ⟨_, Lib.hid rfl⟩
  rw [← HP.out] at CM HC ⊢
  obtain ⟨k, t, l, ks⟩ := x
  obtain ⟨A, B, c, d, rfl, _⟩ := hv.inv
  obtain ⟨T, hT⟩ : ∃ T, T = txt t := ⟨_, rfl⟩
  obtain ⟨n, hn⟩ : ∃ n, n = l.length := ⟨_, rfl⟩
  obtain ⟨m, hm⟩ : ∃ n, n = ks.length := ⟨_, rfl⟩
  rw [← hT, ← hn, ← hm] at CM HC ⊢
  clear hv hT hn hm hx HP C
  obtain ⟨W1, hW1⟩ : ∃ W, W = w.alloc (vO (.int .u8 k) (.string T) (.slice A n c) (.slice B m d)) := ⟨_, rfl⟩
  have hb1 : Below w.heap.size w W1 := by rw [hW1]; exact below_new ..
  have HX := Lib.hid (show Bx W1 w.heap.size (.int .u8 k) (.string T) (.slice A n c) (.slice B m d) from by rw [hW1]; exact Bx.new ..)
  have HB1 := Lib.hid hb1
  have HW1 := Lib.hid hW1
  clear hb1 hW1
  go_enter Tryz.func38, Tryz.ntmps38
  go_upto_region 1 with fail
  rw [← HW1.out]
  obtain ⟨h, hh⟩ : ∃ h, h = w.heap.size := ⟨_, rfl⟩
  rw [← hh] at HX ⊢
  clear HW1 hh
  obtain ⟨x0, x1, x2, x3⟩ : W1.cell? ⟨h, 0, none⟩ = some (.int .u8 k) ∧ W1.cell? ⟨h, 1, none⟩ = some (.string T) ∧ W1.cell? ⟨h, 2, none⟩ = some (.slice A n c) ∧ W1.cell? ⟨h, 3, none⟩ = some (.slice B m d) := ⟨HX.out.c0, HX.out.c1, HX.out.c2, HX.out.c3⟩
  go_wp2_with fail
  refine (CM.out _ HB1.out).mono ?_
  rintro e w3 ⟨rfl, hb⟩
  have HB3 := Lib.hid (below_tr HB1.out hb)
  have HX3 := Lib.hid (HX.out.on hb)
  clear hb x0 x1 x2 x3
  cases p with
  | false =>
    clear HC
    go_wp2_with fail
    go_ret
    exact ⟨by first | rfl | trivial, HB3.out⟩
  | true =>
    have HC3 := Lib.hid (HC.out w3 HB3.out (by first | rfl | trivial))
    obtain ⟨x0, x1, x2, x3⟩ : w3.cell? ⟨h, 0, none⟩ = some (.int .u8 k) ∧ w3.cell? ⟨h, 1, none⟩ = some (.string T) ∧ w3.cell? ⟨h, 2, none⟩ = some (.slice A n c) ∧ w3.cell? ⟨h, 3, none⟩ = some (.slice B m d) := ⟨HX3.out.c0, HX3.out.c1, HX3.out.c2, HX3.out.c3⟩
    clear HC
    go_wp2_with fail
    refine HC3.out.mono ?_
    rintro e w4 ⟨rfl, hb⟩
    have HB4 := Lib.hid (below_tr HB3.out hb)
    clear hb x0 x1 x2 x3
    go_wp2_with fail
    go_ret
    exact ⟨by first | rfl | trivial, HB4.out⟩
set_option maxHeartbeats 4000000 in
theorem ltext_any {x : V} {v : Value} (w : World) (hv : Vm w v x) (hT : Shorts w ∧ 1 < w.heap.size) (hx : wt x ≤ 1000000) (hl : pl x = true → (teW plF x).length ≤ 800000000) :
    Calls Tryz.prog 18 #[v] w fun e w' => e = .returned (.string (txt (if may x = true then teW plF x else []))) ∧ Below w.heap.size w w' := by
  have CA := Lib.hid (fun (w' : World) (hb : Below w.heap.size w w') => askltext_any (Y := teW plF x) w' (hv.on hb) hx (fun w2 hb2 hm => by
    have hp : pl x = true := by unfold may at hm; rw [Bool.and_eq_true] at hm; exact hm.2
    have hbb := hb.trans (hb2.mono hb.size)
    exact wtltext_any w2 ((hv.on hb).on hb2) ⟨hT.1.old hT.2 hbb, Nat.lt_of_lt_of_le hT.2 hbb.size⟩ hx hp (hl hp)))
  obtain ⟨R, hR⟩ : ∃ R, R = txt (if may x = true then teW plF x else []) := ⟨_, rfl⟩
  rw [← hR] at CA ⊢
  obtain ⟨k, t, l, ks⟩ := x
  obtain ⟨A, B, c, d, rfl, _⟩ := hv.inv
  obtain ⟨T, hT'⟩ : ∃ T, T = txt t := ⟨_, rfl⟩
  rw [← hT'] at CA ⊢
  clear hv hT' hx hR hT hl
  go_enter Tryz.func18, Tryz.ntmps18
  go_wp2_with fail
  refine (CA.out _ (below_new ..)).mono ?_
  rintro e w2 ⟨rfl, hb⟩
  have HB := Lib.hid (below_tr (below_new ..) hb)
  clear hb
  go_wp2_with fail
  go_ret
  exact ⟨by first | rfl | trivial, HB.out⟩
end Va
end Go.Proofs.YtnnlgodgaolkkaaGreatDoor
