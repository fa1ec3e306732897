/- The law's own: are two values just alike? -/
import Derived.Test.YtnnlgodgaolkkaaGreatDoorHe
import Derived.Test.YtnnlgodgaolkkaaGreatDoorHo
namespace Go.Proofs.YtnnlgodgaolkkaaGreatDoor
open Go.RowKit
namespace Va
set_option maxRecDepth 100000

set_option maxHeartbeats 16000000 in
set_option maxRecDepth 100000 in
theorem like_any : ∀ (N : Nat) (x : V), wt x ≤ N → N ≤ 1000000000000 → ∀ (w : World) (v u : Value), Vm w v x → Vm w u x →
    Calls Tryz.prog 23 #[v, u] w fun e w' => e = .returned (.bool true) ∧ Below w.heap.size w w'
  | 0, x, hx, _, _, _, _, _, _ => by have := wt_pos x; omega
  | N + 1, .mk k t l ks, hx, hN, w, v, u, hv, hu => by
    obtain ⟨A, B, c, d, rfl, hk, hl, hc, hA, hd, hd2, hB, hK, hV⟩ := hv.inv
    obtain ⟨A', B', c', d', rfl, hk', hl', hc', hA', hd', hd2', hB', hK', hV'⟩ := hu.inv
    have IH := Lib.hid (fun (i : Nat) (x : V) (hi : l[i]? = some x) (w : World) (v u : Value) (h : Vm w v x) (h' : Vm w u x) =>
      like_any N x (by have := wt_sub (k := k) (t := t) (ks := ks) hi; omega) (by omega) w v u h h')
    obtain ⟨T, hT⟩ : ∃ T, T = txt t := ⟨_, rfl⟩
    obtain ⟨n, HN⟩ : ∃ n, Hid (n = l.length) := ⟨_, Lib.hid rfl⟩
    obtain ⟨m, HM⟩ : ∃ m, Hid (m = ks.length) := ⟨_, Lib.hid rfl⟩
    rw [← HN.out, ← HM.out, ← hT]
    rw [← HN.out] at hl hl'
    rw [← HM.out] at hd hd'
    have hn5 : n ≤ 1000000000000 := by rw [HN.out]; have := wtL_len l; rw [wt] at hx; omega
    have hm5 : m ≤ 1000000000000 := by rw [HM.out]; rw [wt] at hx; omega
    obtain ⟨W1, hW1⟩ : ∃ W, W = w.alloc (vO (.int .u8 k) (.string T) (.slice A n c) (.slice B m d)) := ⟨_, rfl⟩
    obtain ⟨W2, hW2⟩ : ∃ W, W = W1.alloc (vO (.int .u8 k) (.string T) (.slice A' n c') (.slice B' m d')) := ⟨_, rfl⟩
    have hb1 : Below w.heap.size w W1 := by rw [hW1]; exact below_new ..
    have hb2 : Below W1.heap.size W1 W2 := by rw [hW2]; exact below_new ..
    have HX := Lib.hid (show Bx W2 w.heap.size (.int .u8 k) (.string T) (.slice A n c) (.slice B m d) from (show Bx W1 w.heap.size (.int .u8 k) (.string T) (.slice A n c) (.slice B m d) from by rw [hW1]; exact Bx.new ..).on hb2)
    have HY := Lib.hid (show Bx W2 W1.heap.size (.int .u8 k) (.string T) (.slice A' n c') (.slice B' m d') from by rw [hW2]; exact Bx.new ..)
    have HB2 := Lib.hid (below_tr hb1 hb2)
    have HVW := Lib.hid (hV.on HB2.out)
    have HVW' := Lib.hid (hV'.on HB2.out)
    have HKW := Lib.hid (hK.on HB2.out)
    have HKW' := Lib.hid (hK'.on HB2.out)
    have HSZ := Lib.hid (show w.heap.size + 1 = W1.heap.size from by rw [hW1]; show _ = (w.heap.push _).size; rw [Array.size_push])
    have HW1 := Lib.hid hW1
    have HW2 := Lib.hid hW2
    clear hT hK hV hK' hV' hx hN hv hu hb1 hb2 hW1 hW2
    go_enter Tryz.func23, Tryz.ntmps23
    go_upto_region 1 with fail
    rw [← HW1.out, ← HW2.out]
    obtain ⟨h2, hh2⟩ : ∃ h, h = w.heap.size + 1 := ⟨_, rfl⟩
    rw [← HSZ.out, ← hh2] at HY
    rw [← hh2]
    obtain ⟨h1, hh1⟩ : ∃ h, h = w.heap.size := ⟨_, rfl⟩
    rw [← hh1] at HX ⊢
    clear HW1 HW2 HSZ hh1 hh2
    obtain ⟨x0, x1, x2, x3⟩ : W2.cell? ⟨h1, 0, none⟩ = some (.int .u8 k) ∧ W2.cell? ⟨h1, 1, none⟩ = some (.string T) ∧ W2.cell? ⟨h1, 2, none⟩ = some (.slice A n c) ∧ W2.cell? ⟨h1, 3, none⟩ = some (.slice B m d) := ⟨HX.out.c0, HX.out.c1, HX.out.c2, HX.out.c3⟩
    obtain ⟨y0, y1, y2, y3⟩ : W2.cell? ⟨h2, 0, none⟩ = some (.int .u8 k) ∧ W2.cell? ⟨h2, 1, none⟩ = some (.string T) ∧ W2.cell? ⟨h2, 2, none⟩ = some (.slice A' n c') ∧ W2.cell? ⟨h2, 3, none⟩ = some (.slice B' m d') := ⟨HY.out.c0, HY.out.c1, HY.out.c2, HY.out.c3⟩
    go_wp2_with fail
    clear x0 x1 x2 x3 y0 y1 y2 y3
    go_loopw [5] (fun a wx => Hid (Below W2.heap.size W2 wx) ∧ ∃ i : Nat, i ≤ m ∧ a = .int .i64 i) (fun a _ => m - (intOf a).toNat)
    case atStart => exact ⟨Lib.hid (Below.refl _ _), 0, Nat.zero_le _, rfl⟩
    case round =>
      obtain ⟨HBR, i, hi, rfl⟩ := hrel
      have x3 := (HX.out.on HBR.out).c3
      have y3 := (HY.out.on HBR.out).c3
      by_cases hlt : i < m
      · obtain ⟨s, hs⟩ := get_lt (l := ks) (i := i) (by rw [← HM.out]; exact hlt)
        obtain ⟨g, o, rfl, hg, hf⟩ := HKW.out (by rw [← HM.out]; omega)
        obtain ⟨g', o', rfl, hg', hf'⟩ := HKW'.out (by rw [← HM.out]; omega)
        have c5 := cell_old HBR.out hg (hf i s hs)
        have c6 := cell_old HBR.out hg' (hf' i s hs)
        obtain ⟨S, hS⟩ : ∃ S, S = txt s := ⟨_, rfl⟩
        rw [← hS] at c5 c6
        have K0 := fun s : Kept wr => s.cell x3
        have K1 := fun s : Kept wr => s.cell y3
        have K2 := fun s : Kept wr => s.cell c5
        have K3 := fun s : Kept wr => s.cell c6
        clear hS hs hf hf' hg hg'
        go_upto_region 6 with fail
        clear x3 y3 c5 c6
        refine reg_lit (C := fun wx => ∃ s : Kept wr, wx = s.wx) (by kernel_rfl) (by kernel_rfl) ⟨⟨_, (Below.refl _ _).drew⟩, rfl⟩ ?_
        iterate 11 (go_big_quiet_step (fail))
        refine wpQuiet_nil ?_
        rintro wc ⟨⟨wx, ox0⟩, e⟩
        have HC := Lib.hid (show Below W2.heap.size W2 wc from by rw [e]; exact below_tr HBR.out ox0)
        clear e ox0 K0 K1 K2 K3
        go_wp2_with fail
        go_roundw
        case rel => exact ⟨HC, i + 1, by omega, by go_num⟩
        case measure => simp [intOf]; omega
      · obtain rfl : i = m := by omega
        obtain ⟨wo, hwo⟩ : ∃ wo, wo = wr := ⟨_, rfl⟩
        subst hwo
        go_wp2_with fail
        clear x3 y3
        go_loopw [6] (fun a wx => Hid (Below W2.heap.size W2 wx) ∧ ∃ j : Nat, j ≤ n ∧ a = .int .i64 j) (fun a _ => n - (intOf a).toNat)
        case atStart => exact ⟨HBR, 0, Nat.zero_le _, rfl⟩
        case round =>
          obtain ⟨HBS, j, hj, rfl⟩ := hrel
          have x2 := (HX.out.on HBS.out).c2
          have y2 := (HY.out.on HBS.out).c2
          by_cases hlt : j < n
          · obtain ⟨x, hx⟩ := get_lt (l := l) (i := j) (by rw [← HN.out]; exact hlt)
            obtain ⟨g, o, rfl, hg, hf⟩ := HVW.out (by rw [← HN.out]; omega)
            obtain ⟨g', o', rfl, hg', hf'⟩ := HVW'.out (by rw [← HN.out]; omega)
            obtain ⟨v0, v1, v2, v3, d0, d1, d2, d3, hvm⟩ := hf j x hx
            obtain ⟨u0, u1, u2, u3, q0, q1, q2, q3, hum⟩ := hf' j x hx
            have c0 := cell_old HBS.out hg d0
            have c1 := cell_old HBS.out hg d1
            have c2 := cell_old HBS.out hg d2
            have c3 := cell_old HBS.out hg d3
            have b0 := cell_old HBS.out hg' q0
            have b1 := cell_old HBS.out hg' q1
            have b2 := cell_old HBS.out hg' q2
            have b3 := cell_old HBS.out hg' q3
            have K0 := fun s : Kept wr => s.cell c0
            have K1 := fun s : Kept wr => s.cell c1
            have K2 := fun s : Kept wr => s.cell c2
            have K3 := fun s : Kept wr => s.cell c3
            have L0 := fun s : Kept wr => s.cell b0
            have L1 := fun s : Kept wr => s.cell b1
            have L2 := fun s : Kept wr => s.cell b2
            have L3 := fun s : Kept wr => s.cell b3
            have M2 := fun s : Kept wr => s.cell x2
            have M3 := fun s : Kept wr => s.cell y2
            have CI := Lib.hid (fun s : Kept wr => IH.out j x hx s.wx _ _ (hvm.on (below_tr HBS.out s.held)) (hum.on (below_tr HBS.out s.held)))
            clear c0 c1 c2 c3 b0 b1 b2 b3 d0 d1 d2 d3 q0 q1 q2 q3 hvm hum hf hf' hx
            go_upto_region 11 with fail
            clear x2 y2
            refine reg_lit (C := fun wx => ∃ s : Kept wr, wx = s.wx) (by kernel_rfl) (by kernel_rfl) ⟨⟨_, (Below.refl _ _).drew⟩, rfl⟩ ?_
            iterate 10 (go_big_quiet_step (fail))
            go_big_quiet_want
            go_big_quiet_op
            refine ⟨.bool true, fun s => (CI.out s).mono ?_, ?_⟩
            · rintro e w3 ⟨rfl, hb⟩; exact Kept.out hb
            go_big_quiet_on
            iterate 1 (go_big_quiet_step (fail))
            refine wpQuiet_nil ?_
            rintro wc ⟨⟨wx, ox0⟩, e⟩
            have HC := Lib.hid (show Below W2.heap.size W2 wc from by rw [e]; exact below_tr HBS.out ox0)
            clear e ox0 K0 K1 K2 K3 L0 L1 L2 L3 M2 M3 CI
            go_wp2_with fail
            go_roundw
            case rel => exact ⟨HC, j + 1, by omega, by go_num⟩
            case measure => simp [intOf]; omega
          · obtain rfl : j = n := by omega
            have HF := Lib.hid (below_tr HB2.out HBS.out)
            go_wp2_with fail
            go_ret
            exact ⟨rfl, HF.out⟩
end Va
end Go.Proofs.YtnnlgodgaolkkaaGreatDoor
/- The law's own: is a twin, and its room, as it was made? -/
namespace Go.Proofs.YtnnlgodgaolkkaaGreatDoor
open Go.RowKit
namespace Va
set_option maxRecDepth 100000

set_option maxHeartbeats 16000000 in
set_option maxRecDepth 100000 in
theorem left_any : ∀ (N : Nat) (x : V), wt x ≤ N → N ≤ 1000000000000 → ∀ (w : World) (ok : Nat → Prop) (v u : Value), Vt w ok v x → Vm w u x →
    Calls Tryz.prog 24 #[v, u] w fun e w' => e = .returned (.bool true) ∧ Below w.heap.size w w'
  | 0, x, hx, _, _, _, _, _, _, _ => by have := wt_pos x; omega
  | N + 1, .mk k t l ks, hx, hN, w, ok, v, u, hv, hu => by
    obtain ⟨ga, oa, gb, ob, c, d, rfl, hk, hl, hc, hd, hd2, hga, hgb, _, _, hK, mK, mL, hV⟩ := hv.inv
    obtain ⟨A', B', c', d', rfl, hk', hl', hc', hA', hd', hd2', hB', hK', hV'⟩ := hu.inv
    have IH := Lib.hid (fun (i : Nat) (x : V) (hi : l[i]? = some x) (w : World) (ok : Nat → Prop) (v u : Value) (h : Vt w ok v x) (h' : Vm w u x) =>
      left_any N x (by have := wt_sub (k := k) (t := t) (ks := ks) hi; omega) (by omega) w ok v u h h')
    obtain ⟨T, hT⟩ : ∃ T, T = txt t := ⟨_, rfl⟩
    obtain ⟨n, HN⟩ : ∃ n, Hid (n = l.length) := ⟨_, Lib.hid rfl⟩
    obtain ⟨m, HM⟩ : ∃ m, Hid (m = ks.length) := ⟨_, Lib.hid rfl⟩
    rw [← HN.out, ← HM.out, ← hT]
    rw [← HN.out] at hl hl'
    rw [← HM.out] at hd hd'
    have hn5 : n ≤ 1000000000000 := by rw [HN.out]; have := wtL_len l; rw [wt] at hx; omega
    have hm5 : m ≤ 1000000000000 := by rw [HM.out]; rw [wt] at hx; omega
    obtain ⟨W1, hW1⟩ : ∃ W, W = w.alloc (vO (.int .u8 k) (.string T) (.slice (some ⟨ga, oa, none⟩) n c) (.slice (some ⟨gb, ob, none⟩) m d)) := ⟨_, rfl⟩
    obtain ⟨W2, hW2⟩ : ∃ W, W = W1.alloc (vO (.int .u8 k) (.string T) (.slice A' n c') (.slice B' m d')) := ⟨_, rfl⟩
    have hb1 : Below w.heap.size w W1 := by rw [hW1]; exact below_new ..
    have hb2 : Below W1.heap.size W1 W2 := by rw [hW2]; exact below_new ..
    have HX := Lib.hid (show Bx W2 w.heap.size (.int .u8 k) (.string T) (.slice (some ⟨ga, oa, none⟩) n c) (.slice (some ⟨gb, ob, none⟩) m d) from (show Bx W1 w.heap.size (.int .u8 k) (.string T) (.slice (some ⟨ga, oa, none⟩) n c) (.slice (some ⟨gb, ob, none⟩) m d) from by rw [hW1]; exact Bx.new ..).on hb2)
    have HY := Lib.hid (show Bx W2 W1.heap.size (.int .u8 k) (.string T) (.slice A' n c') (.slice B' m d') from by rw [hW2]; exact Bx.new ..)
    have HB2 := Lib.hid (below_tr hb1 hb2)
    have HVW := Lib.hid hV
    have HVW' := Lib.hid (hV'.on HB2.out)
    have HKW := Lib.hid hK
    rw [← HM.out] at mK
    rw [← HN.out] at mL
    have HMK := Lib.hid (cell_old HB2.out hgb mK)
    have HML := Lib.hid (cell_old HB2.out hga mL)
    have HGA := Lib.hid hga
    have HGB := Lib.hid hgb
    have HKW' := Lib.hid (hK'.on HB2.out)
    have HSZ := Lib.hid (show w.heap.size + 1 = W1.heap.size from by rw [hW1]; show _ = (w.heap.push _).size; rw [Array.size_push])
    have HW1 := Lib.hid hW1
    have HW2 := Lib.hid hW2
    clear hT hK hV hK' hV' hx hN hv hu hb1 hb2 hW1 hW2 mK mL hga hgb
    go_enter Tryz.func24, Tryz.ntmps24
    go_upto_region 1 with fail
    rw [← HW1.out, ← HW2.out]
    obtain ⟨h2, hh2⟩ : ∃ h, h = w.heap.size + 1 := ⟨_, rfl⟩
    rw [← HSZ.out, ← hh2] at HY
    rw [← hh2]
    obtain ⟨h1, hh1⟩ : ∃ h, h = w.heap.size := ⟨_, rfl⟩
    rw [← hh1] at HX ⊢
    clear HW1 HW2 HSZ hh1 hh2
    obtain ⟨x0, x1, x2, x3⟩ : W2.cell? ⟨h1, 0, none⟩ = some (.int .u8 k) ∧ W2.cell? ⟨h1, 1, none⟩ = some (.string T) ∧ W2.cell? ⟨h1, 2, none⟩ = some (.slice (some ⟨ga, oa, none⟩) n c) ∧ W2.cell? ⟨h1, 3, none⟩ = some (.slice (some ⟨gb, ob, none⟩) m d) := ⟨HX.out.c0, HX.out.c1, HX.out.c2, HX.out.c3⟩
    obtain ⟨y0, y1, y2, y3⟩ : W2.cell? ⟨h2, 0, none⟩ = some (.int .u8 k) ∧ W2.cell? ⟨h2, 1, none⟩ = some (.string T) ∧ W2.cell? ⟨h2, 2, none⟩ = some (.slice A' n c') ∧ W2.cell? ⟨h2, 3, none⟩ = some (.slice B' m d') := ⟨HY.out.c0, HY.out.c1, HY.out.c2, HY.out.c3⟩
    have q1 : ¬ ((d : Nat) : Int) ≤ (m : Nat) := by omega
    have q2 : ¬ ((c : Nat) : Int) ≤ (n : Nat) := by omega
    have q3 : m + 1 ≤ d := by omega
    have q4 : n + 1 ≤ c := by omega
    have z1 : W2.cell? ⟨gb, ob + m, none⟩ = some (.string ⟨#[109, 97, 114, 107]⟩) := HMK.out
    have z2 : W2.cell? ⟨ga, oa + n * 4 + 1, none⟩ = some (.string ⟨#[109, 97, 114, 107]⟩) := HML.out
    go_upto_region 5 with fail
    have K0 := fun s : Kept W2 => s.cell x2
    have K1 := fun s : Kept W2 => s.cell x3
    have K2 := fun s : Kept W2 => s.cell z1
    have K3 := fun s : Kept W2 => s.cell z2
    clear z1 z2 x0 x1 x2 x3 y0 y1 y2 y3
    refine reg_lit (C := fun wx => ∃ s : Kept W2, wx = s.wx) (by kernel_rfl) (by kernel_rfl) ⟨⟨_, (Below.refl _ _).drew⟩, rfl⟩ ?_
    iterate 29 (go_big_quiet_step (fail))
    refine wpQuiet_nil ?_
    rintro wc ⟨⟨wx, ox0⟩, e⟩
    have HC0 := Lib.hid (show Below W2.heap.size W2 wc from by rw [e]; exact ox0)
    clear e ox0 K0 K1 K2 K3
    go_wp2_with fail
    go_loopw [5] (fun a wx => Hid (Below W2.heap.size W2 wx) ∧ ∃ i : Nat, i ≤ m ∧ a = .int .i64 i) (fun a _ => m - (intOf a).toNat)
    case atStart => exact ⟨HC0, 0, Nat.zero_le _, rfl⟩
    case round =>
      obtain ⟨HBR, i, hi, rfl⟩ := hrel
      have x3 := (HX.out.on HBR.out).c3
      have y3 := (HY.out.on HBR.out).c3
      by_cases hlt : i < m
      · obtain ⟨s, hs⟩ := get_lt (l := ks) (i := i) (by rw [← HM.out]; exact hlt)
        obtain ⟨g', o', rfl, hg', hf'⟩ := HKW'.out (by rw [← HM.out]; omega)
        have c5 := cell_old (below_tr HB2.out HBR.out) HGB.out (HKW.out i s hs)
        have c6 := cell_old HBR.out hg' (hf' i s hs)
        obtain ⟨S, hS⟩ : ∃ S, S = txt s := ⟨_, rfl⟩
        rw [← hS] at c5 c6
        have K0 := fun s : Kept wr => s.cell x3
        have K1 := fun s : Kept wr => s.cell y3
        have K2 := fun s : Kept wr => s.cell c5
        have K3 := fun s : Kept wr => s.cell c6
        clear hS hs hf' hg'
        go_upto_region 10 with fail
        clear x3 y3 c5 c6
        refine reg_lit (C := fun wx => ∃ s : Kept wr, wx = s.wx) (by kernel_rfl) (by kernel_rfl) ⟨⟨_, (Below.refl _ _).drew⟩, rfl⟩ ?_
        iterate 11 (go_big_quiet_step (fail))
        refine wpQuiet_nil ?_
        rintro wc ⟨⟨wx, ox0⟩, e⟩
        have HC := Lib.hid (show Below W2.heap.size W2 wc from by rw [e]; exact below_tr HBR.out ox0)
        clear e ox0 K0 K1 K2 K3
        go_wp2_with fail
        go_roundw
        case rel => exact ⟨HC, i + 1, by omega, by go_num⟩
        case measure => simp [intOf]; omega
      · obtain rfl : i = m := by omega
        obtain ⟨wo, hwo⟩ : ∃ wo, wo = wr := ⟨_, rfl⟩
        subst hwo
        go_wp2_with fail
        clear x3 y3
        go_loopw [6] (fun a wx => Hid (Below W2.heap.size W2 wx) ∧ ∃ j : Nat, j ≤ n ∧ a = .int .i64 j) (fun a _ => n - (intOf a).toNat)
        case atStart => exact ⟨HBR, 0, Nat.zero_le _, rfl⟩
        case round =>
          obtain ⟨HBS, j, hj, rfl⟩ := hrel
          have x2 := (HX.out.on HBS.out).c2
          have y2 := (HY.out.on HBS.out).c2
          by_cases hlt : j < n
          · obtain ⟨x, hx⟩ := get_lt (l := l) (i := j) (by rw [← HN.out]; exact hlt)
            obtain ⟨g', o', rfl, hg', hf'⟩ := HVW'.out (by rw [← HN.out]; omega)
            obtain ⟨v0, v1, v2, v3, d0, d1, d2, d3, hvm⟩ := HVW.out j x hx
            obtain ⟨u0, u1, u2, u3, q0, q1, q2, q3, hum⟩ := hf' j x hx
            have c0 := cell_old (below_tr HB2.out HBS.out) HGA.out d0
            have c1 := cell_old (below_tr HB2.out HBS.out) HGA.out d1
            have c2 := cell_old (below_tr HB2.out HBS.out) HGA.out d2
            have c3 := cell_old (below_tr HB2.out HBS.out) HGA.out d3
            have b0 := cell_old HBS.out hg' q0
            have b1 := cell_old HBS.out hg' q1
            have b2 := cell_old HBS.out hg' q2
            have b3 := cell_old HBS.out hg' q3
            have K0 := fun s : Kept wr => s.cell c0
            have K1 := fun s : Kept wr => s.cell c1
            have K2 := fun s : Kept wr => s.cell c2
            have K3 := fun s : Kept wr => s.cell c3
            have L0 := fun s : Kept wr => s.cell b0
            have L1 := fun s : Kept wr => s.cell b1
            have L2 := fun s : Kept wr => s.cell b2
            have L3 := fun s : Kept wr => s.cell b3
            have M2 := fun s : Kept wr => s.cell x2
            have M3 := fun s : Kept wr => s.cell y2
            have CI := Lib.hid (fun s : Kept wr => IH.out j x hx s.wx ok _ _ (hvm.on (below_tr (below_tr HB2.out HBS.out) s.held)) (hum.on (below_tr HBS.out s.held)))
            clear c0 c1 c2 c3 b0 b1 b2 b3 d0 d1 d2 d3 q0 q1 q2 q3 hvm hum hf' hx
            go_upto_region 15 with fail
            clear x2 y2
            refine reg_lit (C := fun wx => ∃ s : Kept wr, wx = s.wx) (by kernel_rfl) (by kernel_rfl) ⟨⟨_, (Below.refl _ _).drew⟩, rfl⟩ ?_
            iterate 10 (go_big_quiet_step (fail))
            go_big_quiet_want
            go_big_quiet_op
            refine ⟨.bool true, fun s => (CI.out s).mono ?_, ?_⟩
            · rintro e w3 ⟨rfl, hb⟩; exact Kept.out hb
            go_big_quiet_on
            iterate 1 (go_big_quiet_step (fail))
            refine wpQuiet_nil ?_
            rintro wc ⟨⟨wx, ox0⟩, e⟩
            have HC := Lib.hid (show Below W2.heap.size W2 wc from by rw [e]; exact below_tr HBS.out ox0)
            clear e ox0 K0 K1 K2 K3 L0 L1 L2 L3 M2 M3 CI
            go_wp2_with fail
            go_roundw
            case rel => exact ⟨HC, j + 1, by omega, by go_num⟩
            case measure => simp [intOf]; omega
          · obtain rfl : j = n := by omega
            have HF := Lib.hid (below_tr HB2.out HBS.out)
            go_wp2_with fail
            go_ret
            exact ⟨rfl, HF.out⟩
end Va
end Go.Proofs.YtnnlgodgaolkkaaGreatDoor
