/- What landed of values: a value's size, and how deep it is. -/
import Derived.Test.YtnnlgodgaolkkaaGreatDoorLem
import Derived.Test.YtnnlgodgaolkkaaGreatDoorHf
namespace Go.Proofs.YtnnlgodgaolkkaaGreatDoor
open Go.RowKit
namespace Va
set_option maxRecDepth 100000

theorem fold_sz : ∀ (l : List V) (b : Nat), l.foldl (fun b x => b + sz x) b = b + szL l
  | [], b => by simp [szL]
  | x :: r, b => by rw [List.foldl_cons, fold_sz r, szL]; omega
theorem fold_dp : ∀ (l : List V) (b : Nat), l.foldl (fun b x => max b (dp x)) b = max b (dpL l)
  | [], b => by simp [dpL]
  | x :: r, b => by rw [List.foldl_cons, fold_dp r, dpL]; omega
set_option maxHeartbeats 4000000 in
theorem sizeF_any {x : V} {v : Value} {b r : Nat} (w : World) (hv : Vm w v x) (hb0 : b + r ≤ 1000000)
    (CM : ∀ w' : World, Below w.heap.size w w' → Calls Tryz.prog 36 #[v] w' fun e w'' => e = .returned (.int .i64 (r : Nat)) ∧ Below w'.heap.size w' w'') :
    Calls Tryz.prog 60 #[.int .i64 (b : Nat), v] w fun e w' => e = .returned (.int .i64 ((b + r : Nat) : Int)) ∧ Below w.heap.size w w' := by
  obtain ⟨k, t, l, ks⟩ := x
  obtain ⟨A, B, c, d, rfl, _⟩ := hv.inv
  obtain ⟨T, hT⟩ : ∃ T, T = txt t := ⟨_, rfl⟩
  rw [← hT] at CM ⊢
  have HC := Lib.hid CM
  clear hv hT CM
  go_enter Tryz.func60, Tryz.ntmps60
  go_wp2_with fail
  refine (HC.out _ (below_new ..)).mono ?_
  rintro e w2 ⟨rfl, hb⟩
  have HB := Lib.hid (below_tr (below_new ..) hb)
  clear hb
  go_wp2_with fail
  go_ret
  exact ⟨ret_int (by go_num), HB.out⟩
set_option maxHeartbeats 4000000 in
theorem deepF_any {x : V} {v : Value} {b r : Nat} (w : World) (hv : Vm w v x) (_hb0 : b ≤ 1000000) (_hr0 : r ≤ 1000000)
    (CM : ∀ w' : World, Below w.heap.size w w' → Calls Tryz.prog 37 #[v] w' fun e w'' => e = .returned (.int .i64 (r : Nat)) ∧ Below w'.heap.size w' w'') :
    Calls Tryz.prog 61 #[.int .i64 (b : Nat), v] w fun e w' => e = .returned (.int .i64 ((max b r : Nat) : Int)) ∧ Below w.heap.size w w' := by
  obtain ⟨k, t, l, ks⟩ := x
  obtain ⟨A, B, c, d, rfl, _⟩ := hv.inv
  obtain ⟨T, hT⟩ : ∃ T, T = txt t := ⟨_, rfl⟩
  rw [← hT] at CM ⊢
  have HC := Lib.hid CM
  clear hv hT CM
  by_cases h : b < r
  · have h3 : (b : Int) < (r : Int) := by omega
    clear h
    go_enter Tryz.func61, Tryz.ntmps61
    go_wp2_with fail
    refine (HC.out _ (below_new ..)).mono ?_
    rintro e w2 ⟨rfl, hb⟩
    have HB := Lib.hid (below_tr (below_new ..) hb)
    clear hb
    go_wp2_with fail
    go_ret
    exact ⟨ret_int (by omega), HB.out⟩
  · have h3 : ¬ (b : Int) < (r : Int) := by omega
    clear h
    go_enter Tryz.func61, Tryz.ntmps61
    go_wp2_with fail
    refine (HC.out _ (below_new ..)).mono ?_
    rintro e w2 ⟨rfl, hb⟩
    have HB := Lib.hid (below_tr (below_new ..) hb)
    clear hb
    go_wp2_with fail
    go_ret
    exact ⟨ret_int (by omega), HB.out⟩
set_option maxHeartbeats 4000000 in
theorem size_any : ∀ (N : Nat) (x : V), wt x ≤ N → N ≤ 1000000 → ∀ (w : World) (v : Value), Vm w v x →
    Calls Tryz.prog 36 #[v] w fun e w' => e = .returned (.int .i64 (sz x : Nat)) ∧ Below w.heap.size w w'
  | 0, x, hx, _, _, _, _ => by have := wt_pos x; omega
  | N + 1, .mk k t l ks, hx, hN, w, v, hv => by
    have IH := Lib.hid (fun (i : Nat) (x : V) (hi : l[i]? = some x) (w : World) (v : Value) (h : Vm w v x) => size_any N x (by have := wt_sub (k := k) (t := t) (ks := ks) hi; omega) (by omega) w v h)
    have hs := Lib.hid (show sz (.mk k t l ks) ≤ 1000000 by have := sz_le (.mk k t l ks); omega)
    have HS := Lib.hid (show sz (.mk k t l ks) = 1 + szL l by rw [sz])
    obtain ⟨S, hS⟩ : ∃ S, S = sz (.mk k t l ks) := ⟨_, rfl⟩
    rw [← hS] at hs HS ⊢
    obtain ⟨A, B, c, d, rfl, hk, hl, hc, hA, hd, hd2, hB, hK, hV⟩ := hv.inv
    have hn0 : l.length ≤ 1000000 := by have := wtL_len l; rw [wt] at hx; omega
    have CO := Lib.hid (fun (w' : World) (hb : Below w.heap.size w w') => overS_any (l := l) (A := A) (c := c) (b0 := 1) (fun b x => b + sz x) (fun i b => b + szL (l.drop i) ≤ 1000000) w' (hV.on hb) hn0 (by rw [List.drop_zero, ← HS.out]; exact hs.out)
      (fun i x b hi h => by have := szL_drop hi; show b + sz x + _ ≤ _; omega)
      (fun i x v w2 b hi h hv hb2 => sizeF_any w2 hv (by have := szL_drop hi; omega) (fun w3 hb3 => IH.out i x hi w3 v (hv.on hb3))))
    rw [fold_sz, ← HS.out] at CO
    obtain ⟨T, hT⟩ : ∃ T, T = txt t := ⟨_, rfl⟩
    obtain ⟨n, HN⟩ : ∃ n, Hid (n = l.length) := ⟨_, Lib.hid rfl⟩
    obtain ⟨m, HM⟩ : ∃ m, Hid (m = ks.length) := ⟨_, Lib.hid rfl⟩
    rw [← HN.out] at CO
    rw [← HN.out, ← HM.out, ← hT]
    clear hV hK hv hT hx hN hn0 hS IH
    go_enter Tryz.func36, Tryz.ntmps36
    go_wp2_with fail
    refine (CO.out _ (below_new ..)).mono ?_
    rintro e w2 ⟨rfl, hb⟩
    have HB := Lib.hid (below_tr (below_new ..) hb)
    clear hb
    go_wp2_with fail
    go_ret
    exact ⟨by first | rfl | trivial, HB.out⟩
set_option maxHeartbeats 4000000 in
theorem deep_any : ∀ (N : Nat) (x : V), wt x ≤ N → N ≤ 1000000 → ∀ (w : World) (v : Value), Vm w v x →
    Calls Tryz.prog 37 #[v] w fun e w' => e = .returned (.int .i64 (dp x : Nat)) ∧ Below w.heap.size w w'
  | 0, x, hx, _, _, _, _ => by have := wt_pos x; omega
  | N + 1, .mk k t l ks, hx, hN, w, v, hv => by
    have IH := Lib.hid (fun (i : Nat) (x : V) (hi : l[i]? = some x) (w : World) (v : Value) (h : Vm w v x) => deep_any N x (by have := wt_sub (k := k) (t := t) (ks := ks) hi; omega) (by omega) w v h)
    have HS := Lib.hid (show dp (.mk k t l ks) = if k = 7 ∨ k = 8 then dpL l + 1 else 0 by rw [dp])
    obtain ⟨S, hS⟩ : ∃ S, S = dp (.mk k t l ks) := ⟨_, rfl⟩
    have HDL := Lib.hid (show dpL l ≤ 1000000 by have := dpL_le l; rw [wt] at hx; omega)
    rw [← hS] at HS ⊢
    obtain ⟨A, B, c, d, rfl, hk, hl, hc, hA, hd, hd2, hB, hK, hV⟩ := hv.inv
    have hn0 : l.length ≤ 1000000 := by have := wtL_len l; rw [wt] at hx; omega
    have CO := Lib.hid (fun (w' : World) (hb : Below w.heap.size w w') => overD_any (l := l) (A := A) (c := c) (b0 := 0) (fun b x => max b (dp x)) (fun _ b => b ≤ 1000000) w' (hV.on hb) hn0 (by omega)
      (fun i x b hi h => by have := dpL_get hi; have := HDL.out; show max b (dp x) ≤ _; omega)
      (fun i x v w2 b hi h hv hb2 => deepF_any w2 hv h (by have := dpL_get hi; have := HDL.out; omega) (fun w3 hb3 => IH.out i x hi w3 v (hv.on hb3))))
    obtain ⟨D, hD⟩ : ∃ D, D = dpL l := ⟨_, rfl⟩
    rw [fold_dp, Nat.max_eq_right (Nat.zero_le _), ← hD] at CO
    rw [← hD] at HS HDL
    have hD9 := HDL.out
    obtain ⟨T, hT⟩ : ∃ T, T = txt t := ⟨_, rfl⟩
    obtain ⟨n, HN⟩ : ∃ n, Hid (n = l.length) := ⟨_, Lib.hid rfl⟩
    obtain ⟨m, HM⟩ : ∃ m, Hid (m = ks.length) := ⟨_, Lib.hid rfl⟩
    obtain ⟨p, HP⟩ : ∃ p, Hid (p = ptd k) := ⟨_, Lib.hid rfl⟩
    have CP := Lib.hid (parted_is HP.out)
    rw [← HN.out] at CO
    rw [← HN.out, ← HM.out, ← hT]
    clear hV hK hv hT hx hN hn0 hS IH hD
    go_enter Tryz.func37, Tryz.ntmps37
    go_wp2_with fail
    refine (CP.out _).mono ?_
    rintro e w1 ⟨rfl, rfl⟩
    cases p with
    | false =>
      have HE := Lib.hid (show S = 0 by rw [HS.out, if_neg (of_decide_eq_false HP.out.symm)])
      go_wp2_with fail
      go_ret
      exact ⟨ret_int (by rw [HE.out]; rfl), below_new ..⟩
    | true =>
      have HE := Lib.hid (show S = D + 1 by rw [HS.out, if_pos (of_decide_eq_true HP.out.symm)])
      go_wp2_with fail
      refine (CO.out _ (below_new ..)).mono ?_
      rintro e w2 ⟨rfl, hb⟩
      have HB := Lib.hid (below_tr (below_new ..) hb)
      clear hb
      go_wp2_with fail
      go_ret
      exact ⟨ret_int (by rw [HE.out]; go_num), HB.out⟩
end Va
end Go.Proofs.YtnnlgodgaolkkaaGreatDoor
