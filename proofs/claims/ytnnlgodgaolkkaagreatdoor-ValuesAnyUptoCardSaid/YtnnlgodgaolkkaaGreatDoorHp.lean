/- What landed of values: Get. -/
import Derived.Test.YtnnlgodgaolkkaaGreatDoorHm
import Derived.Test.YtnnlgodgaolkkaaGreatDoorMbm
namespace Go.Proofs.YtnnlgodgaolkkaaGreatDoor
open Go.RowKit
namespace Va
set_option maxRecDepth 100000

theorem idxFrom_fnd (s : Bs) : ∀ (ks : List Bs) (i : Nat), Lib.idxFromS (ks.map txt) (txt s) i = match fnd ks s with | none => -1 | some j => ((i + j : Nat) : Int)
  | [], i => by rw [List.map_nil, Lib.idxFromS, fnd]
  | t :: r, i => by
    rw [List.map_cons, Lib.idxFromS, fnd]
    by_cases h : t = s
    · subst h; simp
    · rw [if_neg (fun e => h (txt_inj e)), if_neg h, idxFrom_fnd s r (i + 1)]
      cases fnd r s with
      | none => rfl
      | some j => show ((i + 1 + j : Nat) : Int) = ((i + (j + 1) : Nat) : Int); omega
theorem idx_fnd (s : Bs) (ks : List Bs) : Lib.idxOfS (ks.map txt) (txt s) = fnI (fnd ks s) := by
  rw [Lib.idxOfS, idxFrom_fnd]
  cases fnd ks s with
  | none => rfl
  | some j => show ((0 + j : Nat) : Int) = (j : Nat); omega
theorem index_any {A : Option Addr} {c n : Nat} {ks : List Bs} {s : Bs} {S : ByteArray} {z : Int} (w : World) (hK : Tx w A ks) (hn : n = ks.length) (hn9 : n ≤ 1000000) (hS : S = txt s) (hz : z = fnI (fnd ks s)) :
    Calls Tryz.prog 43 #[.slice A n c, .string S] w fun e w' => e = .returned (.int .i64 z) ∧ w = w' := by
  subst hS hz
  by_cases h0 : 0 < ks.length
  · obtain ⟨g, o, rfl, hg, hf⟩ := hK h0
    have := Tryz.slices_Index_string g o n c (ks.map txt) (txt s) w (by rw [hn]; simp) (by omega) (fun j hj => by
      have hj : j < ks.length := by simpa using hj
      rw [List.getD_eq_getElem?_getD, List.getElem?_map, List.getElem?_eq_getElem hj]
      exact hf j _ (List.getElem?_eq_getElem hj))
    rw [List.take_of_length_le (by rw [hn]; simp), idx_fnd] at this
    exact this.mono fun e w' h => ⟨h.1, h.2.symm⟩
  · have hk : ks = [] := List.eq_nil_of_length_eq_zero (by omega)
    subst hk
    obtain rfl : n = 0 := hn
    have := Tryz.slices_Index_string_empty A c (txt s) w
    exact this.mono fun e w' h => ⟨h.1, h.2.symm⟩
theorem vp_zero (w : World) : Vp 1 w (fun _ => False) (.agg #[.int .u8 0, .string ⟨#[]⟩, .slice none 0 0, .slice none 0 0]) :=
  ⟨0, ⟨#[]⟩, none, none, 0, 0, 0, 0, rfl, Nat.le_refl _, Nat.le_refl _, Nat.zero_le _, Nat.zero_le _, fun _ => rfl, fun _ => rfl, fun h => absurd h (by omega), fun h => absurd h (by omega)⟩
set_option maxHeartbeats 16000000 in
theorem lget_any {x : V} {v : Value} {key : Bs} {S : ByteArray} (w : World) (hv : Vm w v x) (hx : wt x ≤ 1000000) (hs : S = txt key) :
    Calls Tryz.prog 21 #[v, .string S] w fun e w' => (∃ u, e = .returned (.tuple #[u, .bool (gt x key).isSome]) ∧ Vm w' u ((gt x key).getD (.mk 0 [] [] [])) ∧ ∃ (N : Nat) (ok : Nat → Prop), Vp N w' ok u ∧ ∀ g, ok g → w.heap.size ≤ g) ∧ Below w.heap.size w w' := by
  obtain ⟨R, hR⟩ : ∃ R, R = gt x key := ⟨_, rfl⟩
  obtain ⟨p, hp⟩ : ∃ p, p = may x := ⟨_, rfl⟩
  rw [← hR]
  have CM := Lib.hid (fun (w' : World) (hb : Below w.heap.size w w') => by have := lmay_any w' (hv.on hb) hx; rw [← hp] at this; exact this)
  have COW := Lib.hid (fun (y : V) (hy : wt y ≤ 1000000) (w' : World) (u : Value) (h : Vm w' u y) => own_any 1000000 y hy (Nat.le_refl _) w' u h)
  obtain ⟨k, t, l, ks⟩ := x
  obtain ⟨A, B, c, d, rfl, hk, hl, hc, hA, hd, hd2, hB, hK, hV⟩ := hv.inv
  have hn0 : l.length ≤ 1000000 := by have := wtL_len l; rw [wt] at hx; omega
  have hm0 : ks.length ≤ 1000000 := by rw [wt] at hx; omega
  obtain ⟨z, hz⟩ : ∃ z, z = fnI (fnd ks key) := ⟨_, rfl⟩
  obtain ⟨T, hT⟩ : ∃ T, T = txt t := ⟨_, rfl⟩
  obtain ⟨n, HN⟩ : ∃ n, Hid (n = l.length) := ⟨_, Lib.hid rfl⟩
  obtain ⟨m, HM⟩ : ∃ m, Hid (m = ks.length) := ⟨_, Lib.hid rfl⟩
  have CI := Lib.hid (fun (w' : World) (hb : Below w.heap.size w w') => index_any (c := d) (n := m) w' (hK.on hb) HM.out (by rw [HM.out]; exact hm0) hs hz)
  rw [← HN.out, ← HM.out, ← hT] at CM
  rw [← HN.out, ← HM.out, ← hT]
  have HV := Lib.hid hV
  have HR := Lib.hid (show R = if k = 8 ∧ p = true then (fnd ks key).bind fun i => l[i]? else none from by rw [hR, gt, hp])
  have HP := Lib.hid (show p = may (.mk k t l ks) from hp)
  have HZ := Lib.hid hz
  have HWS := Lib.hid (fun (i : Nat) (y : V) (hi : l[i]? = some y) => show wt y ≤ 1000000 from by have := wt_sub (k := k) (t := t) (ks := ks) hi; omega)
  have hn9 : n ≤ 1000000 := by rw [HN.out]; exact hn0
  have hm9 : m ≤ 1000000 := by rw [HM.out]; exact hm0
  clear hV hK hv hT hx hp hz hR hs hl hc hA hd hd2 hB hn0 hm0 hk
  obtain ⟨W1, hW1⟩ : ∃ W, W = w.alloc (vO (.int .u8 k) (.string T) (.slice A n c) (.slice B m d)) := ⟨_, rfl⟩
  obtain ⟨W2, hW2⟩ : ∃ W, W = W1.alloc (vO (.int .u8 0) (.string ⟨#[]⟩) (.slice none 0 0) (.slice none 0 0)) := ⟨_, rfl⟩
  have hb1 : Below w.heap.size w W1 := by rw [hW1]; exact below_new ..
  have hb2 : Below W1.heap.size W1 W2 := by rw [hW2]; exact below_new ..
  have hsz : w.heap.size + 1 = W1.heap.size := by rw [hW1]; show _ = (w.heap.push _).size; rw [Array.size_push]
  have HO := Lib.hid (show W2.heap[w.heap.size]? = some (vO (.int .u8 k) (.string T) (.slice A n c) (.slice B m d)) from (hb2.block _ (by omega)).trans (by rw [hW1]; exact heap_alloc_new ..))
  have HO2 := Lib.hid (show W2.heap[W1.heap.size]? = some (vO (.int .u8 0) (.string ⟨#[]⟩) (.slice none 0 0) (.slice none 0 0)) from by rw [hW2]; exact heap_alloc_new ..)
  have HB2 := Lib.hid (below_tr hb1 hb2)
  have HLE := Lib.hid (show w.heap.size ≤ W1.heap.size from by omega)
  have HW1 := Lib.hid hW1
  have HW2 := Lib.hid hW2
  clear hW1 hW2 hb1 hb2
  go_enter Tryz.func21, Tryz.ntmps21
  go_upto_region 1 with fail
  rw [← HW1.out, ← HW2.out]
  obtain ⟨h2, hh2⟩ : ∃ h2, h2 = W1.heap.size := ⟨_, rfl⟩
  rw [← hh2] at HO2 HLE ⊢
  obtain ⟨h, hh⟩ : ∃ h, h = w.heap.size := ⟨_, rfl⟩
  rw [← hh] at HO
  try rw [← hh]
  have HHS := Lib.hid (And.intro hh hh2)
  clear HW1 HW2 hh hsz hh2
  obtain ⟨⟨x0, x1, x2, x3⟩, y0, y1, y2, y3⟩ := vcells HO.out
  go_wp2_with fail
  refine (CI.out _ HB2.out).mono ?_
  rintro e w3 ⟨rfl, rfl⟩
  by_cases h8 : k = 8
  · subst h8
    obtain ⟨o, ho⟩ : ∃ o, o = fnd ks key := ⟨_, rfl⟩
    rw [← ho] at HZ HR
    have HF := Lib.hid ho
    clear ho
    cases o with
    | none =>
      obtain rfl : z = -1 := HZ.out
      have HN0 := Lib.hid (show R = none from by rw [HR.out]; split <;> rfl)
      clear CM COW
      obtain ⟨⟨r0, r1, r2, r3⟩, t0, t1, t2, t3⟩ := vcells HO2.out
      go_wp2_with fail
      refine bodyPost_ret (v := .tuple #[.agg #[.int .u8 0, .string ⟨#[]⟩, .slice none 0 0, .slice none 0 0], .bool false]) (by simp [results, Tryz.results21, go_sem, *]) rfl ?_
      rw [HN0.out]
      exact ⟨⟨_, rfl, vm_zero _, 1, _, vp_zero _, fun _ h => h.elim⟩, (((HB2.out.setCell HLE.out _).setCell HLE.out _).setCell HLE.out _).setCell HLE.out _⟩
    | some i =>
      obtain rfl : z = (i : Nat) := HZ.out
      have f1 : ¬ ((i : Int) < 0) := by omega
      go_wp2_with fail
      refine (CM.out _ HB2.out).mono ?_
      rintro e w4 ⟨rfl, hb⟩
      have HB4 := Lib.hid (below_tr HB2.out hb)
      have HO4 := Lib.hid (show w4.heap[h]? = some (vO (.int .u8 (8 : Nat)) (.string T) (.slice A n c) (.slice B m d)) from (hb.block h (Array.getElem?_eq_some_iff.1 HO.out).1).trans HO.out)
      have HP4 := Lib.hid (show w4.heap[h2]? = some (vO (.int .u8 0) (.string ⟨#[]⟩) (.slice none 0 0) (.slice none 0 0)) from (hb.block h2 (Array.getElem?_eq_some_iff.1 HO2.out).1).trans HO2.out)
      clear hb x0 x1 x2 x3 y0 y1 y2 y3 CM
      cases hpp : p with
      | false =>
        subst hpp
        have HN0 := Lib.hid (show R = none from by rw [HR.out]; simp)
        clear COW
        obtain ⟨⟨r0, r1, r2, r3⟩, t0, t1, t2, t3⟩ := vcells HP4.out
        go_wp2_with fail
        refine bodyPost_ret (v := .tuple #[.agg #[.int .u8 0, .string ⟨#[]⟩, .slice none 0 0, .slice none 0 0], .bool false]) (by simp [results, Tryz.results21, go_sem, *]) rfl ?_
        rw [HN0.out]
        exact ⟨⟨_, rfl, vm_zero _, 1, _, vp_zero _, fun _ h => h.elim⟩, (((HB4.out.setCell HLE.out _).setCell HLE.out _).setCell HLE.out _).setCell HLE.out _⟩
      | true =>
        subst hpp
        have PA := Lib.hid (may_parts HP.out.symm)
        have hil : i < l.length := by have := PA.out.2.2.1 (by trivial); have := (List.getElem?_eq_some_iff.1 (fnd_get HF.out.symm)).1; omega
        obtain ⟨y, hy⟩ := get_lt (l := l) (i := i) hil
        have HN0 := Lib.hid (show R = some y from by rw [HR.out]; simpa using hy)
        obtain ⟨g, og, rfl, hg, hf⟩ := HV.out (by omega)
        obtain ⟨v0, v1, v2, v3, d0, d1, d2, d3, hvm⟩ := hf i y hy
        obtain ⟨uk, ut, uA, uB, un, uc, um, ud, rfl, rfl, rfl, rfl⟩ := vshp hvm
        have c0 := cell_old HB4.out hg d0
        have c1 := cell_old HB4.out hg d1
        have c2 := cell_old HB4.out hg d2
        have c3 := cell_old HB4.out hg d3
        have CO := Lib.hid (COW.out y (HWS.out i y hy) w4 _ (hvm.on HB4.out))
        have hin : i < n := by rw [HN.out]; exact hil
        obtain ⟨⟨x0, x1, x2, x3⟩, y0, y1, y2, y3⟩ := vcells HO4.out
        clear hf hvm hy hil COW d0 d1 d2 d3 hg
        go_wp2_with fail
        refine CO.out.mono ?_
        rintro e w5 ⟨⟨u, rfl, ok, a1, a2, a3⟩, hb⟩
        have HB5 := Lib.hid (below_tr HB4.out hb)
        have HP5 := Lib.hid (show w5.heap[h2]? = some (vO (.int .u8 0) (.string ⟨#[]⟩) (.slice none 0 0) (.slice none 0 0)) from (hb.block h2 (Array.getElem?_eq_some_iff.1 HP4.out).1).trans HP4.out)
        have HL4 := Lib.hid (show h2 < w4.heap.size from (Array.getElem?_eq_some_iff.1 HP4.out).1)
        obtain ⟨pk, pt, pA, pB, pn, pc, pm, pd, rfl⟩ := a2.shape
        have HA := Lib.hid (And.intro a1 (And.intro a2 a3))
        clear hb a1 a2 a3 x0 x1 x2 x3 y0 y1 y2 y3 c0 c1 c2 c3
        obtain ⟨⟨r0, r1, r2, r3⟩, t0, t1, t2, t3⟩ := vcells HP5.out
        go_wp2_with fail
        have hkeep : ∀ q, q ≠ h2 → ((((w5.setCell ⟨h2, 0, none⟩ (.int .u8 pk)).setCell ⟨h2, 1, none⟩ (.string pt)).setCell ⟨h2, 2, none⟩ (.slice pA pn pc)).setCell ⟨h2, 3, none⟩ (.slice pB pm pd)).heap[q]? = w5.heap[q]? := fun q hq => by
          rw [Go.RowKit.Below.heap_setCell _ _ _ _ hq, Go.RowKit.Below.heap_setCell _ _ _ _ hq, Go.RowKit.Below.heap_setCell _ _ _ _ hq, Go.RowKit.Below.heap_setCell _ _ _ _ hq]
        have hsz9 : w5.heap.size ≤ ((((w5.setCell ⟨h2, 0, none⟩ (.int .u8 pk)).setCell ⟨h2, 1, none⟩ (.string pt)).setCell ⟨h2, 2, none⟩ (.slice pA pn pc)).setCell ⟨h2, 3, none⟩ (.slice pB pm pd)).heap.size := by simp
        have hne : ∀ q, ok q → q ≠ h2 := fun q hq => by have := (HA.out.2.2 q hq).1; have := HL4.out; omega
        refine bodyPost_ret (v := .tuple #[.agg #[.int .u8 pk, .string pt, .slice pA pn pc, .slice pB pm pd], .bool true]) (by simp [results, Tryz.results21, go_sem, *]) rfl ?_
        rw [HN0.out]
        exact ⟨⟨_, rfl, (HA.out.1.keep (fun q hq _ => hkeep q (hne q hq)) hsz9).vm, _, ok, HA.out.2.1.keep (fun q hq _ => hkeep q (hne q hq)) hsz9, fun q hq => by have := (HA.out.2.2 q hq).1; have := HB4.out.size; omega⟩, (((HB5.out.setCell HLE.out _).setCell HLE.out _).setCell HLE.out _).setCell HLE.out _⟩
  · have g8 : ((k : Int) != 8) = true := bne_iff_ne.2 (by omega)
    have HN0 := Lib.hid (show R = none from by rw [HR.out, if_neg (fun e => h8 e.1)])
    clear CM COW h8
    obtain ⟨⟨r0, r1, r2, r3⟩, t0, t1, t2, t3⟩ := vcells HO2.out
    go_wp2_with fail
    refine bodyPost_ret (v := .tuple #[.agg #[.int .u8 0, .string ⟨#[]⟩, .slice none 0 0, .slice none 0 0], .bool false]) (by simp [results, Tryz.results21, go_sem, *]) rfl ?_
    rw [HN0.out]
    exact ⟨⟨_, rfl, vm_zero _, 1, _, vp_zero _, fun _ h => h.elim⟩, (((HB2.out.setCell HLE.out _).setCell HLE.out _).setCell HLE.out _).setCell HLE.out _⟩
end Va
end Go.Proofs.YtnnlgodgaolkkaaGreatDoor
