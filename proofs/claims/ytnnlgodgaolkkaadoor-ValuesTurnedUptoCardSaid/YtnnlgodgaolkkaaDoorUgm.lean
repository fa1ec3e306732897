/- The law's own: other, walked. -/
import Derived.Test.YtnnlgodgaolkkaaDoorUfm
namespace Go.Proofs.YtnnlgodgaolkkaaDoor
open Go.RowKit
namespace Va
set_option maxRecDepth 100000

set_option maxHeartbeats 16000000 in
set_option maxRecDepth 100000 in
theorem other_any : ∀ (N : Nat) (x : V), wt x ≤ N → N ≤ 1000000 → ∀ (w : World) (v : Value) (P n : Nat) (ok : Nat → Prop), P < w.heap.size → w.heap[P]? = some (.cells #[.int .i64 (n : Nat)] 3) → n ≤ 1000000 → (∀ g, ok g → g ≠ P) → Vk w ok v x →
    Calls Tryd.prog 14 #[v, .pointer (some ⟨P, 0, none⟩)] w fun e w' => OthP P w.heap.size ok (oth x n) e w' ∧ w.grownBy w' (some P)
  | 0, x, hx, _, _, _, _, _, _, _, _, _, _, _ => by have := wt_pos x; omega
  | N + 1, .mk k t l ks, hx, hN, w, v, P, n, ok, hPw, hP, hn, hok, hv => by
    obtain ⟨A, B, c, d, f, rfl, hk, hl, hc, hA, hd, hd2, hB, hK, hL, ha, hb, hV⟩ := vk_inv (hv.to (ok' := fun g => ok g ∧ g < w.heap.size) fun g h1 h2 => ⟨h2, h1⟩)
    have HOK := Lib.hid hok
    have IH := Lib.hid (fun (i : Nat) (x : V) (hi : l[i]? = some x) => other_any N x (by have := wt_sub (k := k) (t := t) (ks := ks) hi; omega) (by omega))
    obtain ⟨i1, hi1, hz0, hz1, hz2⟩ := info_parts (show (Tryd.prog.info? 26).map (fun i => (i.zero, i.size, i.bytes)) = some (some (.agg #[.int .u8 0, .string ⟨#[]⟩, .slice none 0 0, .slice none 0 0]), 4, 72) by kernel_rfl)
    obtain ⟨i9, hi9, y0, y1, y2⟩ := info_parts (show (Tryd.prog.info? 9).map (fun i => (i.zero, i.size, i.bytes)) = some (some (.string ⟨#[]⟩), 1, 16) by kernel_rfl)
    obtain ⟨T, hT⟩ : ∃ T, T = txt t := ⟨_, rfl⟩
    obtain ⟨p, HN⟩ : ∃ p, Hid (p = l.length) := ⟨_, Lib.hid rfl⟩
    obtain ⟨m, HM⟩ : ∃ m, Hid (m = ks.length) := ⟨_, Lib.hid rfl⟩
    rw [← HN.out, ← HM.out, ← hT]
    rw [← HN.out] at hl
    rw [← HM.out] at hd
    have hp5 : p ≤ 1000000 := by rw [HN.out]; have := wtL_len l; rw [wt] at hx; omega
    have hm5 : m ≤ 1000000 := by rw [HM.out]; rw [wt] at hx; omega
    have ht5 : T.size ≤ 1000000 := by rw [hT, txt_size]; rw [wt] at hx; omega
    have HTX := Lib.hid hT
    have HV1 := Lib.hid hV
    have HK1 := Lib.hid hK
    have HL1 := Lib.hid hL
    have HA1 := Lib.hid ha
    have HB1 := Lib.hid hb
    have HPP := Lib.hid hP
    have HKK := Lib.hid hk
    clear hT hK hV hx hN hv hL ha hb hk hP hok
    obtain ⟨r, HR⟩ : ∃ r, Hid (r = oth (.mk k t l ks) n) := ⟨_, Lib.hid rfl⟩
    rw [← HR.out]
    go_enter Tryd.func14, Tryd.ntmps14
    go_upto_region 1 with fail
    obtain ⟨W2, hW2⟩ : ∃ W, W = (w.alloc (vO (.int .u8 k) (.string T) (.slice A p c) (.slice B m d))).alloc (vO (.int .u8 0) (.string ⟨#[]⟩) (.slice none 0 0) (.slice none 0 0)) := ⟨_, rfl⟩
    rw [← hW2]
    obtain ⟨h, hh⟩ : ∃ h, h = w.heap.size := ⟨_, rfl⟩
    have s1 : ∀ (W : World) (o : Obj), (W.alloc o).heap.size = W.heap.size + 1 := fun W o => by show (W.heap.push o).size = _; rw [Array.size_push]
    have o1 : ∀ (W : World) (o : Obj) (g : Nat), g < W.heap.size → (W.alloc o).heap[g]? = W.heap[g]? := fun W o g hg => by show (W.heap.push o)[g]? = _; rw [Array.getElem?_push_lt hg, Array.getElem?_eq_getElem hg]
    have HS0 := Lib.hid (show W2.heap.size = h + 2 from by rw [hW2, s1, s1, hh])
    have HQ1 := Lib.hid (show W2.heap[h]? = some (vO (.int .u8 k) (.string T) (.slice A p c) (.slice B m d)) from by
      rw [hh, hW2, o1 _ _ _ (by rw [s1]; omega)]; exact heap_alloc_new ..)
    have HQ2 := Lib.hid (show W2.heap[h + 1]? = some (vO (.int .u8 0) (.string ⟨#[]⟩) (.slice none 0 0) (.slice none 0 0)) from by
      have := heap_alloc_new (w.alloc (vO (.int .u8 k) (.string T) (.slice A p c) (.slice B m d))) (vO (.int .u8 0) (.string ⟨#[]⟩) (.slice none 0 0) (.slice none 0 0))
      rw [s1] at this; rw [hh, hW2]; exact this)
    have HQ3 := Lib.hid (show Below w.heap.size w W2 from by rw [hW2]; exact (Below.refl _ _).alloc (Nat.le_refl _) _ |>.alloc (by rw [s1]; omega) _)
    have HQP := Lib.hid (show W2.heap[P]? = some (.cells #[.int .i64 (n : Nat)] 3) from by rw [hW2, o1 _ _ _ (by rw [s1]; omega), o1 _ _ _ hPw]; exact HPP.out)
    have HPH := Lib.hid (show P < h by omega)
    rw [← hh]
    have HH := Lib.hid hh
    clear hW2 hh s1 o1 hPw
    have x0 : W2.cell? ⟨h, 0, none⟩ = some (.int .u8 k) := by simp [World.cell?, HQ1.out]
    have x1 : W2.cell? ⟨h, 1, none⟩ = some (.string T) := by simp [World.cell?, HQ1.out]
    have xp : W2.cell? ⟨P, 0, none⟩ = some (.int .i64 (n : Nat)) := by simp [World.cell?, HQP.out]
    have fp : W2.frozen? ⟨P, 0, none⟩ = false := by simp [World.frozen?, HQP.out]
    by_cases hn0 : n = 0
    · subst hn0
      obtain ⟨⟨z0, z1, z2, z3⟩, t0, t1, t2, t3⟩ := vcells HQ2.out
      have FIN := Lib.hid (fun (S : ByteArray) (s : Bs) (hS : S = txt s) (hr : r = .done (.mk 3 s [] [])) => show OthP P w.heap.size ok r (.returned (.tuple #[.agg #[.int .u8 3, .string S, .slice none 0 0, .slice none 0 0], .bool true])) ((((W2.setCell ⟨h + 1, 0, none⟩ (.int .u8 3)).setCell ⟨h + 1, 1, none⟩ (.string S)).setCell ⟨h + 1, 2, none⟩ (.slice none 0 0)).setCell ⟨h + 1, 3, none⟩ (.slice none 0 0)) ∧ w.grownBy ((((W2.setCell ⟨h + 1, 0, none⟩ (.int .u8 3)).setCell ⟨h + 1, 1, none⟩ (.string S)).setCell ⟨h + 1, 2, none⟩ (.slice none 0 0)).setCell ⟨h + 1, 3, none⟩ (.slice none 0 0)) (some P) from by
        have hh := HH.out
        refine ⟨?_, grow_below P ((((HQ3.out.setCell (by show w.heap.size ≤ h + 1; omega) _).setCell (by show w.heap.size ≤ h + 1; omega) _).setCell (by show w.heap.size ≤ h + 1; omega) _).setCell (by show w.heap.size ≤ h + 1; omega) _)⟩
        rw [hr]
        exact ⟨_, rfl, leaf_vk _ _ (k := 3) (by omega) hS rfl⟩)
      by_cases k3 : k = 3
      · subst k3
        have HE := Lib.hid (FIN.out (T ++ ⟨#[120]⟩) (t ++ [120]) (by rw [HTX.out, show (⟨#[120]⟩ : ByteArray) = txt [120] from rfl, txt_app]) (by rw [HR.out, oth]; rfl))
        clear FIN HPP IH HV1 HL1 HA1 HB1
        go_wp2_with fail
        refine bodyPost_ret (v := .tuple #[.agg #[.int .u8 3, .string (T ++ ⟨#[120]⟩), .slice none 0 0, .slice none 0 0], .bool true]) (by simp [results, Tryd.results14, go_sem, *]) rfl ?_
        exact HE.out
      · have g3 : ((k : Int) == 3) = false := by simp; omega
        have HE := Lib.hid (FIN.out ⟨#[120]⟩ [120] rfl (by rw [HR.out, oth, if_neg k3]))
        clear FIN HPP IH HV1 HL1 HA1 HB1
        go_wp2_with fail
        refine bodyPost_ret (v := .tuple #[.agg #[.int .u8 3, .string ⟨#[120]⟩, .slice none 0 0, .slice none 0 0], .bool true]) (by simp [results, Tryd.results14, go_sem, *]) rfl ?_
        exact HE.out
    obtain ⟨n, rfl⟩ : ∃ q, n = q + 1 := ⟨n - 1, by omega⟩
    have e1 : (((n + 1 : Nat)) : Int) - 1 = (n : Nat) := by omega
    have hn1 : ((((n + 1 : Nat)) : Int) == 0) = false := by simp; omega
    have hn2 : (((n + 1 : Nat)) : Int) ≤ 1000000 := by omega
    have hn3 : (0 : Int) ≤ ((n + 1 : Nat)) := by omega
    obtain ⟨nn, hnn⟩ : ∃ nn : Int, nn = ((n + 1 : Nat) : Int) := ⟨_, rfl⟩
    rw [← hnn] at e1 hn1 hn2 hn3 xp
    clear x1 hn0 hnn
    go_upto_region 6 with fail
    obtain ⟨W3, hW3⟩ : ∃ W, W = W2.setCell ⟨P, 0, none⟩ (.int .i64 (n : Nat)) := ⟨_, rfl⟩
    first | rw [← hW3] | (trace_state; fail)
    have hph := HPH.out
    have w3 : ∀ g, g ≠ P → W3.heap[g]? = W2.heap[g]? := fun g hg => by rw [hW3, Go.RowKit.Below.heap_setCell _ _ _ _ hg]
    have w3s : W3.heap.size = h + 2 := by rw [hW3]; simp [HS0.out]
    have HW1 := Lib.hid ((w3 h (by omega)).trans HQ1.out)
    have HW2 := Lib.hid ((w3 (h + 1) (by omega)).trans HQ2.out)
    have HWP := Lib.hid (show W3.heap[P]? = some (.cells #[.int .i64 (n : Nat)] 3) from by rw [hW3]; exact Go.heap_setCell_same W2 P 0 _ _ _ HQP.out)
    have HGW := Lib.hid (show w.grownBy W3 (some P) from (grow_below P HQ3.out).trans (by rw [hW3]; exact ⟨rfl, rfl, rfl, by simp, fun k hk hne => Go.RowKit.Below.heap_setCell _ _ _ _ (fun e => hne (by rw [e]))⟩))
    have HS3 := Lib.hid w3s
    have HOLD := Lib.hid (fun (g : Nat) (hg : g < w.heap.size) (hne : g ≠ P) => show W3.heap[g]? = w.heap[g]? from (w3 g hne).trans (HQ3.out.block g hg))
    clear hW3 w3 xp fp x0
    obtain ⟨⟨x0, x1, x2, x3⟩, _⟩ := vcells HW1.out
    have s1 : ∀ (W : World) (o : Obj), (W.alloc o).heap.size = W.heap.size + 1 := fun W o => by show (W.heap.push o).size = _; rw [Array.size_push]
    have B0 : Below W3.heap.size W3 W3.drew := (Below.refl _ _).drew
    have BA : ∀ (X : World) (o : Obj), Below W3.heap.size W3 X → Below W3.heap.size W3 (X.alloc o) := fun X o hb => hb.alloc hb.size o
    have BAd : ∀ (o : Obj), Below W3.heap.size W3 (W3.alloc o).drew := fun o => (BA _ o (Below.refl _ _)).drew
    have BG : ∀ (X Y : World), Below W3.heap.size W3 X → X.grownBy Y none → Below W3.heap.size W3 Y := fun X Y hb hg => hb.grown hg hb.size (fun g e => by cases e)
    have SB : ∀ (X : World), Below W3.heap.size W3 X → X.cell? ⟨h, 0, none⟩ = some (.int .u8 k) ∧ X.cell? ⟨h, 1, none⟩ = some (.string T) ∧ X.cell? ⟨h, 2, none⟩ = some (.slice A p c) ∧ X.cell? ⟨h, 3, none⟩ = some (.slice B m d) := fun X hb =>
      ⟨(hb.cell (p := ⟨h, 0, none⟩) (by show h < _; omega)).trans x0, (hb.cell (p := ⟨h, 1, none⟩) (by show h < _; omega)).trans x1, (hb.cell (p := ⟨h, 2, none⟩) (by show h < _; omega)).trans x2, (hb.cell (p := ⟨h, 3, none⟩) (by show h < _; omega)).trans x3⟩
    have SB4 : ∀ (X : World) (q : Nat) (a b e f : Value), Below W3.heap.size W3 X → W3.heap.size ≤ q → ((((X.setCell ⟨q, 0, none⟩ a).setCell ⟨q, 1, none⟩ b).setCell ⟨q, 2, none⟩ e).setCell ⟨q, 3, none⟩ f).cell? ⟨h, 0, none⟩ = some (.int .u8 k) ∧ ((((X.setCell ⟨q, 0, none⟩ a).setCell ⟨q, 1, none⟩ b).setCell ⟨q, 2, none⟩ e).setCell ⟨q, 3, none⟩ f).cell? ⟨h, 1, none⟩ = some (.string T) ∧ ((((X.setCell ⟨q, 0, none⟩ a).setCell ⟨q, 1, none⟩ b).setCell ⟨q, 2, none⟩ e).setCell ⟨q, 3, none⟩ f).cell? ⟨h, 2, none⟩ = some (.slice A p c) ∧ ((((X.setCell ⟨q, 0, none⟩ a).setCell ⟨q, 1, none⟩ b).setCell ⟨q, 2, none⟩ e).setCell ⟨q, 3, none⟩ f).cell? ⟨h, 3, none⟩ = some (.slice B m d) := fun X q a b e f hb hq =>
      SB _ ((((hb.setCell (p := ⟨q, 0, none⟩) hq _).setCell (p := ⟨q, 1, none⟩) hq _).setCell (p := ⟨q, 2, none⟩) hq _).setCell (p := ⟨q, 3, none⟩) hq _)
    have HTK := Lib.hid (show Tx W3 B ks from fun h0 => by
      obtain ⟨g, o, e, hg, hf⟩ := HK1.out h0
      have hne := HOK.out g (HB1.out h0 g o e).1
      exact ⟨g, o, e, by have := HH.out; omega, fun i t ht => cell_eq (HOLD.out g hg hne) (hf i t ht)⟩)
    obtain ⟨ys, HYS⟩ : ∃ ys, Hid (ys = ks.map fun t => Value.string (txt t)) := ⟨_, Lib.hid rfl⟩
    have NK : ∀ (X : World), Below W3.heap.size W3 X → (0 < m → ∃ ad, B = some ad ∧ ∀ (j : Nat) (u : Value), ys[j]? = some u → X.cell? (ad.add j) = some u) := fun X hb h0 => by
      obtain ⟨g, o, e, hg, hf⟩ := (HTK.out.on hb) (by rw [← HM.out]; exact h0)
      refine ⟨_, e, fun j u hu => ?_⟩
      rw [HYS.out, List.getElem?_map] at hu
      obtain ⟨t, ht, rfl⟩ := Option.map_eq_some_iff.1 hu
      have e2 : (⟨g, o, none⟩ : Addr).add j = ⟨g, o + j, none⟩ := by unfold Addr.add; split <;> simp_all
      rw [e2]; exact hf j t ht
    obtain ⟨xs, HXS⟩ : ∃ xs, Hid (xs = (List.range (p * 4)).map fun j => f (j / 4) (j % 4)) := ⟨_, Lib.hid rfl⟩
    have NL : ∀ (X : World), Below W3.heap.size W3 X → (0 < p → ∃ ad, A = some ad ∧ ∀ (j : Nat) (u : Value), xs[j]? = some u → X.cell? (ad.add j) = some u) := fun X hb h0 => by
      obtain ⟨g, o, e, hg, hf⟩ := HL1.out (by rw [← HN.out]; exact h0)
      have hne := HOK.out g (HA1.out (by rw [← HN.out]; exact h0) g o e).1
      refine ⟨_, e, fun j u hu => ?_⟩
      have hj : j < p * 4 := by have := (List.getElem?_eq_some_iff.1 hu).1; rw [HXS.out] at this; simpa using this
      rw [HXS.out, List.getElem?_map, List.getElem?_range hj] at hu
      obtain rfl : f (j / 4) (j % 4) = u := Option.some.inj hu
      have e2 : (⟨g, o, none⟩ : Addr).add j = ⟨g, o + j, none⟩ := by unfold Addr.add; split <;> simp_all
      have hg3 : g < W3.heap.size := by have := HH.out; omega
      rw [e2]
      have := hf (j / 4) (by rw [← HN.out]; omega) (j % 4) (by omega)
      rw [show o + j / 4 * 4 + j % 4 = o + j by omega] at this
      exact cell_eq (hb.block g hg3) (cell_eq (HOLD.out g hg hne) this)
    have hxl : xs.length = p * 4 := by rw [HXS.out]; simp
    have hyl : ys.length = m * 1 := by rw [HYS.out]; simp [HM.out]
    have xone : ∀ u ∈ xs, u.oneCell' = true := fun u hu => by
      rw [HXS.out] at hu
      obtain ⟨j, hj, rfl⟩ := List.mem_map.1 hu
      have hj := List.mem_range.1 hj
      obtain ⟨y, hy⟩ := get_lt (l := l) (i := j / 4) (by rw [← HN.out]; omega)
      obtain ⟨k', t', A', B', n', c', m', d', e⟩ := vk_shape (HV1.out _ y hy)
      have hlt : j % 4 < 4 := by omega
      injection e with e
      have e := congrArg Array.toList e
      simp only at e
      injection e with q0 e; injection e with q1 e; injection e with q2 e; injection e with q3 e
      generalize j % 4 = r4 at hlt
      rcases (show r4 = 0 ∨ r4 = 1 ∨ r4 = 2 ∨ r4 = 3 by omega) with rfl | rfl | rfl | rfl
      · rw [q0]; rfl
      · rw [q1]; rfl
      · rw [q2]; rfl
      · rw [q3]; rfl
    have yone : ∀ u ∈ ys, u.oneCell' = true := fun u hu => by
      rw [HYS.out] at hu
      obtain ⟨t, _, rfl⟩ := List.mem_map.1 hu; rfl
    have SBh := Lib.hid SB
    have SB4h := Lib.hid SB4
    have NKh := Lib.hid NK
    have NLh := Lib.hid NL
    have BGh := Lib.hid BG
    have BAdh := Lib.hid BAd
    have BAh := Lib.hid BA
    have B0h := Lib.hid B0
    have XO := Lib.hid xone
    have YO := Lib.hid yone
    have S1h := Lib.hid s1
    have HXL := Lib.hid hxl
    have HYL := Lib.hid hyl
    clear hxl hyl
    clear w3s hph
    clear SB SB4 NK NL BG BAd BA B0 xone yone s1
    go_cut [6] from 28 to 38 (fun a wx => ∃ (q : Nat) (lA : Option Addr) (lc : Nat) (kA : Option Addr) (kc : Nat), a = .pointer (some ⟨q, 0, none⟩) ∧ Hid (OW w wx h P q k T (.slice A p c) (.slice B m d) (.slice lA p lc) (.slice kA m kc) p m xs ys (n : Nat)))
    case first =>
      go_region_held_law (fun w' => w'.cell? ⟨h, 0, none⟩ = some (.int .u8 k) ∧ w'.cell? ⟨h, 1, none⟩ = some (.string T) ∧ w'.cell? ⟨h, 2, none⟩ = some (.slice A p c) ∧ w'.cell? ⟨h, 3, none⟩ = some (.slice B m d))
        (first | (with_reducible refine SBh.out _ ?_; first | assumption | exact B0h.out | exact BAdh.out _ | exact BAh.out _ _ (by assumption)) | (refine SB4h.out _ _ _ _ _ _ ?_ ?_ <;> first | (first | assumption | exact B0h.out | exact BAdh.out _ | exact BAh.out _ _ (by assumption)) | exact Nat.le_refl _ | exact Below.size (B := W3.heap.size) (w := W3) (by assumption)))
        (first
          | (refine step_nil rfl (.const (.slice none 0 0)) (.tmp 33) 24 rfl W3.heap.size 9 i9 (.string ⟨#[]⟩) 1 16 Tryd.underlying24 hi9 y0 y1 y2 rfl (by decide) rfl B m d (by simp [Act.eval, Act.put]) ys HYL.out (NKh.out _ (by first | assumption | exact B0h.out | exact BAdh.out _ | exact BAh.out _ _ (by assumption))) hB YO.out (by unfold maxLen; omega) (by omega) ((show Below W3.heap.size W3 _ from by first | assumption | exact B0h.out | exact BAdh.out _ | exact BAh.out _ _ (by assumption)).size) ?_; intro kA kc w5 own5 hg5 hb5; have bk : Below W3.heap.size W3 w5 := BGh.out _ _ (by first | assumption | exact B0h.out | exact BAdh.out _ | exact BAh.out _ _ (by assumption)) hg5; have HB5 := Lib.hid hb5; clear hb5; (first | (have zk := blk_up (below_none hg5) (show (W3.alloc (vO (.int .u8 0) (.string ⟨#[]⟩) (.slice none 0 0) (.slice none 0 0))).drew.heap[W3.heap.size]? = some (vO (.int .u8 0) (.string ⟨#[]⟩) (.slice none 0 0) (.slice none 0 0)) from heap_alloc_new W3 _); obtain ⟨⟨z0, z1, z2, z3⟩, t0, t1, t2, t3⟩ := vcells zk; have ZKh := Lib.hid zk; clear zk) | (have zk := blk_up (below_none hg5) (heap_alloc_new w6 (vO (.int .u8 0) (.string ⟨#[]⟩) (.slice none 0 0) (.slice none 0 0))); obtain ⟨⟨z0, z1, z2, z3⟩, t0, t1, t2, t3⟩ := vcells zk; have ZKh := Lib.hid zk; clear zk) | (have zk := blk_up (below_none hg5) ZLh.out; obtain ⟨⟨z0, z1, z2, z3⟩, t0, t1, t2, t3⟩ := vcells zk; have ZKh := Lib.hid zk; clear zk) | skip))
          | (refine step_nil rfl (.const (.slice none 0 0)) (.tmp 36) 23 rfl W3.heap.size 26 i1 (.agg #[.int .u8 0, .string ⟨#[]⟩, .slice none 0 0, .slice none 0 0]) 4 72 Tryd.underlying23 hi1 hz0 hz1 hz2 rfl (by decide) rfl A p c (by simp [Act.eval, Act.put]) xs HXL.out (NLh.out _ (by first | assumption | exact B0h.out | exact BAdh.out _ | exact BAh.out _ _ (by assumption))) hA XO.out (by unfold maxLen; omega) (by omega) ((show Below W3.heap.size W3 _ from by first | assumption | exact B0h.out | exact BAdh.out _ | exact BAh.out _ _ (by assumption)).size) ?_; intro lA lc w6 own6 hg6 hb6; have bl : Below W3.heap.size W3 w6 := BGh.out _ _ (by first | assumption | exact B0h.out | exact BAdh.out _ | exact BAh.out _ _ (by assumption)) hg6; have HB6 := Lib.hid hb6; clear hb6; (first | (have zl := blk_up (below_none hg6) (show (W3.alloc (vO (.int .u8 0) (.string ⟨#[]⟩) (.slice none 0 0) (.slice none 0 0))).drew.heap[W3.heap.size]? = some (vO (.int .u8 0) (.string ⟨#[]⟩) (.slice none 0 0) (.slice none 0 0)) from heap_alloc_new W3 _); obtain ⟨⟨z0, z1, z2, z3⟩, t0, t1, t2, t3⟩ := vcells zl; have ZLh := Lib.hid zl; clear zl) | (have zl := blk_up (below_none hg6) (heap_alloc_new w5 (vO (.int .u8 0) (.string ⟨#[]⟩) (.slice none 0 0) (.slice none 0 0))); obtain ⟨⟨z0, z1, z2, z3⟩, t0, t1, t2, t3⟩ := vcells zl; have ZLh := Lib.hid zl; clear zl) | (have zl := blk_up (below_none hg6) ZKh.out; obtain ⟨⟨z0, z1, z2, z3⟩, t0, t1, t2, t3⟩ := vcells zl; have ZLh := Lib.hid zl; clear zl) | skip)))
      all_goals
        have dz : ∀ W : World, W.drew.heap.size = W.heap.size := fun _ => rfl
        try simp only [Act.put, List.getElem?_toArray, List.getElem?_cons_succ, List.getElem?_cons_zero, List.getElem_toArray, List.getElem_cons_succ, List.getElem_cons_zero, List.setIfInBounds_toArray, List.set_cons_zero, List.set_cons_succ]
        try go_wp2_with fail
        go_meet
        have s1 := S1h.out
        first
          | exact ⟨_, _, _, _, _, rfl, Lib.hid (OW.fin2 HGW.out HH.out HPH.out (Nat.le_of_eq HS3.out.symm) HW1.out HW2.out HWP.out (by assumption) own6 (own_up own5 (below_none hg6)))⟩
          | (refine ⟨_, _, _, _, _, rfl, Lib.hid (OW.fin HGW.out HH.out HPH.out (Nat.le_of_eq HS3.out.symm) HW1.out HW2.out HWP.out (by assumption) ?_ ZLh.out own6 ?_ ⟨fun e => ?_, fun e => ?_⟩)⟩
             · first | exact Nat.le_refl _ | exact Below.size (B := W3.heap.size) (w := W3) (by assumption)
             · first | exact own_up own5 (below_none hg6) | exact own_up (own5.alloc _) (below_none hg6)
             · have a1 := HB6.out _ e
               have a2 := (own6.lt _ e).2
               have a3 := hg5.size
               have a4 := hg6.size
               try simp only [s1] at a1
               try simp only [s1, dz] at a3
               try simp only [s1] at a4
               omega
             · have a1 := HB5.out _ e
               have a2 := (own5.lt _ e).2
               have a3 := hg5.size
               have a4 := hg6.size
               try simp only [s1, dz] at a1
               try simp only [s1, dz] at a3
               try simp only [s1] at a4
               omega)
    case rest =>
      obtain ⟨q, lA, lc, kA, kc, rfl, HOW⟩ := hcut
      have HR0 := Lib.hid (show r = othC k t ks (othR l 0 (othL (l.drop 0) n)) from by rw [HR.out, oth_succ, othR_nil]; rfl)
      clear x0 x1 x2 x3 e1 hn1 hn2 hn3
      go_wp2_with fail
      go_loopw [7, 8, 9] (fun a _ _ wx => ∃ (i j : Nat), i ≤ p ∧ j ≤ 1000000 ∧ a = .int .i64 i ∧ Hid (OW w wx h P q k T (.slice A p c) (.slice B m d) (.slice lA p lc) (.slice kA m kc) p m xs ys (j : Nat)) ∧ Hid (r = othC k t ks (othR l i (othL (l.drop i) j)))) (fun a _ _ _ => p - (intOf a).toNat)
      case atStart => exact ⟨0, n, Nat.zero_le _, by omega, rfl, HOW, HR0⟩
      case round =>
        obtain ⟨i, j, hi, hj, rfl, HO, HRR⟩ := hrel
        obtain ⟨wo, hwo⟩ : ∃ wo, wo = wr := ⟨_, rfl⟩
        subst hwo
        have x2 : wo.cell? ⟨h, 2, none⟩ = some (.slice A p c) := by simp [World.cell?, HO.out.b1]
        by_cases hlt : i < p
        · obtain ⟨x, hx⟩ := get_lt (l := l) (i := i) (by rw [← HN.out]; exact hlt)
          obtain ⟨g, o', rfl, hg, hf⟩ := HL1.out (by rw [← HN.out]; omega)
          have hgo := HA1.out (by rw [← HN.out]; omega) g o' rfl
          have hold : ∀ g', g' < w.heap.size → g' ≠ P → wo.heap[g']? = w.heap[g']? := fun g' h1 h2 => HO.out.gr.block g' h1 (fun e => h2 (Option.some.inj e))
          have hil : i < l.length := by rw [← HN.out]; exact hlt
          have c0 := cell_eq (hold g hg (HOK.out g hgo.1)) (hf i hil 0 (by decide))
          have c1 := cell_eq (hold g hg (HOK.out g hgo.1)) (hf i hil 1 (by decide))
          have c2 := cell_eq (hold g hg (HOK.out g hgo.1)) (hf i hil 2 (by decide))
          have c3 := cell_eq (hold g hg (HOK.out g hgo.1)) (hf i hil 3 (by decide))
          have hvk := HV1.out i x hx
          obtain ⟨v0, hv0⟩ : ∃ v, v = f i 0 := ⟨_, rfl⟩
          obtain ⟨v1, hv1⟩ : ∃ v, v = f i 1 := ⟨_, rfl⟩
          obtain ⟨v2, hv2⟩ : ∃ v, v = f i 2 := ⟨_, rfl⟩
          obtain ⟨v3, hv3⟩ : ∃ v, v = f i 3 := ⟨_, rfl⟩
          rw [← hv0] at c0 hvk
          rw [← hv1] at c1 hvk
          rw [← hv2] at c2 hvk
          rw [← hv3] at c3 hvk
          rw [Nat.add_zero] at c0
          have CI := Lib.hid (IH.out i x hx wo (.agg #[v0, v1, v2, v3]) P j (fun g => ok g ∧ g < w.heap.size) (by have := HO.out.lo; have := (Array.getElem?_eq_some_iff.1 HO.out.b1).1; omega) HO.out.pt hj (fun g hg => HOK.out g hg.1) (hvk.keep (fun g' h1 h2 => hold g' h2 (HOK.out g' h1.1)) HO.out.gr.size))
          have HX := Lib.hid hx
          have HHO := Lib.hid hold
          clear hv0 hv1 hv2 hv3 hvk hf hx hold hgo hg hil
          go_wp2_with fail
          refine CI.out.mono ?_
          rintro e w5 ⟨HOP, hg5⟩
          unfold OthP at HOP
          have hph := HO.out.lo
          cases hox : oth x j with
          | left j2 =>
            rw [hox] at HOP
            obtain ⟨fk, ft, fA, fB, fn, fc, fb, fd, rfl, hp5⟩ := HOP
            have HO5 := Lib.hid (HO.out.call hg5 hp5)
            have HR5 := Lib.hid (show r = othC k t ks (othR l (i + 1) (othL (l.drop (i + 1)) j2)) from by rw [HRR.out, othR_left HX.out hox])
            have hj2 := oth_left hox
            have HGA := Lib.hid (fun o => show OW w (w5.alloc o) h P q k T (.slice (some ⟨g, o', none⟩) p c) (.slice B m d) (.slice lA p lc) (.slice kA m kc) p m xs ys (j2 : Nat) from HO5.out.call (grow_some P (World.grownBy_alloc w5 o none)) (by
              have hlt := (Array.getElem?_eq_some_iff.1 hp5).1
              show (w5.heap.push o)[P]? = _
              rw [Array.getElem?_push_lt hlt, ← Array.getElem?_eq_getElem]; exact hp5))
            clear hox hp5 hg5 CI HHO x2 c0 c1 c2 c3 hph
            go_wp2_with fail
            go_roundw
            case rel => exact ⟨i + 1, j2, by omega, by omega, by go_num, Lib.hid (HGA.out _), HR5⟩
            case measure => simp [intOf]; omega
          | done y =>
            rw [hox] at HOP
            obtain ⟨u, rfl, hu⟩ := HOP
            obtain ⟨uk, ut, uA, uB, un, uc, um, ud, rfl⟩ := vk_shape hu
            obtain ⟨gr5, old5, q5, q6, ow5, ok5⟩ := HO.out.upto hg5
            have HRD := Lib.hid (show r = .done (.mk k t (l.set i y) ks) from by rw [HRR.out, othR_done HX.out hox]; rfl)
            clear hox CI HHO x2 c0 c1 c2 c3
            go_upto_region 12 with fail
            obtain ⟨w6, hw6⟩ : ∃ W, W = w5.alloc (vO (.int .u8 uk) (.string ut) (.slice uA un uc) (.slice uB um ud)) := ⟨_, rfl⟩
            rw [← hw6]
            have s1 : (w5.alloc (vO (.int .u8 uk) (.string ut) (.slice uA un uc) (.slice uB um ud))).heap.size = w5.heap.size + 1 := by show (w5.heap.push _).size = _; rw [Array.size_push]
            have hb6 : Below w5.heap.size w5 w6 := by rw [hw6]; exact below_new ..
            have hsz5 : wo.heap.size ≤ w5.heap.size := hg5.size
            have r8 : w6.heap[w5.heap.size]? = some (vO (.int .u8 uk) (.string ut) (.slice uA un uc) (.slice uB um ud)) := by rw [hw6]; exact heap_alloc_new ..
            have r6 : w6.heap[q]? = some (vO (.int .u8 k) (.string T) (.slice lA p lc) (.slice kA m kc)) := blk_up hb6 q6
            have r5 : w6.heap[h + 1]? = some (vO (.int .u8 0) (.string ⟨#[]⟩) (.slice none 0 0) (.slice none 0 0)) := blk_up hb6 q5
            have ow6 := own_up ow5 hb6
            have ok6 := own_up ok5 hb6
            obtain ⟨g6, rfl, hg6lo, hg6hi, hg6c⟩ := own_cells ow6 (by omega)
            have HPL := Lib.hid hph
            have hg6q : g6 ≠ q := fun e => HO.out.ap.1 (by rw [e]; rfl)
            have hg65 : g6 < w5.heap.size := (ow5.lt g6 rfl).2
            have hg6o : g6 < wo.heap.size := (HO.out.ow.lt g6 rfl).2
            obtain ⟨cur, hcur⟩ : ∃ cur, w6.heap[g6]? = some (.cells cur 26 (0, 0)) := by
              rcases ow6.2 with ⟨e, _⟩ | ⟨g7, c7, cur, e, _, hh7, _⟩
              · cases e
              · injection e with e _ _; injection e with e; injection e with e _ _; subst e; exact ⟨cur, hh7⟩
            obtain ⟨⟨e0, e1, e2, e3⟩, _⟩ := vcells r8
            have d2 : w6.cell? ⟨q, 2, none⟩ = some (.slice (some ⟨g6, 0, none⟩) p lc) := (vcells r6).1.2.2.1
            have hxl6 := ow6.1
            have fz : ∀ j, w6.frozen? ⟨g6, j, none⟩ = false := fun j => by simp [World.frozen?, hcur]
            obtain ⟨y0, hy0⟩ := get_lt (l := xs) (i := i * 4) (by omega)
            obtain ⟨y1', hy1⟩ := get_lt (l := xs) (i := i * 4 + 1) (by omega)
            obtain ⟨y2', hy2⟩ := get_lt (l := xs) (i := i * 4 + 2) (by omega)
            obtain ⟨y3', hy3⟩ := get_lt (l := xs) (i := i * 4 + 3) (by omega)
            have z0 := hg6c _ _ hy0
            have z1 := hg6c _ _ hy1
            have z2 := hg6c _ _ hy2
            have z3 := hg6c _ _ hy3
            have f0 := fz (i * 4)
            have f1 := fz (i * 4 + 1)
            have f2 := fz (i * 4 + 2)
            have f3 := fz (i * 4 + 3)
            have HG6 := Lib.hid (And.intro hg6lo (And.intro hg65 (And.intro hg6o hg6q)))
            have HW6 := Lib.hid (And.intro r8 (And.intro r6 r5))
            have HOW6 := Lib.hid (And.intro ow6 ok6)
            have HB6 := Lib.hid hb6
            have HU := Lib.hid (hu.on hb6)
            have HGR := Lib.hid (gr5.trans (grow_below P hb6))
            have HXC := Lib.hid hg6c
            have HCUR := Lib.hid hcur
            clear hw6 s1 hb6 r8 r6 r5 ow6 ok6 ow5 ok5 gr5 q5 q6 old5 hu hg6lo hg6hi hg6c hg6q hg65 hg6o hcur hxl6 fz hy0 hy1 hy2 hy3 hph hsz5 hg5
            go_upto_region 13 with fail
            obtain ⟨W7, hW7⟩ : ∃ W7, W7 = (((w6.setCell ⟨g6, i * 4, none⟩ (.int .u8 uk)).setCell ⟨g6, i * 4 + 1, none⟩ (.string ut)).setCell ⟨g6, i * 4 + 2, none⟩ (.slice uA un uc)).setCell ⟨g6, i * 4 + 3, none⟩ (.slice uB um ud) := ⟨_, rfl⟩
            rw [← hW7]
            obtain ⟨⟨⟨a0, a1⟩, a2, a3⟩, ao⟩ := row4 (.int .u8 uk) (.string ut) (.slice uA un uc) (.slice uB um ud) z0 z1 z2 z3
            rw [← hW7] at a0 a1 a2 a3 ao
            have o7 : ∀ g, g ≠ g6 → W7.heap[g]? = w6.heap[g]? := fun g hg => by
              rw [hW7, Go.RowKit.Below.heap_setCell _ _ _ _ hg, Go.RowKit.Below.heap_setCell _ _ _ _ hg, Go.RowKit.Below.heap_setCell _ _ _ _ hg, Go.RowKit.Below.heap_setCell _ _ _ _ hg]
            have s7 : W7.heap.size = w6.heap.size := by rw [hW7]; simp
            obtain ⟨k1, k2, k3, k4⟩ := HG6.out
            obtain ⟨r8, r6, r5⟩ := HW6.out
            obtain ⟨⟨b0, b1, b2, b3⟩, _⟩ := vcells ((o7 q (fun e => k4 e.symm)).trans r6)
            have R5 := Lib.hid ((o7 (h + 1) (by omega)).trans r5)
            obtain ⟨⟨n0, n1, n2, n3⟩, m0, m1, m2, m3⟩ := vcells R5.out
            have HFIN := Lib.hid (show OthP P w.heap.size ok r (.returned (.tuple #[.agg #[.int .u8 k, .string T, .slice (some ⟨g6, 0, none⟩) p lc, .slice kA m kc], .bool true])) ((((W7.setCell ⟨h + 1, 0, none⟩ (.int .u8 k)).setCell ⟨h + 1, 1, none⟩ (.string T)).setCell ⟨h + 1, 2, none⟩ (.slice (some ⟨g6, 0, none⟩) p lc)).setCell ⟨h + 1, 3, none⟩ (.slice kA m kc)) ∧ w.grownBy ((((W7.setCell ⟨h + 1, 0, none⟩ (.int .u8 k)).setCell ⟨h + 1, 1, none⟩ (.string T)).setCell ⟨h + 1, 2, none⟩ (.slice (some ⟨g6, 0, none⟩) p lc)).setCell ⟨h + 1, 3, none⟩ (.slice kA m kc)) (some P) from by
              obtain ⟨W8, hW8⟩ : ∃ W8, W8 = (((W7.setCell ⟨h + 1, 0, none⟩ (.int .u8 k)).setCell ⟨h + 1, 1, none⟩ (.string T)).setCell ⟨h + 1, 2, none⟩ (.slice (some ⟨g6, 0, none⟩) p lc)).setCell ⟨h + 1, 3, none⟩ (.slice kA m kc) := ⟨_, rfl⟩
              rw [← hW8]
              have p8 : ∀ g, g ≠ h + 1 → W8.heap[g]? = W7.heap[g]? := fun g hg => by
                rw [hW8, Go.RowKit.Below.heap_setCell _ _ _ _ hg, Go.RowKit.Below.heap_setCell _ _ _ _ hg, Go.RowKit.Below.heap_setCell _ _ _ _ hg, Go.RowKit.Below.heap_setCell _ _ _ _ hg]
              have s8 : W8.heap.size = w6.heap.size := by rw [hW8]; simp [s7]
              have o8 : ∀ g, g ≠ g6 → g ≠ h + 1 → W8.heap[g]? = w6.heap[g]? := fun g h1 h2 => (p8 g h2).trans (o7 g h1)
              have gne : g6 ≠ h + 1 := by omega
              have hh := HH.out
              have hwo := (Array.getElem?_eq_some_iff.1 HO.out.b6).1
              have hlo := HO.out.lo
              have hg6w : g6 < w6.heap.size := (Array.getElem?_eq_some_iff.1 HCUR.out).1
              refine ⟨?_, ?_⟩
              · rw [HRD.out]
                refine ⟨_, rfl, ?_⟩
                rw [HTX.out]
                exact set_vk (B0 := wo.heap.size) HKK.out HN.out HM.out hlt hh HOK.out HXS.out HYS.out HGR.out (by omega) o8 k1 ⟨k3, by omega⟩ HOW6.out.1 HOW6.out.2 HCUR.out (by omega) HXC.out
                  (cell_eq (p8 g6 gne) a0) (cell_eq (p8 g6 gne) a1) (cell_eq (p8 g6 gne) a2) (cell_eq (p8 g6 gne) a3)
                  (fun j hj => by
                    have : W8.cell? ⟨g6, j, none⟩ = W7.cell? ⟨g6, j, none⟩ := by simp only [World.cell?, p8 g6 gne]
                    rw [this]; exact ao j hj) HU.out HV1.out
              · have gr := HGR.out
                have same : Below 0 w6 W8 := by
                  rw [hW8, hW7]
                  exact ((((((((Below.refl 0 w6).setCell (Nat.zero_le _) _).setCell (Nat.zero_le _) _).setCell (Nat.zero_le _) _).setCell (Nat.zero_le _) _).setCell (Nat.zero_le _) _).setCell (Nat.zero_le _) _).setCell (Nat.zero_le _) _).setCell (Nat.zero_le _) _
                exact ⟨same.os.trans gr.os, same.tape.trans gr.tape, same.output.trans gr.output, by rw [s8]; exact gr.size, fun g hg hne => (o8 g (by omega) (by omega)).trans (gr.block g hg hne)⟩)
            clear hW7 a0 a1 a2 a3 ao o7 s7 k1 k2 k3 k4 r8 r6 r5 z0 z1 z2 z3 f0 f1 f2 f3 e0 e1 e2 e3 d2
            go_wp2_with fail
            refine bodyPost_ret (v := .tuple #[.agg #[.int .u8 k, .string T, .slice (some ⟨g6, 0, none⟩) p lc, .slice kA m kc], .bool true]) (by simp [results, Tryd.results14, go_sem, *]) rfl ?_
            exact HFIN.out
        · obtain rfl : i = p := by omega
          have HRL := Lib.hid (show r = .left j from by rw [HRR.out, othR_end (by rw [← HN.out]; exact Nat.le_refl _)]; rfl)
          obtain ⟨⟨b0, b1, b2, b3⟩, _⟩ := vcells HO.out.b6
          obtain ⟨⟨n0, n1, n2, n3⟩, m0, m1, m2, m3⟩ := vcells HO.out.b2
          have HFIN := Lib.hid (show OthP P w.heap.size ok r (.returned (.tuple #[.agg #[.int .u8 k, .string T, .slice lA i lc, .slice kA m kc], .bool false])) ((((wo.setCell ⟨h + 1, 0, none⟩ (.int .u8 k)).setCell ⟨h + 1, 1, none⟩ (.string T)).setCell ⟨h + 1, 2, none⟩ (.slice lA i lc)).setCell ⟨h + 1, 3, none⟩ (.slice kA m kc)) ∧ w.grownBy ((((wo.setCell ⟨h + 1, 0, none⟩ (.int .u8 k)).setCell ⟨h + 1, 1, none⟩ (.string T)).setCell ⟨h + 1, 2, none⟩ (.slice lA i lc)).setCell ⟨h + 1, 3, none⟩ (.slice kA m kc)) (some P) from by
            have p8 : ∀ g, g ≠ h + 1 → ((((wo.setCell ⟨h + 1, 0, none⟩ (.int .u8 k)).setCell ⟨h + 1, 1, none⟩ (.string T)).setCell ⟨h + 1, 2, none⟩ (.slice lA i lc)).setCell ⟨h + 1, 3, none⟩ (.slice kA m kc)).heap[g]? = wo.heap[g]? := fun g hg => by
              rw [Go.RowKit.Below.heap_setCell _ _ _ _ hg, Go.RowKit.Below.heap_setCell _ _ _ _ hg, Go.RowKit.Below.heap_setCell _ _ _ _ hg, Go.RowKit.Below.heap_setCell _ _ _ _ hg]
            have hh := HH.out
            have hlo := HO.out.lo
            have gr := HO.out.gr
            have same : Below 0 wo ((((wo.setCell ⟨h + 1, 0, none⟩ (.int .u8 k)).setCell ⟨h + 1, 1, none⟩ (.string T)).setCell ⟨h + 1, 2, none⟩ (.slice lA i lc)).setCell ⟨h + 1, 3, none⟩ (.slice kA m kc)) := ((((Below.refl 0 wo).setCell (Nat.zero_le _) _).setCell (Nat.zero_le _) _).setCell (Nat.zero_le _) _).setCell (Nat.zero_le _) _
            refine ⟨?_, same.os.trans gr.os, same.tape.trans gr.tape, same.output.trans gr.output, by simp; exact gr.size, fun g hg hne => (p8 g (by omega)).trans (gr.block g hg hne)⟩
            rw [HRL.out]
            exact ⟨_, _, _, _, _, _, _, _, rfl, (p8 P (by omega)).trans HO.out.pt⟩)
          go_wp2_with fail
          refine bodyPost_ret (v := .tuple #[.agg #[.int .u8 k, .string T, .slice lA i lc, .slice kA m kc], .bool false]) (by simp [results, Tryd.results14, go_sem, *]) rfl ?_
          exact HFIN.out
end Va
end Go.Proofs.YtnnlgodgaolkkaaDoor
