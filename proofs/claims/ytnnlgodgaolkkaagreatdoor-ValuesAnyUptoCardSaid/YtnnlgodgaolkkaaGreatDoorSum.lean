/- The law's own Turned, walked. -/
import Derived.Test.YtnnlgodgaolkkaaGreatDoorStm
import Derived.Deep.RegionLaw
import Derived.Deep.AppendLies
namespace Go.Proofs.YtnnlgodgaolkkaaGreatDoor
open Go.RowKit
namespace Va

theorem Vk.shape {w : World} {ok : Nat → Prop} {u : Value} {x : V} (h : Vk w ok u x) : ∃ (k : Nat) (t : ByteArray) (A B : Option Addr) (n c m d : Nat), u = .agg #[.int .u8 k, .string t, .slice A n c, .slice B m d] := by
  cases h with
  | mk k t l ks A B c d f => exact ⟨k, _, A, B, _, _, _, _, rfl⟩
theorem cells_four (w : World) (t : TypeId) (a b c d : Value) : ∀ j x, [a, b, c, d][j]? = some x → (w.alloc (.cells #[a, b, c, d] t)).cell? ((⟨w.heap.size, 0, none⟩ : Addr).add j) = some x := fun j x h => by
  rw [addAt, World.cell?_alloc_at _ _ _ _ rfl, Nat.zero_add, ← Array.getElem?_toList]; exact h
theorem trnL_at {b : Nat} {l : List V} {i : Nat} {x : V} (h : l[i]? = some x) : (trnL b l)[i]? = some (trn b x) := by rw [trnL_get, h]; rfl
theorem trn_map {b : Nat} {t : Bs} {l : List V} {ks : List Bs} : trn b (.mk 8 t l ks) = .mk 8 t ((List.range l.length).map fun i => (trnL b l).getD (tix l.length b i) (.mk 0 [] [] [])) ((List.range l.length).map fun i => ks.getD (tix l.length b i) []) := by rw [trn, if_pos rfl]
theorem trn_no {b k : Nat} {t : Bs} {l : List V} {ks : List Bs} (h : k ≠ 8) : trn b (.mk k t l ks) = .mk k t (trnL b l) ks := by rw [trn, if_neg h]
theorem own_cast {w : World} {base : Nat} {e : TypeId} {s : Nat} {v : Value} {n m : Nat} {xs : List Value} (h : w.ownsRow base e s v n xs) (hn : n = m) : w.ownsRow base e s v m xs := hn ▸ h
theorem take_more {α : Type} {l : List α} {i : Nat} {x : α} (h : l[i]? = some x) : l.take (i + 1) = l.take i ++ [x] := by rw [List.take_add_one, h]; rfl
set_option maxHeartbeats 16000000 in
set_option maxRecDepth 100000 in
theorem turned_any (b : Nat) (hb : b < 256) : ∀ (N : Nat) (x : V), wt x ≤ N → N ≤ 1000000000000 → may x = true → ∀ (w : World) (v : Value) (y : Int), y = (b : Nat) → Vm w v x →
    Calls Tryz.prog 28 #[v, .int .u8 y] w fun e w' => (∃ u, e = .returned u ∧ Vk w' (fun g => w.heap.size ≤ g) u (trn b x)) ∧ Below w.heap.size w w'
  | 0, x, hx, _, _, _, _, _, _, _ => by have := wt_pos x; omega
  | N + 1, .mk k t l ks, hx, hN, hm, w, v, y, hy, hv => by
    obtain ⟨A, B, c, d, rfl, hk, hl, hc, hA, hd, hd2, hB, hK, hV⟩ := hv.inv
    have IH := Lib.hid (fun (i : Nat) (x : V) (hi : l[i]? = some x) (w : World) (v : Value) (y : Int) (hy : y = (b : Nat)) (h : Vm w v x) => turned_any b hb N x (by have := wt_sub (k := k) (t := t) (ks := ks) hi; omega) (by omega) (may_sub hm hi) w v y hy h)
    have PA := Lib.hid (may_parts hm)
    subst hy
    obtain ⟨T, hT⟩ : ∃ T, T = txt t := ⟨_, rfl⟩
    obtain ⟨n, HN⟩ : ∃ n, Hid (n = l.length) := ⟨_, Lib.hid rfl⟩
    obtain ⟨m, HM⟩ : ∃ m, Hid (m = ks.length) := ⟨_, Lib.hid rfl⟩
    obtain ⟨R, HR⟩ : ∃ R, Hid (R = trn b (.mk k t l ks)) := ⟨_, Lib.hid rfl⟩
    rw [← HN.out, ← HM.out, ← hT, ← HR.out]
    rw [← HN.out] at hl
    rw [← HM.out] at hd
    have hn5 : n ≤ 1000000000000 := by rw [HN.out]; have := wtL_len l; rw [wt] at hx; omega
    have hm5 : m ≤ 1000000000000 := by rw [HM.out]; rw [wt] at hx; omega
    have HTX := Lib.hid hT
    obtain ⟨W1, hW1⟩ : ∃ W, W = w.alloc (vO (.int .u8 k) (.string T) (.slice A n c) (.slice B m d)) := ⟨_, rfl⟩
    have HX1 := Lib.hid (show Bx W1 w.heap.size (.int .u8 k) (.string T) (.slice A n c) (.slice B m d) from by rw [hW1]; exact Bx.new ..)
    have HB1 := Lib.hid (show Below w.heap.size w W1 from by rw [hW1]; exact below_new ..)
    have HV1 := Lib.hid hV
    have HK1 := Lib.hid hK
    have HW1 := Lib.hid hW1
    have HSZ := Lib.hid (show w.heap.size + 1 = W1.heap.size from by rw [hW1]; show _ = (w.heap.push _).size; rw [Array.size_push])
    clear hT hK hV hx hN hv hW1
    go_enter Tryz.func28, Tryz.ntmps28
    go_upto_region 2 with fail
    obtain ⟨W3, hW3⟩ : ∃ W, W = ((w.alloc (vO (.int .u8 k) (.string T) (.slice A n c) (.slice B m d))).alloc (vO (.int .u8 0) (.string ⟨#[]⟩) (.slice none 0 0) (.slice none 0 0))).alloc (vO (.int .u8 k) (.string T) (.slice none 0 0) (.slice none 0 0)) := ⟨_, rfl⟩
    rw [← hW3]
    obtain ⟨h, hh⟩ : ∃ h, h = w.heap.size := ⟨_, rfl⟩
    have HTU := Lib.hid (show TU w W3 h k T (.slice A n c) (.slice B m d) (.slice none 0 0) (.slice none 0 0) (fun _ => False) [] [] from by
      have e1 := heap_alloc_new w (vO (.int .u8 k) (.string T) (.slice A n c) (.slice B m d))
      have s1 : ∀ (W : World) (o : Obj), (W.alloc o).heap.size = W.heap.size + 1 := fun W o => by show (W.heap.push o).size = _; rw [Array.size_push]
      have o1 : ∀ (W : World) (o : Obj) (g : Nat), g < W.heap.size → (W.alloc o).heap[g]? = W.heap[g]? := fun W o g hg => by show (W.heap.push o)[g]? = _; rw [Array.getElem?_push_lt hg, Array.getElem?_eq_getElem hg]
      rw [hh, hW3]
      refine ⟨((Below.refl _ _).alloc (Nat.le_refl _) _ |>.alloc (by rw [s1]; omega) _).alloc (by rw [s1, s1]; omega) _, rfl, by rw [s1, s1, s1]; omega, ?_, ?_, ?_, OV.nil _ _ _, OT.nil _ _, fun g h => h.elim, fun g h => by cases h⟩
      · rw [o1 _ _ _ (by rw [s1, s1]; omega), o1 _ _ _ (by rw [s1]; omega)]; exact e1
      · rw [o1 _ _ _ (by rw [s1, s1]; omega)]
        have := heap_alloc_new (w.alloc (vO (.int .u8 k) (.string T) (.slice A n c) (.slice B m d))) (vO (.int .u8 0) (.string ⟨#[]⟩) (.slice none 0 0) (.slice none 0 0))
        rw [s1] at this; exact this
      · have := heap_alloc_new ((w.alloc (vO (.int .u8 k) (.string T) (.slice A n c) (.slice B m d))).alloc (vO (.int .u8 0) (.string ⟨#[]⟩) (.slice none 0 0) (.slice none 0 0))) (vO (.int .u8 k) (.string T) (.slice none 0 0) (.slice none 0 0))
        rw [s1, s1] at this; exact this)
    rw [← hh]
    have HH := Lib.hid hh
    clear hW3 hh HX1 HB1 HW1 HSZ
    have x2 : W3.cell? ⟨h, 2, none⟩ = some (.slice A n c) := by simp [World.cell?, HTU.out.b1]
    obtain ⟨Y, HY⟩ : ∃ Y, Hid (Y = R.list) := ⟨_, Lib.hid rfl⟩
    obtain ⟨Z, HZ⟩ : ∃ Z, Hid (Z = R.keys) := ⟨_, Lib.hid rfl⟩
    go_wp2_with fail
    clear x2
    by_cases h8 : k = 8
    · subst h8
      have hks : ks.length = l.length := PA.out.2.2.1 rfl
      obtain rfl : m = n := by rw [HM.out, HN.out, hks]
      have HRM := Lib.hid (show R = .mk 8 t ((List.range l.length).map fun i => (trnL b l).getD (tix l.length b i) (.mk 0 [] [] [])) ((List.range l.length).map fun i => ks.getD (tix l.length b i) []) from by rw [HR.out, trn_map])
      have HYE := Lib.hid (show Y = (List.range l.length).map fun i => (trnL b l).getD (tix l.length b i) (.mk 0 [] [] []) from by rw [HY.out, HRM.out]; rfl)
      have HZE := Lib.hid (show Z = (List.range l.length).map fun i => ks.getD (tix l.length b i) [] from by rw [HZ.out, HRM.out]; rfl)
      have HYL := Lib.hid (show Y.length = m from by rw [HYE.out, List.length_map, List.length_range, HN.out])
      have HZL := Lib.hid (show Z.length = m from by rw [HZE.out, List.length_map, List.length_range, HN.out])
      have HRE := Lib.hid (show R = .mk 8 t Y Z from by rw [HYE.out, HZE.out, HRM.out])
      have HKS := Lib.hid hks
      clear hks
      go_loopw [7, 8] (fun a _ wx => ∃ i : Nat, i ≤ m ∧ a = .int .i64 i ∧ ∃ (lv kv : Value) (ok : Nat → Prop), Hid (TU w wx h 8 T (.slice A m c) (.slice B m d) lv kv ok (Y.take i) (Z.take i))) (fun a _ _ => m - (intOf a).toNat)
      case atStart => exact ⟨0, Nat.zero_le _, rfl, _, _, _, Lib.hid (by rw [List.take_zero, List.take_zero]; exact HTU.out)⟩
      case round =>
        obtain ⟨i, hi, rfl, lv, kv, ok, HT⟩ := hrel
        obtain ⟨wo, hwo⟩ : ∃ wo, wo = wr := ⟨_, rfl⟩
        subst hwo
        have b0 : wo.cell? ⟨h, 0, none⟩ = some (.int .u8 8) := by simp [World.cell?, HT.out.b1]
        have b3 : wo.cell? ⟨h, 3, none⟩ = some (.slice B m d) := by simp [World.cell?, HT.out.b1]
        by_cases hlt : i < m
        · obtain ⟨j, HJ⟩ : ∃ j, Hid (j = tix m b i) := ⟨_, Lib.hid rfl⟩
          have hjm : j < m := by rw [HJ.out]; exact tix_lt hlt
          obtain ⟨x, hx⟩ := get_lt (l := l) (i := j) (by rw [← HN.out]; exact hjm)
          obtain ⟨s, hs⟩ := get_lt (l := ks) (i := j) (by rw [← HM.out]; exact hjm)
          have HX := Lib.hid hx
          have HYI := Lib.hid (show Y[i]? = some (trn b x) from by
            rw [HYE.out, List.getElem?_map, List.getElem?_range (by rw [← HN.out]; exact hlt)]
            show some ((trnL b l).getD (tix l.length b i) (.mk 0 [] [] [])) = some (trn b x)
            rw [← HN.out, ← HJ.out, List.getD_eq_getElem?_getD, trnL_at hx]; rfl)
          have HZI := Lib.hid (show Z[i]? = some s from by
            rw [HZE.out, List.getElem?_map, List.getElem?_range (by rw [← HN.out]; exact hlt)]
            show some (ks.getD (tix l.length b i) []) = some s
            rw [← HN.out, ← HJ.out, List.getD_eq_getElem?_getD, hs]; rfl)
          obtain ⟨gk, ok', rfl, hgk, hfk⟩ := HK1.out (by rw [← HM.out]; omega)
          have ck := hfk j s hs
          obtain ⟨S, hS⟩ : ∃ S, S = txt s := ⟨_, rfl⟩
          rw [← hS] at ck
          have HS := Lib.hid hS
          have HCK := Lib.hid (And.intro hgk ck)
          clear hx hs hfk hS ck hgk
          go_upto_if 30 with fail
          go_cut [8, 28, 29, 30] from 31 to 44 (fun a _ _ _ wx => wo = wx ∧ a = .int .i64 j)
          case first =>
            by_cases hb2 : b % 2 = 0
            · have z1 : (b : Int) % 2 = 0 := by omega
              have z2 : (b : Int).tmod 2 = 0 := by rw [Int.tmod_eq_emod_of_nonneg (by omega)]; exact z1
              have z3 : (m : Int) - 1 - (i : Int) = (j : Int) := by rw [HJ.out, tix, if_pos hb2]; omega
              clear hb2
              go_wp2_with fail
              go_meet
              exact ⟨by first | rfl | trivial, by go_num⟩
            · have z1 : (b : Int) % 2 = 1 := by omega
              have z2 : (b : Int).tmod 2 = 1 := by rw [Int.tmod_eq_emod_of_nonneg (by omega)]; exact z1
              obtain ⟨e, he⟩ : ∃ e, e = b / 2 := ⟨_, rfl⟩
              have he5 : e < 128 := by omega
              have z4 : (b : Int) / 2 = (e : Nat) := by omega
              have z5 : (b : Int).tdiv 2 = (e : Nat) := by rw [Int.tdiv_eq_ediv_of_nonneg (by omega)]; exact z4
              have z7 : ((i : Int) + (e : Int)) % (m : Int) = (j : Int) := by rw [HJ.out, tix, if_neg hb2, ← he]; first | (push_cast; rfl) | rfl
              have z6 : ((i : Int) + (e : Int)).tmod (m : Int) = (j : Int) := by rw [Int.tmod_eq_emod_of_nonneg (by omega)]; exact z7
              have z8 : ¬ (m : Int) = 0 := by omega
              clear hb2 he
              go_wp2_with fail
              go_meet
              exact ⟨by first | rfl | trivial, by go_num⟩
          case rest =>
            obtain ⟨rfl, rfl⟩ := hcut
            go_upto_region 12 with fail
            have HTd := Lib.hid (HT.out.call (Below.refl _ _).drew)
            have HKO := Lib.hid (own_cast HTd.out.ot (show (Z.take i).length = i by rw [List.length_take, HZL.out]; omega))
            have f3 : wo.cell? ⟨h + 1 + 1, 3, none⟩ = some kv := by simp [World.cell?, HT.out.b5]
            have hsz2 : h + 1 + 1 < wo.heap.size := by have := HT.out.sz; omega
            have f4 : ∀ o, (wo.drew.alloc o).cell? ⟨h + 1 + 1, 3, none⟩ = some kv := fun o => by rw [World.cell?_alloc_lt _ _ _ hsz2]; exact f3
            have ck : wo.cell? ⟨gk, ok' + j, none⟩ = some (.string S) := by rw [HT.out.below.cell HCK.out.1]; exact HCK.out.2
            have ck2 : ∀ o, (wo.drew.alloc o).cell? ⟨gk, ok' + j, none⟩ = some (.string S) := fun o => by rw [World.cell?_alloc_lt _ _ _ (by have := HT.out.below.size; have := HCK.out.1; show gk < wo.heap.size; omega)]; exact ck
            have b4 : ∀ o, (wo.drew.alloc o).cell? ⟨h, 3, none⟩ = some (.slice (some ⟨gk, ok', none⟩) m d) := fun o => by rw [World.cell?_alloc_lt _ _ _ (by show h < wo.heap.size; omega)]; exact b3
            have hsz3 : h + 3 ≤ wo.heap.size := HT.out.sz
            obtain ⟨i9, hi9, y0, y1, y2⟩ := info_parts (show (Tryz.prog.info? 9).map (fun i => (i.zero, i.size, i.bytes)) = some (some (.string ⟨#[]⟩), 1, 16) by kernel_rfl)
            go_cut [63] from 55 to 76 (fun a wx => ∃ (g6 c6 : Nat), a = .slice (some ⟨g6, 0, none⟩) (i + 1) c6 ∧ Hid (TU w wx h 8 T (.slice A m c) (.slice (some ⟨gk, ok', none⟩) m d) lv (.slice (some ⟨g6, 0, none⟩) (i + 1) c6) ok (Y.take i) (Z.take (i + 1))))
            case first =>
              go_region_law (refine step_append_lies _ rfl (.tmp 56) (.tmp 62) 24 rfl (h + 3) 9 i9 (.string ⟨#[]⟩) 1 16 Tryz.underlying24 hi9 y0 y1 y2 rfl (by decide) kv i ((Z.take i).map fun t => .string (txt t)) (by simp [Act.eval]) (HKO.out.alloc _) ⟨wo.heap.size, 0, none⟩ 1 1 [.string S] (by simp [Act.eval]) rfl (cell_new1 _ _ _) (fun u hu => by simp at hu; subst hu; rfl) (by omega) (by unfold maxLen; omega) (by omega) (by show h + 3 ≤ (wo.heap.push _).size; rw [Array.size_push]; omega) _ rfl ?_; intro g6 c6 w6 own6 hg6 hb6 hlt6; have s1 : w6.cell? ⟨h + 1 + 1, 3, none⟩ = some kv := (store_kv HTd.out hg6).1; have s2 : w6.frozen? ⟨h + 1 + 1, 3, none⟩ = false := (store_kv HTd.out hg6).2; have HN6 := Lib.hid (HTd.out.key (s := s) (n := i) (by rw [List.length_take, HZL.out]; omega) (by rw [← HS.out]; exact own6) hg6 (by rcases hb6 with e | e; exact .inl e.symm; exact .inr (by rw [e]; rfl))))
              all_goals
                try go_wp2_with fail
                go_meet
                exact ⟨g6, c6, rfl, Lib.hid (by rw [take_more HZI.out]; exact HN6.out)⟩
            case rest =>
            obtain ⟨g6, c6, rfl, HT5⟩ := hcut
            obtain ⟨w5, hw5⟩ : ∃ w5, w5 = wc := ⟨_, rfl⟩
            subst hw5
            clear f3 f4 ck ck2 b0 b3 b4 hsz2 hsz3 HKO HTd HT
            obtain ⟨g, o, rfl, hg, hf⟩ := HV1.out (by rw [← HN.out]; omega)
            obtain ⟨v0, v1, v2, v3, d0, d1, d2, d3, hvm⟩ := hf j x HX.out
            have HVM := Lib.hid hvm
            have HTe := Lib.hid (HT5.out.call (Below.refl _ _).drew)
            have D0 := Lib.hid (And.intro d0 (And.intro d1 (And.intro d2 d3)))
            have HGS := Lib.hid hg
            clear d0 d1 d2 d3 hvm hf
            go_upto_region 13 with fail
            have hold : ∀ p v, p.block < w.heap.size → w.cell? p = some v → w5.cell? p = some v := fun p v hp hc => by rw [HT5.out.below.cell hp]; exact hc
            have c0 := hold _ _ HGS.out D0.out.1
            have c1 := hold _ _ HGS.out D0.out.2.1
            have c2 := hold _ _ HGS.out D0.out.2.2.1
            have c3 := hold _ _ HGS.out D0.out.2.2.2
            have f2 : w5.cell? ⟨h, 2, none⟩ = some (.slice (some ⟨g, o, none⟩) m c) := by simp [World.cell?, HT5.out.b1]
            have f5 : w5.cell? ⟨h + 1 + 1, 2, none⟩ = some lv := by simp [World.cell?, HT5.out.b5]
            obtain ⟨i1, hi1, hz0, hz1, hz2⟩ := info_parts (show (Tryz.prog.info? 26).map (fun i => (i.zero, i.size, i.bytes)) = some (some (.agg #[.int .u8 0, .string ⟨#[]⟩, .slice none 0 0, .slice none 0 0]), 4, 72) by kernel_rfl)
            have CI := Lib.hid (IH.out j x HX.out w5.drew _ (b : Nat) rfl (HVM.out.on (HTe.out.below.mono (Nat.le_refl _))))
            have HPO := Lib.hid (fun (w3 : World) (u : Value) (hu : Vk w3 (fun g => w5.drew.heap.size ≤ g) u (trn b x)) (hb3 : Below w5.drew.heap.size w5.drew w3) =>
              (show TU w w3 h 8 T (.slice (some ⟨g, o, none⟩) m c) (.slice (some ⟨gk, ok', none⟩) m d) lv (.slice (some ⟨g6, 0, none⟩) (i + 1) c6) (fun g => ok g ∨ w5.drew.heap.size ≤ g ∧ g < w3.heap.size) (Y.take i) (Z.take (i + 1)) ∧ Vk w3 (fun g => ok g ∨ w5.drew.heap.size ≤ g ∧ g < w3.heap.size) u (trn b x) from
              ⟨(HTe.out.call hb3).more (ok' := fun g => ok g ∨ w5.drew.heap.size ≤ g ∧ g < w3.heap.size) (fun g h => .inl h) (fun g hg => by
                rcases hg with hg | ⟨h1, h2⟩
                · have := HTe.out.okb g hg; exact ⟨this.1, Nat.lt_of_lt_of_le this.2.1 hb3.size, this.2.2⟩
                · exact ⟨by have := HTe.out.sz; omega, h2, fun e => by have := HTe.out.lvb g e; omega, fun e => by have := HTe.out.kvb g e; omega⟩),
              hu.to (ok' := fun g => ok g ∨ w5.drew.heap.size ≤ g ∧ g < w3.heap.size) (fun g h1 h2 => .inr ⟨h2, h1⟩)⟩))
            go_region_law (first
              | (refine step_append_lies _ rfl (.tmp 66) (.tmp 74) 23 rfl (h + 3) 26 i1 (.agg #[.int .u8 0, .string ⟨#[]⟩, .slice none 0 0, .slice none 0 0]) 4 72 Tryz.underlying23 hi1 hz0 hz1 hz2 rfl (by decide) lv i xs (by simp [Act.eval]) (HXS.out.alloc _) ⟨w3.heap.size, 0, none⟩ 1 1 [.int .u8 uk, .string ut, .slice uA un uc, .slice uB um ud] (by simp [Act.eval]) rfl (cells_four _ _ _ _ _ _) (fun u hu => by simp at hu; rcases hu with rfl | rfl | rfl | rfl <;> rfl) (by omega) (by unfold maxLen; omega) (by omega) (by show h + 3 ≤ (w3.heap.push _).size; rw [Array.size_push]; omega) _ rfl ?_; intro g4 c4 w4 own4 hg4 hb4 hlt4; have HN4 := Lib.hid (HT3.out.1.val (n := i) (by rw [List.length_take, HYL.out]; omega) HXS.out HEL.out own4 HT3.out.2 hg4 (by rcases hb4 with e | e; exact .inl e.symm; exact .inr (by rw [e]; rfl))); have s1 : w4.cell? ⟨h + 1 + 1, 2, none⟩ = some lv := (store_lv HT3.out.1 hg4).1; have s2 : w4.frozen? ⟨h + 1 + 1, 2, none⟩ = false := (store_lv HT3.out.1 hg4).2)
              | (go_simp; go_at_call 28; refine CI.out.mono ?_; rintro e w3 ⟨⟨u, rfl, hu⟩, hb3⟩; obtain ⟨uk, ut, uA, uB, un, uc, um, ud, rfl⟩ := hu.shape; have HT3 := Lib.hid (HPO.out w3 _ hu hb3); obtain ⟨xs, hxs, hel⟩ := HT3.out.1.ol.own; have HXS := Lib.hid (own_cast hxs (show (Y.take i).length = i by rw [List.length_take, HYL.out]; omega)); have HEL := Lib.hid hel; have hsz3 : h + 3 ≤ w3.heap.size := HT3.out.1.sz; have f6 : w3.cell? ⟨h + 1 + 1, 2, none⟩ = some lv := (by simp [World.cell?, HT3.out.1.b5]); have f7 : ∀ o, (w3.alloc o).cell? ⟨h + 1 + 1, 2, none⟩ = some lv := (fun o => by rw [World.cell?_alloc_lt _ _ _ (by show h + 1 + 1 < _; omega)]; exact f6); clear hu hb3 hxs hel))
            all_goals
              go_wp2_with fail
              go_roundw
              case rel => exact ⟨i + 1, by omega, by go_num, _, _, _, Lib.hid (by rw [take_more HYI.out]; exact HN4.out)⟩
              case measure => simp [intOf]; omega
        · obtain rfl : i = m := by omega
          have HF := Lib.hid (show Vk wo (fun g => h + 3 ≤ g) (.agg #[.int .u8 8, .string T, lv, kv]) R from by
            have e := HT.out.ol
            have e2 := HT.out.ot
            rw [List.take_of_length_le (by rw [HYL.out]; omega)] at e
            rw [List.take_of_length_le (by rw [HZL.out]; omega)] at e2
            rw [HRE.out, HTX.out]
            exact (e.value (k := 8) (by omega) e2).to fun g _ h0 => by
              rcases h0 with h0 | h0
              · exact (HT.out.okb g h0).1
              · exact h0)
          obtain ⟨xs, ho, _⟩ := HT.out.ol.own
          obtain ⟨A9, c9, e9, _, _, _⟩ := own_shape ho
          obtain ⟨A8, c8, e8, _, _, _⟩ := own_shape HT.out.ot
          have hlen : (Y.take i).length = i := by rw [List.length_take, HYL.out]; omega
          have hlen2 : (Z.take i).length = i := by rw [List.length_take, HZL.out]; omega
          rw [hlen] at e9
          rw [hlen2] at e8
          subst e9 e8
          have q0 : wo.cell? ⟨h + 1 + 1, 0, none⟩ = some (.int .u8 8) := by simp [World.cell?, HT.out.b5]
          have q1 : wo.cell? ⟨h + 1 + 1, 1, none⟩ = some (.string T) := by simp [World.cell?, HT.out.b5]
          have q2 : wo.cell? ⟨h + 1 + 1, 2, none⟩ = some (.slice A9 i c9) := by simp [World.cell?, HT.out.b5]
          have q3 : wo.cell? ⟨h + 1 + 1, 3, none⟩ = some (.slice A8 i c8) := by simp [World.cell?, HT.out.b5]
          have r0 : wo.cell? ⟨h + 1, 0, none⟩ = some (.int .u8 0) := by simp [World.cell?, HT.out.b4]
          have r1 : wo.cell? ⟨h + 1, 1, none⟩ = some (.string ⟨#[]⟩) := by simp [World.cell?, HT.out.b4]
          have r2 : wo.cell? ⟨h + 1, 2, none⟩ = some (.slice none 0 0) := by simp [World.cell?, HT.out.b4]
          have r3 : wo.cell? ⟨h + 1, 3, none⟩ = some (.slice none 0 0) := by simp [World.cell?, HT.out.b4]
          have t0 : wo.frozen? ⟨h + 1, 0, none⟩ = false := by simp [World.frozen?, HT.out.b4]
          have t1 : wo.frozen? ⟨h + 1, 1, none⟩ = false := by simp [World.frozen?, HT.out.b4]
          have t2 : wo.frozen? ⟨h + 1, 2, none⟩ = false := by simp [World.frozen?, HT.out.b4]
          have t3 : wo.frozen? ⟨h + 1, 3, none⟩ = false := by simp [World.frozen?, HT.out.b4]
          clear ho hlen hlen2
          go_wp2_with fail
          refine bodyPost_ret (v := .agg #[.int .u8 8, .string T, .slice A9 i c9, .slice A8 i c8]) (by simp [results, Tryz.results28, go_sem, *]) rfl ?_
          have hh9 := HH.out
          exact ⟨⟨_, rfl, (HF.out.keep (fun g hg _ => by rw [Go.RowKit.Below.heap_setCell _ _ _ _ (show g ≠ h + 1 by omega), Go.RowKit.Below.heap_setCell _ _ _ _ (show g ≠ h + 1 by omega), Go.RowKit.Below.heap_setCell _ _ _ _ (show g ≠ h + 1 by omega), Go.RowKit.Below.heap_setCell _ _ _ _ (show g ≠ h + 1 by omega)]) (by simp)).to fun g _ h0 => by omega⟩,
            (((HT.out.below.setCell (by show w.heap.size ≤ h + 1; omega) _).setCell (by show w.heap.size ≤ h + 1; omega) _).setCell (by show w.heap.size ≤ h + 1; omega) _).setCell (by show w.heap.size ≤ h + 1; omega) _⟩
    · have f8 : ((k : Int) == 8) = false := beq_eq_false_iff_ne.2 (by omega)
      have g8 : ((k : Int) != 8) = true := bne_iff_ne.2 (by omega)
      have hks : ks = [] := PA.out.2.1.resolve_left h8
      have HYE := Lib.hid (show Y = trnL b l from by rw [HY.out, HR.out, trn_no h8]; rfl)
      have HYL := Lib.hid (show Y.length = n from by rw [HYE.out, trnL_len, HN.out])
      have HRE := Lib.hid (show R = .mk k t Y [] from by rw [HYE.out, HR.out, trn_no h8, hks])
      obtain rfl : m = 0 := by rw [HM.out, hks]; rfl
      clear h8 hks
      go_loopw [7, 8] (fun a _ wx => ∃ i : Nat, i ≤ n ∧ a = .int .i64 i ∧ ∃ (lv kv : Value) (ok : Nat → Prop), kv = .slice none 0 0 ∧ Hid (TU w wx h k T (.slice A n c) (.slice B 0 d) lv kv ok (Y.take i) [])) (fun a _ _ => n - (intOf a).toNat)
      case atStart => exact ⟨0, Nat.zero_le _, rfl, _, _, _, rfl, Lib.hid (by rw [List.take_zero]; exact HTU.out)⟩
      case round =>
        obtain ⟨i, hi, rfl, lv, kv, ok, rfl, HT⟩ := hrel
        obtain ⟨wo, hwo⟩ : ∃ wo, wo = wr := ⟨_, rfl⟩
        subst hwo
        have b0 : wo.cell? ⟨h, 0, none⟩ = some (.int .u8 k) := by simp [World.cell?, HT.out.b1]
        have b2 : wo.cell? ⟨h, 2, none⟩ = some (.slice A n c) := by simp [World.cell?, HT.out.b1]
        have b3 : wo.cell? ⟨h, 3, none⟩ = some (.slice B 0 d) := by simp [World.cell?, HT.out.b1]
        by_cases hlt : i < n
        · obtain ⟨x, hx⟩ := get_lt (l := l) (i := i) (by rw [← HN.out]; exact hlt)
          have HX := Lib.hid hx
          have HYI := Lib.hid (show Y[i]? = some (trn b x) from by rw [HYE.out]; exact trnL_at hx)
          clear hx
          obtain ⟨g, o, rfl, hg, hf⟩ := HV1.out (by rw [← HN.out]; omega)
          obtain ⟨v0, v1, v2, v3, d0, d1, d2, d3, hvm⟩ := hf i x HX.out
          have HVM := Lib.hid hvm
          have HTd := Lib.hid (HT.out.call (Below.refl _ _).drew)
          have D0 := Lib.hid (And.intro d0 (And.intro d1 (And.intro d2 d3)))
          have HGS := Lib.hid hg
          clear d0 d1 d2 d3 hvm hf
          go_upto_region 13 with fail
          clear b0 b2 b3
          have hold : ∀ p v, p.block < w.heap.size → w.cell? p = some v → wo.cell? p = some v := fun p v hp hc => by rw [HT.out.below.cell hp]; exact hc
          have c0 := hold _ _ HGS.out D0.out.1
          have c1 := hold _ _ HGS.out D0.out.2.1
          have c2 := hold _ _ HGS.out D0.out.2.2.1
          have c3 := hold _ _ HGS.out D0.out.2.2.2
          have f2 : wo.cell? ⟨h, 2, none⟩ = some (.slice (some ⟨g, o, none⟩) n c) := by simp [World.cell?, HT.out.b1]
          have f5 : wo.cell? ⟨h + 1 + 1, 2, none⟩ = some lv := by simp [World.cell?, HT.out.b5]
          obtain ⟨i1, hi1, hz0, hz1, hz2⟩ := info_parts (show (Tryz.prog.info? 26).map (fun i => (i.zero, i.size, i.bytes)) = some (some (.agg #[.int .u8 0, .string ⟨#[]⟩, .slice none 0 0, .slice none 0 0]), 4, 72) by kernel_rfl)
          have CI := Lib.hid (IH.out i x HX.out wo.drew _ (b : Nat) rfl (HVM.out.on (HTd.out.below.mono (Nat.le_refl _))))
          have HPO := Lib.hid (fun (w3 : World) (u : Value) (hu : Vk w3 (fun g => wo.drew.heap.size ≤ g) u (trn b x)) (hb3 : Below wo.drew.heap.size wo.drew w3) =>
            (show TU w w3 h k T (.slice (some ⟨g, o, none⟩) n c) (.slice B 0 d) lv (.slice none 0 0) (fun g => ok g ∨ wo.drew.heap.size ≤ g ∧ g < w3.heap.size) (Y.take i) [] ∧ Vk w3 (fun g => ok g ∨ wo.drew.heap.size ≤ g ∧ g < w3.heap.size) u (trn b x) from
            ⟨(HTd.out.call hb3).more (ok' := fun g => ok g ∨ wo.drew.heap.size ≤ g ∧ g < w3.heap.size) (fun g h => .inl h) (fun g hg => by
              rcases hg with hg | ⟨h1, h2⟩
              · have := HTd.out.okb g hg; exact ⟨this.1, Nat.lt_of_lt_of_le this.2.1 hb3.size, this.2.2⟩
              · exact ⟨by have := HTd.out.sz; omega, h2, fun e => by have := HTd.out.lvb g e; omega, fun e => by have := HTd.out.kvb g e; omega⟩),
            hu.to (ok' := fun g => ok g ∨ wo.drew.heap.size ≤ g ∧ g < w3.heap.size) (fun g h1 h2 => .inr ⟨h2, h1⟩)⟩))
          go_region_law (first
            | (refine step_append_lies _ rfl (.tmp 66) (.tmp 74) 23 rfl (h + 3) 26 i1 (.agg #[.int .u8 0, .string ⟨#[]⟩, .slice none 0 0, .slice none 0 0]) 4 72 Tryz.underlying23 hi1 hz0 hz1 hz2 rfl (by decide) lv i xs (by simp [Act.eval]) (HXS.out.alloc _) ⟨w3.heap.size, 0, none⟩ 1 1 [.int .u8 uk, .string ut, .slice uA un uc, .slice uB um ud] (by simp [Act.eval]) rfl (cells_four _ _ _ _ _ _) (fun u hu => by simp at hu; rcases hu with rfl | rfl | rfl | rfl <;> rfl) (by omega) (by unfold maxLen; omega) (by omega) (by show h + 3 ≤ (w3.heap.push _).size; rw [Array.size_push]; omega) _ rfl ?_; intro g4 c4 w4 own4 hg4 hb4 hlt4; have HN4 := Lib.hid (HT3.out.1.val (n := i) (by rw [List.length_take, HYL.out]; omega) HXS.out HEL.out own4 HT3.out.2 hg4 (by rcases hb4 with e | e; exact .inl e.symm; exact .inr (by rw [e]; rfl))); have s1 : w4.cell? ⟨h + 1 + 1, 2, none⟩ = some lv := (store_lv HT3.out.1 hg4).1; have s2 : w4.frozen? ⟨h + 1 + 1, 2, none⟩ = false := (store_lv HT3.out.1 hg4).2)
            | (go_simp; go_at_call 28; refine CI.out.mono ?_; rintro e w3 ⟨⟨u, rfl, hu⟩, hb3⟩; obtain ⟨uk, ut, uA, uB, un, uc, um, ud, rfl⟩ := hu.shape; have HT3 := Lib.hid (HPO.out w3 _ hu hb3); obtain ⟨xs, hxs, hel⟩ := HT3.out.1.ol.own; have HXS := Lib.hid (own_cast hxs (show (Y.take i).length = i by rw [List.length_take, HYL.out]; omega)); have HEL := Lib.hid hel; have hsz3 : h + 3 ≤ w3.heap.size := HT3.out.1.sz; have f6 : w3.cell? ⟨h + 1 + 1, 2, none⟩ = some lv := (by simp [World.cell?, HT3.out.1.b5]); have f7 : ∀ o, (w3.alloc o).cell? ⟨h + 1 + 1, 2, none⟩ = some lv := (fun o => by rw [World.cell?_alloc_lt _ _ _ (by show h + 1 + 1 < _; omega)]; exact f6); clear hu hb3 hxs hel))
          all_goals
            go_wp2_with fail
            go_roundw
            case rel => exact ⟨i + 1, by omega, by go_num, _, _, _, rfl, Lib.hid (by rw [take_more HYI.out]; exact HN4.out)⟩
            case measure => simp [intOf]; omega
        · obtain rfl : i = n := by omega
          have HF := Lib.hid (show Vk wo (fun g => h + 3 ≤ g) (.agg #[.int .u8 k, .string T, lv, .slice none 0 0]) R from by
            have e := HT.out.ol
            rw [List.take_of_length_le (by rw [HYL.out]; omega)] at e
            rw [HRE.out, HTX.out]
            exact (e.value (by have := PA.out.1; omega) HT.out.ot).to fun g _ h0 => by
              rcases h0 with h0 | h0
              · exact (HT.out.okb g h0).1
              · exact h0)
          obtain ⟨xs, ho, _⟩ := HT.out.ol.own
          obtain ⟨A9, c9, e9, _, _, _⟩ := own_shape ho
          have hlen : (Y.take i).length = i := by rw [List.length_take, HYL.out]; omega
          rw [hlen] at e9
          subst e9
          have q0 : wo.cell? ⟨h + 1 + 1, 0, none⟩ = some (.int .u8 k) := by simp [World.cell?, HT.out.b5]
          have q1 : wo.cell? ⟨h + 1 + 1, 1, none⟩ = some (.string T) := by simp [World.cell?, HT.out.b5]
          have q2 : wo.cell? ⟨h + 1 + 1, 2, none⟩ = some (.slice A9 i c9) := by simp [World.cell?, HT.out.b5]
          have q3 : wo.cell? ⟨h + 1 + 1, 3, none⟩ = some (.slice none 0 0) := by simp [World.cell?, HT.out.b5]
          have q4 : wo.frozen? ⟨h + 1 + 1, 3, none⟩ = false := by simp [World.frozen?, HT.out.b5]
          have r0 : wo.cell? ⟨h + 1, 0, none⟩ = some (.int .u8 0) := by simp [World.cell?, HT.out.b4]
          have r1 : wo.cell? ⟨h + 1, 1, none⟩ = some (.string ⟨#[]⟩) := by simp [World.cell?, HT.out.b4]
          have r2 : wo.cell? ⟨h + 1, 2, none⟩ = some (.slice none 0 0) := by simp [World.cell?, HT.out.b4]
          have r3 : wo.cell? ⟨h + 1, 3, none⟩ = some (.slice none 0 0) := by simp [World.cell?, HT.out.b4]
          have t0 : wo.frozen? ⟨h + 1, 0, none⟩ = false := by simp [World.frozen?, HT.out.b4]
          have t1 : wo.frozen? ⟨h + 1, 1, none⟩ = false := by simp [World.frozen?, HT.out.b4]
          have t2 : wo.frozen? ⟨h + 1, 2, none⟩ = false := by simp [World.frozen?, HT.out.b4]
          have t3 : wo.frozen? ⟨h + 1, 3, none⟩ = false := by simp [World.frozen?, HT.out.b4]
          clear ho hlen
          cases B with
          | none =>
            obtain rfl := hB rfl
            go_wp2_with fail
            refine bodyPost_ret (v := .agg #[.int .u8 k, .string T, .slice A9 i c9, .slice none 0 0]) (by simp [results, Tryz.results28, go_sem, *]) rfl ?_
            have hh9 := HH.out
            exact ⟨⟨_, rfl, (HF.out.keep (fun g hg _ => by rw [Go.RowKit.Below.heap_setCell _ _ _ _ (show g ≠ h + 1 by omega), Go.RowKit.Below.heap_setCell _ _ _ _ (show g ≠ h + 1 by omega), Go.RowKit.Below.heap_setCell _ _ _ _ (show g ≠ h + 1 by omega), Go.RowKit.Below.heap_setCell _ _ _ _ (show g ≠ h + 1 by omega), Go.RowKit.Below.heap_setCell _ _ _ _ (show g ≠ h + 1 + 1 by omega)]) (by simp)).to fun g _ h0 => by omega⟩,
              ((((HT.out.below.setCell (by show w.heap.size ≤ h + 1 + 1; omega) _).setCell (by show w.heap.size ≤ h + 1; omega) _).setCell (by show w.heap.size ≤ h + 1; omega) _).setCell (by show w.heap.size ≤ h + 1; omega) _).setCell (by show w.heap.size ≤ h + 1; omega) _⟩
          | some ad =>
            go_wp2_with fail
            refine bodyPost_ret (v := .agg #[.int .u8 k, .string T, .slice A9 i c9, .slice none 0 0]) (by simp [results, Tryz.results28, go_sem, *]) rfl ?_
            have hh9 := HH.out
            exact ⟨⟨_, rfl, (HF.out.keep (fun g hg _ => by rw [Go.RowKit.Below.heap_setCell _ _ _ _ (show g ≠ h + 1 by omega), Go.RowKit.Below.heap_setCell _ _ _ _ (show g ≠ h + 1 by omega), Go.RowKit.Below.heap_setCell _ _ _ _ (show g ≠ h + 1 by omega), Go.RowKit.Below.heap_setCell _ _ _ _ (show g ≠ h + 1 by omega), Go.RowKit.Below.heap_setCell _ _ _ _ (show g ≠ h + 1 + 1 by omega)]) (by simp)).to fun g _ h0 => by omega⟩,
              ((((HT.out.below.setCell (by show w.heap.size ≤ h + 1 + 1; omega) _).setCell (by show w.heap.size ≤ h + 1; omega) _).setCell (by show w.heap.size ≤ h + 1; omega) _).setCell (by show w.heap.size ≤ h + 1; omega) _).setCell (by show w.heap.size ≤ h + 1; omega) _⟩
end Va
end Go.Proofs.YtnnlgodgaolkkaaGreatDoor
