/- The document's: is a value as its kind asks? -/
import Derived.Test.YtnnlgodgaolkkaaGreatDoorHe
namespace Go.Proofs.YtnnlgodgaolkkaaGreatDoor
open Go.RowKit
namespace Va

theorem plH_no {k : Nat} {t : Bs} {n : Nat} {ks : List Bs} (h : ¬ (k ≤ 8 ∧ (k = 8 ∨ ks = []) ∧ (7 ≤ k ∨ n = 0) ∧ tx k t ∧ (k = 8 → ks.length = n) ∧ ks.Nodup)) (l : List V) (hl : n = l.length) : pl (.mk k t l ks) = false := by
  rw [pl, ← hl, plH, decide_eq_false h]; rfl
theorem nonempty {t : Bs} {T : ByteArray} (hT : T = txt t) (h : t ≠ []) : (T.toList == []) = false ∧ (T.toList != []) = true ∧ T.toList.isEmpty = false := by
  subst hT
  rw [Lib.toList_data]
  have e : (txt t).data.toList = t := by simp [txt]
  rw [e]
  refine ⟨beq_eq_false_iff_ne.2 h, bne_iff_ne.2 h, ?_⟩
  cases t with
  | nil => exact absurd rfl h
  | cons => rfl
theorem unlike {t u : Bs} {T : ByteArray} (hT : T = txt t) (h : ¬ t = u) : (T.toList == u) = false ∧ (T.toList != u) = true := by
  subst hT
  rw [Lib.toList_data]
  have e : (txt t).data.toList = t := by simp [txt]
  rw [e]
  exact ⟨beq_eq_false_iff_ne.2 h, bne_iff_ne.2 h⟩
set_option maxHeartbeats 8000000 in
set_option maxRecDepth 100000 in
theorem plain_any : ∀ (N : Nat) (x : V), wt x ≤ N → N ≤ 1000000000000 → ∀ (w : World) (v : Value), Vm w v x →
    Calls Tryz.prog 31 #[v] w fun e w' => e = .returned (.bool (pl x)) ∧ Below w.heap.size w w'
  | 0, x, hx, _, _, _, _ => by have := wt_pos x; omega
  | N + 1, .mk k t l ks, hx, hN, w, v, hv => by
    obtain ⟨A, B, c, d, rfl, hk, hl, hc, hA, hd, hd2, hB, hK, hV⟩ := hv.inv
    have IH := Lib.hid (fun (i : Nat) (x : V) (hi : l[i]? = some x) (w : World) (v : Value) (h : Vm w v x) => plain_any N x (by have := wt_sub (k := k) (t := t) (ks := ks) hi; omega) (by omega) w v h)
    obtain ⟨T, hT⟩ : ∃ T, T = txt t := ⟨_, rfl⟩
    obtain ⟨n, HN⟩ : ∃ n, Hid (n = l.length) := ⟨_, Lib.hid rfl⟩
    obtain ⟨m, HM⟩ : ∃ m, Hid (m = ks.length) := ⟨_, Lib.hid rfl⟩
    obtain ⟨R, hR⟩ : ∃ R, R = pl (.mk k t l ks) := ⟨_, rfl⟩
    have HNO := Lib.hid (fun h => hR.trans (plH_no (k := k) (t := t) (n := n) (ks := ks) h l HN.out))
    have HYES := Lib.hid (fun (h : plH k t l.length ks = true) => (show R = plL l by rw [hR, pl, h]; rfl))
    rw [← HN.out, ← HM.out, ← hT, ← hR]
    rw [← HN.out] at hl
    rw [← HM.out] at hd
    have hn5 : n ≤ 1000000000000 := by rw [HN.out]; have := wtL_len l; rw [wt] at hx; omega
    have hm5 : m ≤ 1000000000000 := by rw [HM.out]; rw [wt] at hx; omega
    have HTT := Lib.hid hT
    obtain ⟨W1, hW1⟩ : ∃ W, W = w.alloc (vO (.int .u8 k) (.string T) (.slice A n c) (.slice B m d)) := ⟨_, rfl⟩
    have HX := Lib.hid (show Bx W1 w.heap.size (.int .u8 k) (.string T) (.slice A n c) (.slice B m d) from by rw [hW1]; exact Bx.new ..)
    have HB1 := Lib.hid (show Below w.heap.size w W1 from by rw [hW1]; exact below_new ..)
    have HV := Lib.hid (hV.on HB1.out)
    have HK := Lib.hid (hK.on HB1.out)
    clear hT hR hK hV hx hN hv
    go_enter Tryz.func31, Tryz.ntmps31
    go_upto_region 1 with fail
    rw [← hW1]
    obtain ⟨h, hh⟩ : ∃ h, h = w.heap.size := ⟨_, rfl⟩
    rw [← hh] at HX ⊢
    clear hW1 hh
    obtain ⟨x0, x1, x2, x3⟩ : W1.cell? ⟨h, 0, none⟩ = some (.int .u8 k) ∧ W1.cell? ⟨h, 1, none⟩ = some (.string T) ∧ W1.cell? ⟨h, 2, none⟩ = some (.slice A n c) ∧ W1.cell? ⟨h, 3, none⟩ = some (.slice B m d) := ⟨HX.out.c0, HX.out.c1, HX.out.c2, HX.out.c3⟩
    by_cases h1 : (8 : Int) < k
    · have HF := Lib.hid (HNO.out (by omega))
      go_wp2_with fail
      go_ret
      exact ⟨ret_bool HF.out.symm, HB1.out⟩
    by_cases h2 : k ≠ 8 ∧ 0 < m
    · have HF := Lib.hid (HNO.out (fun e => by rcases e.2.1 with e | e; exact h2.1 e; have := h2.2; rw [HM.out, e] at this; exact absurd this (by simp)))
      have e1 : ((k : Int) != 8) = true := bne_iff_ne.2 (by omega)
      have e2 : (0 : Int) < m := by omega
      clear h2
      go_wp2_with fail
      go_ret
      exact ⟨ret_bool HF.out.symm, HB1.out⟩
    have HP2 := Lib.hid (show k = 8 ∨ ks = [] from by
      by_cases e : k = 8
      · exact .inl e
      · right; have : m = 0 := by omega
        rw [HM.out] at this; exact List.eq_nil_of_length_eq_zero this)
    go_cut [19] from 6 to 19 (fun a wx => W1 = wx ∧ a = .bool false)
    case first =>
      by_cases e8 : k = 8
      · subst e8
        go_wp2_with fail
        go_meet
        exact ⟨by first | rfl | trivial, rfl⟩
      · have e1 : ((k : Int) != 8) = true := bne_iff_ne.2 (by omega)
        obtain rfl : m = 0 := by omega
        clear h2
        go_wp2_with fail
        go_meet
        exact ⟨by first | rfl | trivial, rfl⟩
    case rest =>
      obtain ⟨rfl, rfl⟩ := hcut
      clear h2
      by_cases h3 : k < 7 ∧ 0 < n
      · have HF := Lib.hid (HNO.out (fun e => by omega))
        have e1 : (k : Int) < 7 := by omega
        have e2 : (0 : Int) < n := by omega
        clear h3
        go_wp2_with fail
        go_ret
        exact ⟨ret_bool HF.out.symm, HB1.out⟩
      have HP3 := Lib.hid (show 7 ≤ k ∨ n = 0 by omega)
      go_upto_region 3 with fail
      go_cut [28] from 20 to 28 (fun a wx => W1 = wx ∧ a = .bool false)
      case first =>
        by_cases e7 : k < 7
        · have e1 : (k : Int) < 7 := by omega
          obtain rfl : n = 0 := by omega
          clear h3
          go_wp2_with fail
          go_meet
          exact ⟨by first | rfl | trivial, rfl⟩
        · have e1 : ¬ (k : Int) < 7 := by omega
          clear h3
          go_wp2_with fail
          go_meet
          exact ⟨by first | rfl | trivial, rfl⟩
      case rest =>
        obtain ⟨rfl, rfl⟩ := hcut
        clear h3
        go_upto_block 0 with fail
        go_cut [31] from 32 to 55 (fun a wx => W1 = wx ∧ Hid (tx k t))
        case first =>
          clear x2 x3
          rcases (show k = 0 ∨ k = 1 ∨ k = 2 ∨ k = 3 ∨ k = 4 ∨ k = 5 ∨ k = 6 ∨ k = 7 ∨ k = 8 by omega) with rfl | rfl | rfl | rfl | rfl | rfl | rfl | rfl | rfl
          · by_cases ht : t = []
            · have HTX := Lib.hid (show tx 0 t by simp [tx, ht])
              obtain rfl : T = ⟨#[]⟩ := by rw [HTT.out, ht]; rfl
              clear ht
              go_wp2_with fail
              go_meet
              exact ⟨by first | rfl | trivial, HTX⟩
            · have HF := Lib.hid (HNO.out (fun e => by have := e.2.2.2.1; simp [tx] at this; exact ht this))
              have f0 := nonempty HTT.out ht
              have f1 := f0.1
              have f2 := f0.2.1
              have f3 := f0.2.2
              clear ht f0
              go_wp2_with fail
              go_ret
              exact ⟨ret_bool HF.out.symm, HB1.out⟩
          · by_cases ht : t = [116, 114, 117, 101]
            · have HTX := Lib.hid (show tx 1 t by simp [tx, ht])
              obtain rfl : T = ⟨#[116, 114, 117, 101]⟩ := by rw [HTT.out, ht]; rfl
              clear ht
              go_wp2_with fail
              go_meet
              exact ⟨by first | rfl | trivial, HTX⟩
            · by_cases ht2 : t = [102, 97, 108, 115, 101]
              · have HTX := Lib.hid (show tx 1 t by simp [tx, ht2])
                obtain rfl : T = ⟨#[102, 97, 108, 115, 101]⟩ := by rw [HTT.out, ht2]; rfl
                clear ht ht2
                go_wp2_with fail
                go_meet
                exact ⟨by first | rfl | trivial, HTX⟩
              · have HF := Lib.hid (HNO.out (fun e => by have := e.2.2.2.1; simp [tx] at this; rcases this with e | e; exact ht e; exact ht2 e))
                have f1 := unlike HTT.out ht
                have f2 := unlike HTT.out ht2
                have f3 := f1.1
                have f4 := f1.2
                have f5 := f2.1
                have f6 := f2.2
                clear ht ht2 f1 f2
                go_wp2_with fail
                go_ret
                exact ⟨ret_bool HF.out.symm, HB1.out⟩
          · by_cases ht : t = []
            · have HF := Lib.hid (HNO.out (fun e => by have := e.2.2.2.1; simp [tx] at this; exact this ht))
              obtain rfl : T = ⟨#[]⟩ := by rw [HTT.out, ht]; rfl
              clear ht
              go_wp2_with fail
              go_ret
              exact ⟨ret_bool HF.out.symm, HB1.out⟩
            · have HTX := Lib.hid (show tx 2 t by simpa [tx] using ht)
              have f0 := nonempty HTT.out ht
              have f1 := f0.1
              have f2 := f0.2.1
              have f3 := f0.2.2
              clear ht f0
              go_wp2_with fail
              go_meet
              exact ⟨by first | rfl | trivial, HTX⟩
          · have HTX := Lib.hid (show tx 3 t by simp [tx])
            go_wp2_with fail
            go_meet
            exact ⟨by first | rfl | trivial, HTX⟩
          · by_cases ht : t = []
            · have HF := Lib.hid (HNO.out (fun e => by have := e.2.2.2.1; simp [tx] at this; exact this ht))
              obtain rfl : T = ⟨#[]⟩ := by rw [HTT.out, ht]; rfl
              clear ht
              go_wp2_with fail
              go_ret
              exact ⟨ret_bool HF.out.symm, HB1.out⟩
            · have HTX := Lib.hid (show tx 4 t by simpa [tx] using ht)
              have f0 := nonempty HTT.out ht
              have f1 := f0.1
              have f2 := f0.2.1
              have f3 := f0.2.2
              clear ht f0
              go_wp2_with fail
              go_meet
              exact ⟨by first | rfl | trivial, HTX⟩
          · by_cases ht : t = []
            · have HF := Lib.hid (HNO.out (fun e => by have := e.2.2.2.1; simp [tx] at this; exact this ht))
              obtain rfl : T = ⟨#[]⟩ := by rw [HTT.out, ht]; rfl
              clear ht
              go_wp2_with fail
              go_ret
              exact ⟨ret_bool HF.out.symm, HB1.out⟩
            · have HTX := Lib.hid (show tx 5 t by simpa [tx] using ht)
              have f0 := nonempty HTT.out ht
              have f1 := f0.1
              have f2 := f0.2.1
              have f3 := f0.2.2
              clear ht f0
              go_wp2_with fail
              go_meet
              exact ⟨by first | rfl | trivial, HTX⟩
          · by_cases ht : t = []
            · have HF := Lib.hid (HNO.out (fun e => by have := e.2.2.2.1; simp [tx] at this; exact this ht))
              obtain rfl : T = ⟨#[]⟩ := by rw [HTT.out, ht]; rfl
              clear ht
              go_wp2_with fail
              go_ret
              exact ⟨ret_bool HF.out.symm, HB1.out⟩
            · have HTX := Lib.hid (show tx 6 t by simpa [tx] using ht)
              have f0 := nonempty HTT.out ht
              have f1 := f0.1
              have f2 := f0.2.1
              have f3 := f0.2.2
              clear ht f0
              go_wp2_with fail
              go_meet
              exact ⟨by first | rfl | trivial, HTX⟩
          · by_cases ht : t = []
            · have HTX := Lib.hid (show tx 7 t by simp [tx, ht])
              obtain rfl : T = ⟨#[]⟩ := by rw [HTT.out, ht]; rfl
              clear ht
              go_wp2_with fail
              go_meet
              exact ⟨by first | rfl | trivial, HTX⟩
            · have HF := Lib.hid (HNO.out (fun e => by have := e.2.2.2.1; simp [tx] at this; exact ht this))
              have f0 := nonempty HTT.out ht
              have f1 := f0.1
              have f2 := f0.2.1
              have f3 := f0.2.2
              clear ht f0
              go_wp2_with fail
              go_ret
              exact ⟨ret_bool HF.out.symm, HB1.out⟩
          · by_cases ht : t = []
            · have HTX := Lib.hid (show tx 8 t by simp [tx, ht])
              obtain rfl : T = ⟨#[]⟩ := by rw [HTT.out, ht]; rfl
              clear ht
              go_wp2_with fail
              go_meet
              exact ⟨by first | rfl | trivial, HTX⟩
            · have HF := Lib.hid (HNO.out (fun e => by have := e.2.2.2.1; simp [tx] at this; exact ht this))
              have f0 := nonempty HTT.out ht
              have f1 := f0.1
              have f2 := f0.2.1
              have f3 := f0.2.2
              clear ht f0
              go_wp2_with fail
              go_ret
              exact ⟨ret_bool HF.out.symm, HB1.out⟩
        case rest =>
          obtain ⟨rfl, HTX⟩ := hcut
          go_upto_region 20 with fail
          by_cases h4 : k = 8 ∧ m ≠ n
          · obtain ⟨rfl, h4⟩ := h4
            have HF := Lib.hid (HNO.out (fun e => h4 (by rw [HM.out]; exact e.2.2.2.2.1 rfl)))
            have e1 : ((m : Int) != (n : Int)) = true := bne_iff_ne.2 (by omega)
            go_wp2_with fail
            go_ret
            exact ⟨ret_bool HF.out.symm, HB1.out⟩
          have HP4 := Lib.hid (show k = 8 → ks.length = n from fun e => by rw [← HM.out]; omega)
          go_cut [67] from 56 to 67 (fun a wx => W1 = wx ∧ a = .bool false)
          case first =>
            by_cases e8 : k = 8
            · obtain rfl : m = n := by omega
              subst e8
              clear h4
              go_wp2_with fail
              go_meet
              exact ⟨by first | rfl | trivial, rfl⟩
            · have e1 : ((k : Int) == 8) = false := beq_eq_false_iff_ne.2 (by omega)
              clear h4
              go_wp2_with fail
              go_meet
              exact ⟨by first | rfl | trivial, rfl⟩
          case rest =>
            obtain ⟨rfl, rfl⟩ := hcut
            have HPH := Lib.hid (show ks.Nodup → R = plL l from fun hnd => HYES.out (by
              unfold plH
              rw [← HN.out]
              exact decide_eq_true ⟨by omega, HP2.out, HP3.out, HTX.out, HP4.out, hnd⟩))
            have HDUP := Lib.hid (fun (hnd : ¬ ks.Nodup) => HNO.out (fun e => hnd e.2.2.2.2.2))
            clear h1 h4 x0 x1 x2 HP2 HP3 HP4 HTX HNO HYES
            go_upto_block 1 with fail
            go_cut [3, 4] from 68 to 90 (fun a b wx => Hid (Below W1.heap.size W1 wx) ∧ Hid (ks.Nodup))
            case first =>
              go_wp2_with fail
              go_loopw [3, 4] (fun a b wx => Hid (Below W1.heap.size W1 wx) ∧ ∃ i : Nat, i ≤ m ∧ a = .int .i64 i ∧ Hid ((ks.take i).Nodup)) (fun a _ _ => m - (intOf a).toNat)
              case atStart => exact ⟨Lib.hid (Below.refl _ _), 0, Nat.zero_le _, rfl, Lib.hid (by simp)⟩
              case round =>
                obtain ⟨HBO, i, hi, rfl, HQ⟩ := hrel
                have y3 := (HX.out.on HBO.out).c3
                clear x3
                by_cases hlt : i < m
                · obtain ⟨y, hy⟩ := get_lt (l := ks) (i := i) (by rw [← HM.out]; exact hlt)
                  obtain ⟨g, o, rfl, hg, hf⟩ := HK.out (by rw [← HM.out]; omega)
                  have HKF := Lib.hid (fun (V : World) (hb : Below W1.heap.size W1 V) i t (hi : ks[i]? = some t) => cell_old hb hg (hf i t hi))
                  have HY := Lib.hid hy
                  clear hf hy
                  go_wp2_with fail
                  go_loopw [4] (fun a wx => Hid (Below W1.heap.size W1 wx) ∧ ∃ j : Nat, j ≤ i ∧ a = .int .i64 j ∧ Hid (∀ p, p < j → ks[p]? ≠ some y)) (fun a _ => i - (intOf a).toNat)
                  case atStart => exact ⟨HBO, 0, Nat.zero_le _, rfl, Lib.hid (fun p hp => absurd hp (by omega))⟩
                  case round =>
                    obtain ⟨HBI, j, hj, rfl, HP⟩ := hrel
                    clear y3
                    have z3 := (HX.out.on HBI.out).c3
                    by_cases hji : j < i
                    · obtain ⟨z, hz⟩ := get_lt (l := ks) (i := j) (by rw [← HM.out]; omega)
                      have c5 := HKF.out wr HBI.out i y HY.out
                      have c6 := HKF.out wr HBI.out j z hz
                      obtain ⟨S, hS⟩ : ∃ S, S = txt y := ⟨_, rfl⟩
                      obtain ⟨U, hU⟩ : ∃ U, U = txt z := ⟨_, rfl⟩
                      rw [← hS] at c5
                      rw [← hU] at c6
                      have he := tl_eq hU hS
                      have hjm : j < m := by omega
                      by_cases hzy : z = y
                      · have e1 : U.toList = S.toList := he.2 hzy
                        have HF := Lib.hid (HDUP.out (fun hnd => by
                          have h1 := (List.getElem?_eq_some_iff.1 hz)
                          have h2 := (List.getElem?_eq_some_iff.1 HY.out)
                          exact List.pairwise_iff_getElem.1 hnd j i h1.1 h2.1 hji (by rw [h1.2, h2.2, hzy])))
                        have HBF := Lib.hid (below_tr HB1.out HBI.out)
                        clear he hzy hS hU hz
                        go_wp2_with fail
                        go_region
                        go_wp2_with fail
                        go_ret
                        exact ⟨ret_bool HF.out.symm, HBF.out.drew⟩
                      · have e1 : (U.toList == S.toList) = false := beq_eq_false_iff_ne.2 fun e => hzy (he.1 e)
                        have HE := Lib.hid (show ∀ p, p < j + 1 → ks[p]? ≠ some y from fun p hp => by
                          rcases Nat.lt_or_ge p j with h1 | h1
                          · exact HP.out p h1
                          · obtain rfl : p = j := by omega
                            rw [hz]; intro e; exact hzy (Option.some.inj e))
                        clear he hzy hS hU hz
                        go_wp2_with fail
                        go_region
                        go_wp2_with fail
                        go_roundw
                        case rel => exact ⟨Lib.hid HBI.out.drew, j + 1, by omega, by go_num, HE⟩
                        case measure => simp [intOf]; omega
                    · obtain rfl : j = i := by omega
                      have HE := Lib.hid (show (ks.take (j + 1)).Nodup from by
                        have h2 := (List.getElem?_eq_some_iff.1 HY.out)
                        rw [List.take_add_one, HY.out]
                        show (ks.take j ++ [y]).Nodup
                        rw [List.nodup_append]
                        refine ⟨HQ.out, by simp, fun a ha b hb => ?_⟩
                        obtain rfl : b = y := by simpa using hb
                        obtain ⟨p, hp, hpe⟩ := List.getElem_of_mem ha
                        intro e
                        rw [List.length_take] at hp
                        exact HP.out p (by omega) (by rw [List.getElem?_eq_getElem (by omega), ← e, ← hpe]; simp))
                      go_wp2_with fail
                      go_roundw
                      case rel => exact ⟨HBI, j + 1, by omega, by go_num, HE⟩
                      case measure => simp [intOf]; omega
                · have HE := Lib.hid (show ks.Nodup from by have e := HQ.out; rw [List.take_of_length_le (by rw [← HM.out]; omega)] at e; exact e)
                  go_wp2_with fail
                  go_meet
                  exact ⟨HBO, HE⟩
            case rest =>
              obtain ⟨HBC, HND⟩ := hcut
              have HR := Lib.hid (HPH.out HND.out)
              clear x3 HPH HDUP HND
              go_wp2_with fail
              go_loopw [5] (fun a wx => Hid (Below W1.heap.size W1 wx) ∧ ∃ i : Nat, i ≤ n ∧ a = .int .i64 i ∧ Hid (plL (l.drop i) = plL l)) (fun a _ => n - (intOf a).toNat)
              case atStart => exact ⟨HBC, 0, Nat.zero_le _, rfl, Lib.hid (by rw [List.drop_zero])⟩
              case round =>
                obtain ⟨HBR, i, hi, rfl, HQ⟩ := hrel
                have x2 := (HX.out.on HBR.out).c2
                by_cases hlt : i < n
                · obtain ⟨y, hy⟩ := get_lt (l := l) (i := i) (by rw [← HN.out]; exact hlt)
                  obtain ⟨g, o, rfl, hg, hf⟩ := HV.out (by rw [← HN.out]; omega)
                  obtain ⟨v0, v1, v2, v3, d0, d1, d2, d3, hvm⟩ := hf i y hy
                  have c0 := cell_old HBR.out hg d0
                  have c1 := cell_old HBR.out hg d1
                  have c2 := cell_old HBR.out hg d2
                  have c3 := cell_old HBR.out hg d3
                  have CI := Lib.hid (IH.out i y hy wr _ (hvm.on HBR.out))
                  have e1 := plL_drop hy
                  cases hp : pl y with
                  | true =>
                    rw [hp] at CI
                    have HE := Lib.hid (show plL (l.drop (i + 1)) = plL l from by rw [← HQ.out, e1, hp]; rfl)
                    clear e1 d0 d1 d2 d3 hvm hf hp hy
                    go_wp2_with fail
                    refine CI.out.mono ?_
                    rintro e w2 ⟨rfl, hb2⟩
                    have HB2 := Lib.hid (below_tr HBR.out hb2)
                    clear hb2 c0 c1 c2 c3
                    go_wp2_with fail
                    go_roundw
                    case rel => exact ⟨HB2, i + 1, by omega, by go_num, HE⟩
                    case measure => simp [intOf]; omega
                  | false =>
                    rw [hp] at CI
                    have HE := Lib.hid (show R = false from by rw [HR.out, ← HQ.out, e1, hp]; rfl)
                    clear e1 d0 d1 d2 d3 hvm hf hp hy
                    go_wp2_with fail
                    refine CI.out.mono ?_
                    rintro e w2 ⟨rfl, hb2⟩
                    have HB2 := Lib.hid (below_tr HB1.out (below_tr HBR.out hb2))
                    clear hb2 c0 c1 c2 c3
                    go_wp2_with fail
                    go_ret
                    exact ⟨ret_bool HE.out.symm, HB2.out⟩
                · have HE := Lib.hid (show R = true from by rw [HR.out, ← HQ.out, plL_end (by rw [← HN.out]; omega)])
                  have HBF := Lib.hid (below_tr HB1.out HBR.out)
                  go_wp2_with fail
                  go_ret
                  exact ⟨ret_bool HE.out.symm, HBF.out⟩
end Va
end Go.Proofs.YtnnlgodgaolkkaaGreatDoor
/- The document's: may a value be; are two the same; how deep, how big. -/
namespace Go.Proofs.YtnnlgodgaolkkaaGreatDoor
open Go.RowKit
namespace Va

set_option maxHeartbeats 4000000 in
set_option maxRecDepth 100000 in
theorem rmay_any {x : V} {v : Value} (w : World) (hx : wt x ≤ 1000000000000) (hv : Vm w v x) :
    Calls Tryz.prog 9 #[v] w fun e w' => e = .returned (.bool (may x)) ∧ Below w.heap.size w w' := by
  have CD := Lib.hid (fun (w' : World) (hb : Below w.heap.size w w') => rdeep_any 1000000000000 x hx (Nat.le_refl _) w' v (hv.on hb))
  have CP := Lib.hid (fun (w' : World) (hb : Below w.heap.size w w') => plain_any 1000000000000 x hx (Nat.le_refl _) w' v (hv.on hb))
  obtain ⟨d5, hd5⟩ : ∃ d5, d5 = dp x := ⟨_, rfl⟩
  obtain ⟨p, hp⟩ : ∃ p, p = pl x := ⟨_, rfl⟩
  obtain ⟨R, hR⟩ : ∃ R, R = may x := ⟨_, rfl⟩
  have HR := Lib.hid (show R = (decide (d5 ≤ 256) && p) by rw [hR, may, hd5, hp])
  rw [← hd5] at CD
  rw [← hp] at CP
  rw [← hR]
  have h6 : d5 ≤ 1000000000000 := by rw [hd5]; have := dp_le x; omega
  obtain ⟨k, t, l, ks⟩ := x
  obtain ⟨A, B, c, d, rfl, hk, hl, hc, hA, hd, hd2, hB, hK, hV⟩ := hv.inv
  obtain ⟨T, hT⟩ : ∃ T, T = txt t := ⟨_, rfl⟩
  rw [← hT] at CD CP ⊢
  obtain ⟨W1, hW1⟩ : ∃ W, W = w.alloc (vO (.int .u8 k) (.string T) (.slice A l.length c) (.slice B ks.length d)) := ⟨_, rfl⟩
  have HX := Lib.hid (show Bx W1 w.heap.size (.int .u8 k) (.string T) (.slice A l.length c) (.slice B ks.length d) from by rw [hW1]; exact Bx.new ..)
  have HB1 := Lib.hid (show Below w.heap.size w W1 from by rw [hW1]; exact below_new ..)
  have HW1 := Lib.hid hW1
  clear hV hK hv hT hx hd5 hp hR hW1
  go_enter Tryz.func9, Tryz.ntmps9
  go_upto_region 1 with fail
  rw [← HW1.out]
  obtain ⟨h, hh⟩ : ∃ h, h = w.heap.size := ⟨_, rfl⟩
  rw [← hh] at HX ⊢
  clear HW1 hh
  obtain ⟨x0, x1, x2, x3⟩ : W1.cell? ⟨h, 0, none⟩ = some (.int .u8 k) ∧ W1.cell? ⟨h, 1, none⟩ = some (.string T) ∧ W1.cell? ⟨h, 2, none⟩ = some (.slice A l.length c) ∧ W1.cell? ⟨h, 3, none⟩ = some (.slice B ks.length d) := ⟨HX.out.c0, HX.out.c1, HX.out.c2, HX.out.c3⟩
  by_cases h5 : d5 ≤ 256
  · have e5 : (d5 : Int) ≤ 256 := by omega
    have HE := Lib.hid (show R = p by rw [HR.out, decide_eq_true h5, Bool.true_and])
    go_wp2_with fail
    refine (CD.out _ HB1.out).mono ?_
    rintro e w2 ⟨rfl, hb⟩
    have X := HX.out.on hb
    have HB2 := Lib.hid (below_tr HB1.out hb)
    have y0 := X.c0
    have y1 := X.c1
    have y2 := X.c2
    have y3 := X.c3
    clear X hb x0 x1 x2 x3 h5
    go_wp2_with fail
    refine (CP.out _ HB2.out).mono ?_
    rintro e w3 ⟨rfl, hb⟩
    have HB3 := Lib.hid (below_tr HB2.out hb)
    clear hb
    go_wp2_with fail
    go_ret
    exact ⟨ret_bool HE.out.symm, HB3.out⟩
  · have e5 : ¬ (d5 : Int) ≤ 256 := by omega
    have HE := Lib.hid (show R = false by rw [HR.out, decide_eq_false h5]; rfl)
    go_wp2_with fail
    refine (CD.out _ HB1.out).mono ?_
    rintro e w2 ⟨rfl, hb⟩
    have HB2 := Lib.hid (below_tr HB1.out hb)
    clear hb h5
    go_wp2_with fail
    go_ret
    exact ⟨ret_bool HE.out.symm, HB2.out⟩
end Va
end Go.Proofs.YtnnlgodgaolkkaaGreatDoor
/- The document's: are two values the same; how deep, how big. -/
namespace Go.Proofs.YtnnlgodgaolkkaaGreatDoor
open Go.RowKit
namespace Va

mutual
def sz : V → Nat
  | .mk _ _ l _ => 1 + szL l
def szL : List V → Nat
  | [] => 0
  | x :: r => sz x + szL r
end
mutual
theorem sz_le : ∀ x : V, sz x ≤ wt x
  | .mk k t l ks => by have := szL_le l; rw [sz, wt]; omega
theorem szL_le : ∀ l : List V, szL l ≤ wtL l
  | [] => Nat.le_refl _
  | x :: r => by have := sz_le x; have := szL_le r; rw [szL, wtL]; omega
end
theorem szL_drop {l : List V} {i : Nat} {x : V} (h : l[i]? = some x) : szL (l.drop i) = sz x + szL (l.drop (i + 1)) := by
  have hl := (List.getElem?_eq_some_iff.1 h).1
  have e : l[i] = x := (List.getElem?_eq_some_iff.1 h).2
  rw [List.drop_eq_getElem_cons hl, szL, e]
theorem szL_end {l : List V} {i : Nat} (h : l.length ≤ i) : szL (l.drop i) = 0 := by rw [List.drop_eq_nil_of_le h]; rfl
set_option maxHeartbeats 4000000 in
set_option maxRecDepth 100000 in
theorem rSame_any {x y : V} {v u : Value} (w : World) (hx : wt x ≤ 1000000000000) (hy : wt y ≤ 1000000000000) (hv : Vm w v x) (hu : Vm w u y) :
    Calls Tryz.prog 11 #[v, u] w fun e w' => e = .returned (.bool (may x && may y && sm x y)) ∧ Below w.heap.size w w' := by
  have CX := Lib.hid (fun (w' : World) (hb : Below w.heap.size w w') => rmay_any w' hx (hv.on hb))
  have CY := Lib.hid (fun (w' : World) (hb : Below w.heap.size w w') => rmay_any w' hy (hu.on hb))
  have CS := Lib.hid (fun (h1 : may x = true) (h2 : may y = true) (w' : World) (hb : Below w.heap.size w w') => rsame_any 1000000000000 x y hx (Nat.le_refl _) hy h1 h2 w' v u (hv.on hb) (hu.on hb))
  obtain ⟨a, ha⟩ : ∃ a, a = may x := ⟨_, rfl⟩
  obtain ⟨b, hb⟩ : ∃ b, b = may y := ⟨_, rfl⟩
  obtain ⟨s, hs⟩ : ∃ s, s = sm x y := ⟨_, rfl⟩
  rw [← ha, ← hb, ← hs] at CS
  rw [← ha] at CX
  rw [← hb] at CY
  rw [← ha, ← hb, ← hs]
  clear ha hb hs hx hy
  obtain ⟨k, t, l, ks⟩ := x
  obtain ⟨A, B, c, d, rfl, hk, hl, hc, hA, hd, hd2, hB, hK, hV⟩ := hv.inv
  obtain ⟨k', t', l', ks'⟩ := y
  obtain ⟨A', B', c', d', rfl, hk', hl', hc', hA', hd', hd2', hB', hK', hV'⟩ := hu.inv
  obtain ⟨T, hT⟩ : ∃ T, T = txt t := ⟨_, rfl⟩
  obtain ⟨T', hT'⟩ : ∃ T, T = txt t' := ⟨_, rfl⟩
  obtain ⟨n, hn⟩ : ∃ n, n = l.length := ⟨_, rfl⟩
  obtain ⟨n', hn'⟩ : ∃ n, n = l'.length := ⟨_, rfl⟩
  obtain ⟨m, hm⟩ : ∃ n, n = ks.length := ⟨_, rfl⟩
  obtain ⟨m', hm'⟩ : ∃ n, n = ks'.length := ⟨_, rfl⟩
  rw [← hT, ← hn, ← hm] at CX CS ⊢
  rw [← hT', ← hn', ← hm'] at CY CS ⊢
  obtain ⟨W1, hW1⟩ : ∃ W, W = w.alloc (vO (.int .u8 k) (.string T) (.slice A n c) (.slice B m d)) := ⟨_, rfl⟩
  obtain ⟨W2, hW2⟩ : ∃ W, W = W1.alloc (vO (.int .u8 k') (.string T') (.slice A' n' c') (.slice B' m' d')) := ⟨_, rfl⟩
  have hb1 : Below w.heap.size w W1 := by rw [hW1]; exact below_new ..
  have hb2 : Below W1.heap.size W1 W2 := by rw [hW2]; exact below_new ..
  have HX := Lib.hid (show Bx W2 w.heap.size (.int .u8 k) (.string T) (.slice A n c) (.slice B m d) from (show Bx W1 w.heap.size (.int .u8 k) (.string T) (.slice A n c) (.slice B m d) from by rw [hW1]; exact Bx.new ..).on hb2)
  have HY := Lib.hid (show Bx W2 W1.heap.size (.int .u8 k') (.string T') (.slice A' n' c') (.slice B' m' d') from by rw [hW2]; exact Bx.new ..)
  have HB2 := Lib.hid (below_tr hb1 hb2)
  have HSZ := Lib.hid (show w.heap.size + 1 = W1.heap.size by rw [hW1]; show _ = (w.heap.push _).size; rw [Array.size_push])
  have HW1 := Lib.hid hW1
  have HW2 := Lib.hid hW2
  clear hW1 hW2 hb1 hb2 hn hn' hm hm' hT hT' hK hV hK' hV' hv hu hl hl' hd hd' hc hc' hd2 hd2' hA hA' hB hB'
  go_enter Tryz.func11, Tryz.ntmps11
  go_upto_region 1 with fail
  rw [← HW1.out, ← HW2.out]
  obtain ⟨h2, hh2⟩ : ∃ h, h = w.heap.size + 1 := ⟨_, rfl⟩
  rw [← HSZ.out, ← hh2] at HY
  rw [← hh2]
  obtain ⟨h1, hh1⟩ : ∃ h, h = w.heap.size := ⟨_, rfl⟩
  rw [← hh1] at HX ⊢
  clear HW1 HW2 HSZ hh1 hh2
  obtain ⟨x0, x1, x2, x3⟩ : W2.cell? ⟨h1, 0, none⟩ = some (.int .u8 k) ∧ W2.cell? ⟨h1, 1, none⟩ = some (.string T) ∧ W2.cell? ⟨h1, 2, none⟩ = some (.slice A n c) ∧ W2.cell? ⟨h1, 3, none⟩ = some (.slice B m d) := ⟨HX.out.c0, HX.out.c1, HX.out.c2, HX.out.c3⟩
  go_wp2_with fail
  refine (CX.out _ HB2.out).mono ?_
  rintro e w3 ⟨rfl, hb⟩
  have X := HX.out.on hb
  have Y := HY.out.on hb
  have HB3 := Lib.hid (below_tr HB2.out hb)
  clear x0 x1 x2 x3 hb
  cases a with
  | false =>
    go_wp2_with fail
    go_ret
    exact ⟨rfl, HB3.out⟩
  | true =>
    have y0 := Y.c0
    have y1 := Y.c1
    have y2 := Y.c2
    have y3 := Y.c3
    have HX3 := Lib.hid X
    have HY3 := Lib.hid Y
    clear X Y HX HY
    go_wp2_with fail
    refine (CY.out _ HB3.out).mono ?_
    rintro e w4 ⟨rfl, hb⟩
    have X := HX3.out.on hb
    have Y := HY3.out.on hb
    have HB4 := Lib.hid (below_tr HB3.out hb)
    clear y0 y1 y2 y3 hb
    cases b with
    | false =>
      go_wp2_with fail
      go_ret
      exact ⟨rfl, HB4.out⟩
    | true =>
      have y0 := Y.c0
      have y1 := Y.c1
      have y2 := Y.c2
      have y3 := Y.c3
      have x0 := X.c0
      have x1 := X.c1
      have x2 := X.c2
      have x3 := X.c3
      clear X Y HX3 HY3
      go_wp2_with fail
      refine (CS.out (by first | rfl | trivial) (by first | rfl | trivial) _ HB4.out).mono ?_
      rintro e w5 ⟨rfl, hb⟩
      have HB5 := Lib.hid (below_tr HB4.out hb)
      clear hb
      go_wp2_with fail
      go_ret
      exact ⟨rfl, HB5.out⟩
set_option maxHeartbeats 4000000 in
set_option maxRecDepth 100000 in
theorem rSize_any : ∀ (N : Nat) (x : V), wt x ≤ N → N ≤ 1000000000000 → ∀ (w : World) (v : Value), Vm w v x →
    Calls Tryz.prog 15 #[v] w fun e w' => e = .returned (.int .i64 ((if may x = true then sz x else 0 : Nat) : Int)) ∧ Below w.heap.size w w'
  | 0, x, hx, _, _, _, _ => by have := wt_pos x; omega
  | N + 1, .mk k t l ks, hx, hN, w, v, hv => by
    have CX := Lib.hid (fun (w' : World) (hb : Below w.heap.size w w') => rmay_any w' (by omega) (hv.on hb))
    have HS := Lib.hid (fun (h : may (.mk k t l ks) = true) (i : Nat) (y : V) (hi : l[i]? = some y) => may_sub h hi)
    obtain ⟨p, hp⟩ : ∃ p, p = may (.mk k t l ks) := ⟨_, rfl⟩
    rw [← hp] at CX HS
    rw [← hp]
    obtain ⟨A, B, c, d, rfl, hk, hl, hc, hA, hd, hd2, hB, hK, hV⟩ := hv.inv
    have IH := Lib.hid (fun (i : Nat) (x : V) (hi : l[i]? = some x) (w : World) (v : Value) (h : Vm w v x) => rSize_any N x (by have := wt_sub (k := k) (t := t) (ks := ks) hi; omega) (by omega) w v h)
    obtain ⟨T, hT⟩ : ∃ T, T = txt t := ⟨_, rfl⟩
    obtain ⟨n, HN⟩ : ∃ n, Hid (n = l.length) := ⟨_, Lib.hid rfl⟩
    obtain ⟨m, HM⟩ : ∃ m, Hid (m = ks.length) := ⟨_, Lib.hid rfl⟩
    rw [← HN.out, ← HM.out, ← hT] at CX
    rw [← HN.out, ← HM.out, ← hT]
    rw [← HN.out] at hl
    rw [← HM.out] at hd
    have hn5 : n ≤ 1000000000000 := by rw [HN.out]; have := wtL_len l; rw [wt] at hx; omega
    obtain ⟨C2, hC2⟩ : ∃ C, C = sz (.mk k t l ks) := ⟨_, rfl⟩
    have HC5 := Lib.hid (show C2 ≤ 1000000000000 by rw [hC2]; have := sz_le (.mk k t l ks); omega)
    have HC2 := Lib.hid (show C2 = 1 + szL l by rw [hC2, sz])
    rw [← hC2]
    obtain ⟨W1, hW1⟩ : ∃ W, W = w.alloc (vO (.int .u8 k) (.string T) (.slice A n c) (.slice B m d)) := ⟨_, rfl⟩
    have HX := Lib.hid (show Bx W1 w.heap.size (.int .u8 k) (.string T) (.slice A n c) (.slice B m d) from by rw [hW1]; exact Bx.new ..)
    have HB1 := Lib.hid (show Below w.heap.size w W1 from by rw [hW1]; exact below_new ..)
    have HV := Lib.hid (hV.on HB1.out)
    have HW1 := Lib.hid hW1
    clear hT hK hV hx hN hv hp hC2 hW1
    go_enter Tryz.func15, Tryz.ntmps15
    go_upto_region 1 with fail
    rw [← HW1.out]
    obtain ⟨h, hh⟩ : ∃ h, h = w.heap.size := ⟨_, rfl⟩
    rw [← hh] at HX ⊢
    clear HW1 hh
    obtain ⟨x0, x1, x2, x3⟩ : W1.cell? ⟨h, 0, none⟩ = some (.int .u8 k) ∧ W1.cell? ⟨h, 1, none⟩ = some (.string T) ∧ W1.cell? ⟨h, 2, none⟩ = some (.slice A n c) ∧ W1.cell? ⟨h, 3, none⟩ = some (.slice B m d) := ⟨HX.out.c0, HX.out.c1, HX.out.c2, HX.out.c3⟩
    go_wp2_with fail
    refine (CX.out _ HB1.out).mono ?_
    rintro e w2 ⟨rfl, hb⟩
    have HB2 := Lib.hid (below_tr HB1.out hb)
    have HBX := Lib.hid hb
    clear x0 x1 x2 x3 hb CX
    cases p with
    | false =>
      go_wp2_with fail
      go_ret
      exact ⟨rfl, HB2.out⟩
    | true =>
      go_wp2_with fail
      go_loopw [3, 4] (fun a b wx => Hid (Below W1.heap.size W1 wx) ∧ ∃ q i : Nat, i ≤ n ∧ q ≤ 1000000000000 ∧ a = .int .i64 q ∧ b = .int .i64 i ∧ Hid (q + szL (l.drop i) = C2)) (fun _ b _ => n - (intOf b).toNat)
      case atStart => exact ⟨HBX, 1, 0, Nat.zero_le _, by omega, rfl, rfl, Lib.hid (by rw [List.drop_zero, HC2.out])⟩
      case round =>
        obtain ⟨HBR, q, i, hi, hq, rfl, rfl, HQ⟩ := hrel
        have X := HX.out.on HBR.out
        have x2 := X.c2
        clear X
        by_cases hlt : i < n
        · obtain ⟨y, hy⟩ := get_lt (l := l) (i := i) (by rw [← HN.out]; exact hlt)
          obtain ⟨g, o, rfl, hg, hf⟩ := HV.out (by rw [← HN.out]; omega)
          obtain ⟨v0, v1, v2, v3, d0, d1, d2, d3, hvm⟩ := hf i y hy
          have c0 := cell_old HBR.out hg d0
          have c1 := cell_old HBR.out hg d1
          have c2 := cell_old HBR.out hg d2
          have c3 := cell_old HBR.out hg d3
          have CI := IH.out i y hy wr _ (hvm.on HBR.out)
          rw [if_pos (HS.out (by first | rfl | trivial) i y hy)] at CI
          obtain ⟨r, hr⟩ : ∃ r, r = sz y := ⟨_, rfl⟩
          rw [← hr] at CI
          have HCI := Lib.hid CI
          have e1 := szL_drop hy
          have HE := Lib.hid (show q + r + szL (l.drop (i + 1)) = C2 from by have hq1 := HQ.out; rw [e1, ← hr] at hq1; omega)
          have hqr : q + r ≤ 1000000000000 := by have := HE.out; have := HC5.out; omega
          clear e1 d0 d1 d2 d3 hvm hf hr CI
          go_wp2_with fail
          refine HCI.out.mono ?_
          rintro e w3 ⟨rfl, hb2⟩
          have HB3 := Lib.hid (below_tr HBR.out hb2)
          clear hb2 c0 c1 c2 c3
          go_wp2_with fail
          go_roundw
          case rel => exact ⟨HB3, q + r, i + 1, by omega, hqr, by go_num, by go_num, HE⟩
          case measure => simp [intOf]; omega
        · have HE := Lib.hid (show q = C2 from by have e := HQ.out; rw [szL_end (by rw [← HN.out]; omega)] at e; omega)
          have HBF := Lib.hid (below_tr HB1.out HBR.out)
          go_wp2_with fail
          go_ret
          exact ⟨ret_int (by rw [HE.out]), HBF.out⟩
set_option maxHeartbeats 4000000 in
set_option maxRecDepth 100000 in
theorem rDeep_any {x : V} {v : Value} (w : World) (hx : wt x ≤ 1000000000000) (hv : Vm w v x) :
    Calls Tryz.prog 17 #[v] w fun e w' => e = .returned (.int .i64 ((if may x = true then dp x else 0 : Nat) : Int)) ∧ Below w.heap.size w w' := by
  have CX := Lib.hid (fun (w' : World) (hb : Below w.heap.size w w') => rmay_any w' hx (hv.on hb))
  have CD := Lib.hid (fun (w' : World) (hb : Below w.heap.size w w') => rdeep_any 1000000000000 x hx (Nat.le_refl _) w' v (hv.on hb))
  obtain ⟨p, hp⟩ : ∃ p, p = may x := ⟨_, rfl⟩
  obtain ⟨q, hq⟩ : ∃ q, q = dp x := ⟨_, rfl⟩
  rw [← hp] at CX
  rw [← hq] at CD
  rw [← hp, ← hq]
  clear hp hq hx
  obtain ⟨k, t, l, ks⟩ := x
  obtain ⟨A, B, c, d, rfl, hk, hl, hc, hA, hd, hd2, hB, hK, hV⟩ := hv.inv
  obtain ⟨T, hT⟩ : ∃ T, T = txt t := ⟨_, rfl⟩
  obtain ⟨n, hn⟩ : ∃ n, n = l.length := ⟨_, rfl⟩
  obtain ⟨m, hm⟩ : ∃ n, n = ks.length := ⟨_, rfl⟩
  rw [← hT, ← hn, ← hm] at CX CD ⊢
  obtain ⟨W1, hW1⟩ : ∃ W, W = w.alloc (vO (.int .u8 k) (.string T) (.slice A n c) (.slice B m d)) := ⟨_, rfl⟩
  have HX := Lib.hid (show Bx W1 w.heap.size (.int .u8 k) (.string T) (.slice A n c) (.slice B m d) from by rw [hW1]; exact Bx.new ..)
  have HB1 := Lib.hid (show Below w.heap.size w W1 from by rw [hW1]; exact below_new ..)
  have HW1 := Lib.hid hW1
  clear hT hK hV hv hn hm hW1 hl hd
  go_enter Tryz.func17, Tryz.ntmps17
  go_upto_region 1 with fail
  rw [← HW1.out]
  obtain ⟨h, hh⟩ : ∃ h, h = w.heap.size := ⟨_, rfl⟩
  rw [← hh] at HX ⊢
  clear HW1 hh
  obtain ⟨x0, x1, x2, x3⟩ : W1.cell? ⟨h, 0, none⟩ = some (.int .u8 k) ∧ W1.cell? ⟨h, 1, none⟩ = some (.string T) ∧ W1.cell? ⟨h, 2, none⟩ = some (.slice A n c) ∧ W1.cell? ⟨h, 3, none⟩ = some (.slice B m d) := ⟨HX.out.c0, HX.out.c1, HX.out.c2, HX.out.c3⟩
  go_wp2_with fail
  refine (CX.out _ HB1.out).mono ?_
  rintro e w2 ⟨rfl, hb⟩
  have HB2 := Lib.hid (below_tr HB1.out hb)
  have X := HX.out.on hb
  clear x0 x1 x2 x3 hb CX
  cases p with
  | false =>
    go_wp2_with fail
    go_ret
    exact ⟨rfl, HB2.out⟩
  | true =>
    have y0 := X.c0
    have y1 := X.c1
    have y2 := X.c2
    have y3 := X.c3
    clear X
    go_wp2_with fail
    refine (CD.out _ HB2.out).mono ?_
    rintro e w3 ⟨rfl, hb⟩
    have HB3 := Lib.hid (below_tr HB2.out hb)
    clear hb
    go_wp2_with fail
    go_ret
    exact ⟨rfl, HB3.out⟩
end Va
end Go.Proofs.YtnnlgodgaolkkaaGreatDoor
