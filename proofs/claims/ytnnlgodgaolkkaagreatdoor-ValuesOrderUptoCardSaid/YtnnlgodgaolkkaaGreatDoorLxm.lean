/- What landed of values: a map's keys, sorted and made few: as many as they were just if no two are alike. -/
import Derived.Test.YtnnlgodgaolkkaaGreatDoorLwm
import Derived.Test.YtnnlgodgaolkkaaGreatDoorHi
import Derived.Test.YtnnlgodgaolkkaaGreatDoorLim
import Derived.Deep.RegionHeldLaw
namespace Go.Proofs.YtnnlgodgaolkkaaGreatDoor
open Go.RowKit
namespace Va
set_option maxRecDepth 100000

theorem bs_sorted (ks : List Bs) : (ks.mergeSort fun x y => decide (x ≤ y)).Pairwise fun x y => x ≤ y := by
  have := List.pairwise_mergeSort (le := fun x y : Bs => decide (x ≤ y)) (fun a b c h1 h2 => by
    simp only [decide_eq_true_eq] at *; exact List.le_trans h1 h2) (fun a b => by
    simp only [Bool.or_eq_true, decide_eq_true_eq]; exact List.le_total a b) ks
  exact this.imp fun h => by simpa using h
theorem compact_len {zs : List Bs} : (Lib.compact zs).length = zs.length ↔ ∀ j, j < zs.length → Lib.keeps zs.toArray j = true := by
  unfold Lib.compact Lib.compactUpTo
  rw [List.length_map]
  constructor
  · intro h j hj
    have h1 : (List.range zs.length).filter (Lib.keeps zs.toArray) = List.range zs.length := List.filter_sublist.eq_of_length (by rw [h, List.length_range])
    have := List.filter_eq_self.1 h1 j (List.mem_range.2 hj)
    exact this
  · intro h
    rw [List.filter_eq_self.2 (fun j hj => h j (List.mem_range.1 hj)), List.length_range]
theorem few_iff (ks : List Bs) : (Lib.compact (ks.mergeSort fun x y => decide (x ≤ y))).length = ks.length ↔ ks.Nodup := by
  have hp : (ks.mergeSort fun x y => decide (x ≤ y)).Perm ks := List.mergeSort_perm ..
  have hs := bs_sorted ks
  obtain ⟨zs, hz⟩ : ∃ zs, zs = ks.mergeSort fun x y => decide (x ≤ y) := ⟨_, rfl⟩
  rw [← hz] at hp hs ⊢
  rw [← hp.length_eq, compact_len, ← hp.nodup_iff]
  constructor
  · intro h
    rw [List.Nodup, List.pairwise_iff_getElem]
    intro i j hi hj hij e
    have h1 := List.pairwise_iff_getElem.1 hs
    have hk := h j hj
    have e2 : zs[j - 1] = zs[j] := by
      rcases Nat.lt_or_ge i (j - 1) with h3 | h3
      · have a := h1 i (j - 1) hi (by omega) h3
        have b := h1 (j - 1) j (by omega) hj (by omega)
        rw [← e] at b ⊢
        exact List.le_antisymm b a
      · have : i = j - 1 := by omega
        subst this; exact e
    unfold Lib.keeps at hk
    simp at hk
    rcases hk with hk | hk
    · omega
    · rw [List.getElem?_eq_getElem hj, List.getElem?_eq_getElem (show j - 1 < zs.length by omega), Option.getD_some, Option.getD_some] at hk
      exact hk e2.symm
  · intro h j hj
    unfold Lib.keeps
    simp
    by_cases h0 : j = 0
    · exact .inl h0
    · right
      rw [List.getElem?_eq_getElem hj, List.getElem?_eq_getElem (show j - 1 < zs.length by omega), Option.getD_some, Option.getD_some]
      exact fun e => List.pairwise_iff_getElem.1 h (j - 1) j (by omega) hj (by omega) e.symm
theorem cell_fst9 (w : World) (v : Value) (t : TypeId) : (w.alloc (.cells #[v] t)).cell? ⟨w.heap.size, 0, none⟩ = some v := by
  have e := heap_alloc_new w (.cells #[v] t)
  simp only [World.cell?, e]
  rfl
/-- The library's sorted texts. -/
theorem collect_any {A : Option Addr} {q m cap : Nat} {ks : List Bs} (w : World) (hq0 : q < w.heap.size) (hm : m = ks.length) (hmb : m ≤ 1000000) (hb : 0 < ks.length → ∀ g o, A = some ⟨g, o, none⟩ → g < w.heap.size) (hq : w.cell? ⟨q, 0, none⟩ = some (.slice A m cap)) (hK : Tx w A ks) :
    Calls Tryz.prog 88 #[.func (.func 90) #[] #[.pointer (some ⟨q, 0, none⟩)]] w fun e w' => ∃ v, e = .returned v ∧ w'.ownsRow w.heap.size 9 1 v ks.length (ks.map fun t => .string (txt t)) ∧ Below w.heap.size w w' := by
  have C := Lib.hid ((callsIn_wide (n := 5)).1 (appSeq_in Fence.wide 5 trivial trivial rfl (by omega) q m cap A ks w hq0 hm hmb hb hq hK))
  clear hq hK hb hm hmb hq0
  go_enter Tryz.func88, Tryz.ntmps88
  go_wp2_with fail
  refine C.out.mono ?_
  rintro e w2 ⟨v, rfl, h1, h2⟩
  go_wp2_with fail
  go_ret
  exact ⟨v, rfl, h1, h2⟩
set_option maxHeartbeats 4000000 in
theorem sorted_any {A : Option Addr} {q m cap : Nat} {ks : List Bs} (w : World) (hq0 : q < w.heap.size) (hm : m = ks.length) (hmb : m ≤ 1000000) (hb : 0 < ks.length → ∀ g o, A = some ⟨g, o, none⟩ → g < w.heap.size) (hq : w.cell? ⟨q, 0, none⟩ = some (.slice A m cap)) (hK : Tx w A ks) :
    Calls Tryz.prog 69 #[.func (.func 90) #[] #[.pointer (some ⟨q, 0, none⟩)]] w fun e w' => ∃ v, e = .returned v ∧ w'.ownsRow w.heap.size 9 1 v m ((ks.mergeSort fun x y => decide (x ≤ y)).map Go.Proofs.encStr) ∧ Below w.heap.size w w' := by
  have C := Lib.hid (collect_any w hq0 hm hmb hb hq hK)
  have HM := Lib.hid hm
  rw [← HM.out] at C
  clear hq hK hb hm hq0
  go_enter Tryz.func69, Tryz.ntmps69
  go_wp2_with fail
  refine C.out.mono ?_
  rintro e w2 ⟨v, rfl, h1, h2⟩
  have HB := Lib.hid h2
  rcases h1.2 with ⟨rfl, h0⟩ | ⟨g, c, cur, rfl, hbase, hgb, r1, r2, r3, r4⟩
  · have hk0 : ks = [] := List.eq_nil_of_length_eq_zero (by rw [← HM.out]; exact h0)
    have HR := Lib.hid (show w2.ownsRow w.heap.size 9 1 (.slice none 0 0) m ((ks.mergeSort fun x y => decide (x ≤ y)).map Go.Proofs.encStr) from by rw [hk0, h0, List.mergeSort_nil]; exact World.ownsRow_nil _ _ _ 1)
    have CS := Lib.hid (Tryz.slices_Sort_string_none none 0 w2)
    clear h1 h2 hk0 h0
    go_wp2_with fail
    refine CS.out.mono ?_
    rintro e w3 ⟨rfl, rfl⟩
    go_wp2_with fail
    go_ret
    exact ⟨_, rfl, HR.out, HB.out⟩
  · have hH : Sort.Holds Go.Proofs.encStr w2 g 0 ks.toArray := holds_of_block hgb (by rw [← HM.out]; rw [Nat.mul_one] at r4; exact r4)
    have CS := Lib.hid (Tryz.slices_Sort_string g 0 c ks w2 hH (Array.getElem?_eq_some_iff.1 hgb).1 (by rw [← HM.out]; omega))
    rw [← HM.out] at CS
    have HR := Lib.hid (fun (k : Nat) (os : Array Obj) => show (Sort.grow (Sort.putRow Go.Proofs.encStr (Sort.ahead w2 k) g 0 (ks.mergeSort fun x y => decide (x ≤ y)).toArray) os).ownsRow w.heap.size 9 1 (.slice (some ⟨g, 0, none⟩) m c) m ((ks.mergeSort fun x y => decide (x ≤ y)).map Go.Proofs.encStr) from by
      have := ownsRow_sorted (n := k) (os := os) (ss := ks) (ts := ks.mergeSort fun x y => decide (x ≤ y)) (by simp) hbase hgb (by rw [← HM.out]; exact r1) r2 r3
      rw [← HM.out] at this; exact this)
    have HBB := Lib.hid (fun (k : Nat) (os : Array Obj) => show Below w.heap.size w (Sort.grow (Sort.putRow Go.Proofs.encStr (Sort.ahead w2 k) g 0 (ks.mergeSort fun x y => decide (x ≤ y)).toArray) os) from HB.out.grown (grownBy_sorted _) HB.out.size (fun _ e => by cases e; exact hbase))
    clear h1 h2 hH r1 r2 r3 r4 hgb hbase
    go_wp2_with fail
    refine CS.out.mono ?_
    rintro e w3 ⟨rfl, k, os, rfl⟩
    have HR2 := Lib.hid (HR.out k os)
    have HB2 := Lib.hid (HBB.out k os)
    obtain ⟨w4, hw4⟩ : ∃ w4, w4 = Sort.grow (Sort.putRow Go.Proofs.encStr (Sort.ahead w2 k) g 0 (ks.mergeSort fun x y => decide (x ≤ y)).toArray) os := ⟨_, rfl⟩
    rw [← hw4] at HR2 HB2 ⊢
    clear hw4 HR HBB
    go_wp2_with fail
    go_ret
    exact ⟨_, rfl, HR2.out, HB2.out⟩
set_option maxHeartbeats 8000000 in
theorem mayKeys_any : KeysC := by
  intro k t l ks v w hv hk hw
  obtain ⟨R, hR⟩ : ∃ R, R = decide ((k = 7 → ks = []) ∧ (k = 8 → ks.length = l.length ∧ ks.Nodup)) := ⟨_, rfl⟩
  rw [← hR]
  have HR := Lib.hid hR
  have HNL := Lib.hid (show ks.length ≤ 1000000 by rw [wt] at hw; omega)
  obtain ⟨A, B, c, d, rfl, hk9, hl, hc, hA, hd, hd2, hB, hK, hV⟩ := hv.inv
  have HTX := Lib.hid hK
  have HBK := Lib.hid hB
  obtain ⟨T, hT⟩ : ∃ T, T = txt t := ⟨_, rfl⟩
  obtain ⟨n, HN⟩ : ∃ n, Hid (n = l.length) := ⟨_, Lib.hid rfl⟩
  obtain ⟨m, HM⟩ : ∃ m, Hid (m = ks.length) := ⟨_, Lib.hid rfl⟩
  rw [← HN.out, ← HM.out, ← hT]
  have hm9 : m ≤ 1000000 := by rw [HM.out]; exact HNL.out
  clear hV hK hv hT hR hw hl hc hA hd hd2 hB hk9
  obtain ⟨W1, hW1⟩ : ∃ W, W = w.alloc (vO (.int .u8 k) (.string T) (.slice A n c) (.slice B m d)) := ⟨_, rfl⟩
  have hb1 : Below w.heap.size w W1 := by rw [hW1]; exact below_new ..
  have HX := Lib.hid (show Bx W1 w.heap.size (.int .u8 k) (.string T) (.slice A n c) (.slice B m d) from by rw [hW1]; exact Bx.new ..)
  have HB1 := Lib.hid hb1
  have HW1 := Lib.hid hW1
  clear hb1 hW1
  go_enter Tryz.func48, Tryz.ntmps48
  go_upto_region 1 with fail
  rw [← HW1.out]
  obtain ⟨h, hh⟩ : ∃ h, h = w.heap.size := ⟨_, rfl⟩
  rw [← hh] at HX ⊢
  have HHH := Lib.hid hh
  clear HW1 hh
  have x0 := HX.out.c0
  have x2 := HX.out.c2
  have x3 := HX.out.c3
  by_cases h7 : k = 7
  · subst h7
    have HR7 := Lib.hid (show R = decide (m = 0) from by rw [HR.out]; exact decide_eq_decide.2 ⟨fun e => by rw [HM.out, e.1 rfl]; rfl, fun e => ⟨fun _ => List.eq_nil_of_length_eq_zero (by rw [← HM.out]; exact e), fun e => by omega⟩⟩)
    clear HR hk
    by_cases h0 : m = 0
    · subst h0
      go_wp2_with fail
      go_ret
      exact ⟨ret_bool (by rw [HR7.out]; rfl), HB1.out⟩
    · have f0 : ((m : Int) == 0) = false := beq_eq_false_iff_ne.2 (by omega)
      go_wp2_with fail
      go_ret
      exact ⟨ret_bool (by rw [HR7.out]; exact (decide_eq_false h0).symm), HB1.out⟩
  · obtain rfl : k = 8 := by omega
    have HR8 := Lib.hid (show R = decide (m = n ∧ ks.Nodup) from by rw [HR.out]; exact decide_eq_decide.2 ⟨fun e => by rw [HM.out, HN.out]; exact e.2 rfl, fun e => ⟨fun e => by omega, fun _ => by rw [← HM.out, ← HN.out]; exact e⟩⟩)
    clear HR hk h7
    by_cases hmn : m = n
    · subst hmn
      have CV := Lib.hid (fun (X : World) => (callsIn_wide (n := 5)).1 (values_in Fence.wide 5 trivial rfl B m d X))
      have e1 : ((m : Int) != (m : Int)) = false := by simp
      go_wp2_with fail
      refine (CV.out _).mono ?_
      rintro e w2 ⟨rfl, rfl⟩
      have HB2 := Lib.hid (below_tr HB1.out (below_new W1 (.cells #[.slice B m d] 24)))
      have CS := Lib.hid (sorted_any (A := B) (q := W1.heap.size) (m := m) (cap := d) (ks := ks) (W1.alloc (.cells #[.slice B m d] 24)) (by show _ < (W1.heap.push _).size; rw [Array.size_push]; omega) HM.out hm9 (fun h0 g o e => by
        obtain ⟨g', o', e', hg', _⟩ := HTX.out h0
        rw [e'] at e; injection e with e; injection e with e _ _; subst e
        exact Nat.lt_of_lt_of_le hg' HB2.out.size) (cell_fst9 ..) (HTX.out.on HB2.out))
      clear CV x0 x2
      have y3 := cell_old (below_new W1 (.cells #[.slice B m d] 24)) HX.out.lt x3
      clear x3
      go_wp2_with fail
      refine CS.out.mono ?_
      rintro e w3 ⟨v, rfl, h1, h2⟩
      have HB3 := Lib.hid (below_tr HB2.out h2)
      have z3 := cell_old h2 (Nat.lt_of_lt_of_le HX.out.lt (below_new W1 (.cells #[.slice B m d] 24)).size) y3
      have HZ3 := Lib.hid z3
      have HHZ := Lib.hid (show h < w3.heap.size from World.block_lt_of_cell? _ _ z3)
      obtain ⟨zs, HZS⟩ : ∃ zs, Hid (zs = ks.mergeSort fun x y => decide (x ≤ y)) := ⟨_, Lib.hid rfl⟩
      have hzl : zs.length = m := by rw [HZS.out, HM.out]; simp
      have HZL := Lib.hid hzl
      have hFW := few_iff ks
      rw [← HZS.out] at h1 hFW
      obtain ⟨N, HNN⟩ : ∃ N, Hid (N = (Lib.compact zs).length) := ⟨_, Lib.hid rfl⟩
      have HRF := Lib.hid (show R = decide (N = m) from by rw [HR8.out, HNN.out]; exact decide_eq_decide.2 ⟨fun e => by rw [HM.out]; exact hFW.2 e.2, fun e => ⟨by first | rfl | trivial, hFW.1 (by rw [← HM.out]; exact e)⟩⟩)
      rcases h1.2 with ⟨rfl, h0⟩ | ⟨g, c, cur, rfl, hbase, hgb, r1, r2, r3, r4⟩
      · subst h0
        have hz0 : zs = [] := List.eq_nil_of_length_eq_zero hzl
        have HE := Lib.hid (show R = true from by rw [HRF.out, HNN.out, hz0]; exact decide_eq_true rfl)
        have CC := Lib.hid (fun X : World => Tryz.slices_Compact_string_empty none 0 X)
        clear hz0 hzl hFW h1 h2 y3
        go_upto_region 6 with fail
        go_region_held_law (fun X => X.cell? ⟨h, 3, none⟩ = some (.slice B 0 d)) (first | exact z3 | exact HZ3.out)
          (first
            | (go_simp; go_at_call 71; refine (CC.out _).mono ?_; rintro e w4 ⟨rfl, rfl⟩))
        go_wp2_with fail
        go_ret
        exact ⟨ret_bool HE.out.symm, HB3.out.drew⟩
      · have hH : Sort.Holds Go.Proofs.encStr w3 g 0 zs.toArray := holds_of_block hgb (by rw [hzl]; rw [Nat.mul_one] at r4; exact r4)
        have hgh : h ≠ g := by
          have : (W1.alloc (.cells #[.slice B m d] 24)).heap.size = W1.heap.size + 1 := by show (W1.heap.push _).size = _; rw [Array.size_push]
          have := HX.out.lt
          omega
        have CC := Lib.hid (fun (X : World) (hX : Sort.Holds Go.Proofs.encStr X g 0 zs.toArray) => Tryz.slices_Compact_string g 0 c zs X hX (by rw [hzl]; omega) (by rw [hzl]; exact r1))
        rw [hzl, ← HNN.out] at CC
        have HH := Lib.hid hH
        have HGH := Lib.hid hgh
        have HBG := Lib.hid (show w.heap.size ≤ g from Nat.le_trans (by have := HB2.out.size; omega) hbase)
        have HPC := Lib.hid (fun (X : World) (q : Nat) (dd : Array (List UInt8)) (hX : X.cell? ⟨h, 3, none⟩ = some (.slice B m d)) => show (Sort.putRow Go.Proofs.encStr (Sort.ahead X q) g 0 dd).cell? ⟨h, 3, none⟩ = some (.slice B m d) from by rw [Sort.cell?_putRow_other _ _ _ _ _ _ (.inl hgh)]; exact hX)
        have HPB := Lib.hid (fun (X : World) (q : Nat) (dd : Array (List UInt8)) (hX : Below w.heap.size w X) => show Below w.heap.size w (Sort.putRow Go.Proofs.encStr (Sort.ahead X q) g 0 dd) from hX.grown (by have := grownBy_sorted (w := X) (g := g) (n := q) (os := #[]) dd; simpa using this) hX.size (fun _ e => by cases e; exact HBG.out))
        clear hzl hFW h1 h2 y3 hH hgh r1 r2 r3 r4 hgb hbase
        go_upto_region 6 with fail
        go_region_held_law (fun X => X.cell? ⟨h, 3, none⟩ = some (.slice B m d)) (first | exact z3 | exact HZ3.out | assumption)
          (first
            | (go_simp; go_at_call 71; refine (CC.out w3.drew HH.out).mono ?_; rintro e w4 ⟨rfl, q, rfl⟩; have z4 := HPC.out w3.drew q (Lib.compact zs ++ List.replicate (m - N) []).toArray HZ3.out; have HB4 := Lib.hid (HPB.out w3.drew q (Lib.compact zs ++ List.replicate (m - N) []).toArray HB3.out.drew)))
        have HE := Lib.hid (show ((N : Int) == (m : Int)) = R from by rw [HRF.out]; by_cases h : N = m <;> simp [h]; omega)
        go_wp2_with fail
        go_ret
        exact ⟨ret_bool HE.out, HB4.out⟩
    · have HE := Lib.hid (show R = false from by rw [HR8.out]; exact decide_eq_false fun e => hmn e.1)
      have f1 : ((m : Int) != (n : Int)) = true := bne_iff_ne.2 (by omega)
      go_wp2_with fail
      go_ret
      exact ⟨ret_bool HE.out.symm, HB1.out⟩
end Va
end Go.Proofs.YtnnlgodgaolkkaaGreatDoor
