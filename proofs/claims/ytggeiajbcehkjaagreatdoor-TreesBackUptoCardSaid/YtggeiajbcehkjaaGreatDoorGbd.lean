/- What landed of values: a map's keys, sorted and made few: as many as they were just if no two are alike. -/
import Derived.Test.YtggeiajbcehkjaaGreatDoorGbc
import Derived.Test.YtggeiajbcehkjaaGreatDoorGaz
import Derived.Test.YtggeiajbcehkjaaGreatDoorGba
import Derived.Deep.RegionHeldLaw
import Derived.Test.YtggeiajbcehkjaaGreatDoorGal
import Derived.Test.YtggeiajbcehkjaaGreatDoorGaa
import Derived.Test.YtggeiajbcehkjaaGreatDoorGam
import Derived.Test.YtggeiajbcehkjaaGreatDoorGab
import Derived.Test.YtggeiajbcehkjaaGreatDoorGad
import Derived.Deep.RegionLaw
import Derived.Deep.DeepCutAuto
import Derived.BigQuiet
import Derived.Deep.QuietTactic
import Derived.LoopTactic
import Derived.Outline
import Derived.Deep.LoopGhost
import Derived.Deep.RegionWith
import Derived.Lib.AppendStr
import Derived.Test.YtggeiajbcehkjaaGreatDoorGay
import Derived.Test.YtggeiajbcehkjaaGreatDoorGax
namespace Go.Proofs.YtggeiajbcehkjaaGreatDoor
open Go.RowKit
namespace Va
set_option maxRecDepth 100000

theorem bs_sorted (ks : List Bs) : (ks.mergeSort fun x y => decide (x ≤ y)).Pairwise fun x y => x ≤ y := by
  have := List.pairwise_mergeSort (le := fun x y : Bs => decide (x ≤ y)) (fun a b c h1 h2 => by
    simp only [decide_eq_true_eq] at *; exact List.le_trans h1 h2) (fun a b => by
    simp only [Bool.or_eq_true, decide_eq_true_eq]; exact List.le_total a b) ks
  exact this.imp fun h => by simpa using h
theorem compact_len {zs : List Bs} : (Lib.compact zs).length = zs.length ↔ ∀ j, j < zs.length → Lib.keeps zs.toArray j = true := by
  unfold Lib.compact Lib.compactUpTo
  rw [List.length_map]
  constructor
  · intro h j hj
    have h1 : (List.range zs.length).filter (Lib.keeps zs.toArray) = List.range zs.length := List.filter_sublist.eq_of_length (by rw [h, List.length_range])
    have := List.filter_eq_self.1 h1 j (List.mem_range.2 hj)
    exact this
  · intro h
    rw [List.filter_eq_self.2 (fun j hj => h j (List.mem_range.1 hj)), List.length_range]
theorem few_iff (ks : List Bs) : (Lib.compact (ks.mergeSort fun x y => decide (x ≤ y))).length = ks.length ↔ ks.Nodup := by
  have hp : (ks.mergeSort fun x y => decide (x ≤ y)).Perm ks := List.mergeSort_perm ..
  have hs := bs_sorted ks
  obtain ⟨zs, hz⟩ : ∃ zs, zs = ks.mergeSort fun x y => decide (x ≤ y) := ⟨_, rfl⟩
  rw [← hz] at hp hs ⊢
  rw [← hp.length_eq, compact_len, ← hp.nodup_iff]
  constructor
  · intro h
    rw [List.Nodup, List.pairwise_iff_getElem]
    intro i j hi hj hij e
    have h1 := List.pairwise_iff_getElem.1 hs
    have hk := h j hj
    have e2 : zs[j - 1] = zs[j] := by
      rcases Nat.lt_or_ge i (j - 1) with h3 | h3
      · have a := h1 i (j - 1) hi (by omega) h3
        have b := h1 (j - 1) j (by omega) hj (by omega)
        rw [← e] at b ⊢
        exact List.le_antisymm b a
      · have : i = j - 1 := by omega
        subst this; exact e
    unfold Lib.keeps at hk
    simp at hk
    rcases hk with hk | hk
    · omega
    · rw [List.getElem?_eq_getElem hj, List.getElem?_eq_getElem (show j - 1 < zs.length by omega), Option.getD_some, Option.getD_some] at hk
      exact hk e2.symm
  · intro h j hj
    unfold Lib.keeps
    simp
    by_cases h0 : j = 0
    · exact .inl h0
    · right
      rw [List.getElem?_eq_getElem hj, List.getElem?_eq_getElem (show j - 1 < zs.length by omega), Option.getD_some, Option.getD_some]
      exact fun e => List.pairwise_iff_getElem.1 h (j - 1) j (by omega) hj (by omega) e.symm
theorem cell_fst9 (w : World) (v : Value) (t : TypeId) : (w.alloc (.cells #[v] t)).cell? ⟨w.heap.size, 0, none⟩ = some v := by
  have e := heap_alloc_new w (.cells #[v] t)
  simp only [World.cell?, e]
  rfl
/-- The library's sorted texts. -/
theorem collect_any {A : Option Addr} {q m cap : Nat} {ks : List Bs} (w : World) (hq0 : q < w.heap.size) (hm : m = ks.length) (hmb : m ≤ 1000000) (hb : 0 < ks.length → ∀ g o, A = some ⟨g, o, none⟩ → g < w.heap.size) (hq : w.cell? ⟨q, 0, none⟩ = some (.slice A m cap)) (hK : Tx w A ks) :
    Calls Tryz.prog 114 #[.func (.func 116) #[] #[.pointer (some ⟨q, 0, none⟩)]] w fun e w' => ∃ v, e = .returned v ∧ w'.ownsRow w.heap.size 9 1 v ks.length (ks.map fun t => .string (txt t)) ∧ Below w.heap.size w w' := by
  have C := Lib.hid ((callsIn_wide (n := 5)).1 (appSeq_in Fence.wide 5 trivial trivial rfl (by omega) q m cap A ks w hq0 hm hmb hb hq hK))
  clear hq hK hb hm hmb hq0
  go_enter Tryz.func114, Tryz.ntmps114
  go_wp2_with fail
  refine C.out.mono ?_
  rintro e w2 ⟨v, rfl, h1, h2⟩
  go_wp2_with fail
  go_ret
  exact ⟨v, rfl, h1, h2⟩
set_option maxHeartbeats 4000000 in
theorem sorted_any {A : Option Addr} {q m cap : Nat} {ks : List Bs} (w : World) (hq0 : q < w.heap.size) (hm : m = ks.length) (hmb : m ≤ 1000000) (hb : 0 < ks.length → ∀ g o, A = some ⟨g, o, none⟩ → g < w.heap.size) (hq : w.cell? ⟨q, 0, none⟩ = some (.slice A m cap)) (hK : Tx w A ks) :
    Calls Tryz.prog 95 #[.func (.func 116) #[] #[.pointer (some ⟨q, 0, none⟩)]] w fun e w' => ∃ v, e = .returned v ∧ w'.ownsRow w.heap.size 9 1 v m ((ks.mergeSort fun x y => decide (x ≤ y)).map Go.Proofs.encStr) ∧ Below w.heap.size w w' := by
  have C := Lib.hid (collect_any w hq0 hm hmb hb hq hK)
  have HM := Lib.hid hm
  rw [← HM.out] at C
  clear hq hK hb hm hq0
  go_enter Tryz.func95, Tryz.ntmps95
  go_wp2_with fail
  refine C.out.mono ?_
  rintro e w2 ⟨v, rfl, h1, h2⟩
  have HB := Lib.hid h2
  rcases h1.2 with ⟨rfl, h0⟩ | ⟨g, c, cur, rfl, hbase, hgb, r1, r2, r3, r4⟩
  · have hk0 : ks = [] := List.eq_nil_of_length_eq_zero (by rw [← HM.out]; exact h0)
    have HR := Lib.hid (show w2.ownsRow w.heap.size 9 1 (.slice none 0 0) m ((ks.mergeSort fun x y => decide (x ≤ y)).map Go.Proofs.encStr) from by rw [hk0, h0, List.mergeSort_nil]; exact World.ownsRow_nil _ _ _ 1)
    have CS := Lib.hid (Tryz.slices_Sort_string_none none 0 w2)
    clear h1 h2 hk0 h0
    go_wp2_with fail
    refine CS.out.mono ?_
    rintro e w3 ⟨rfl, rfl⟩
    go_wp2_with fail
    go_ret
    exact ⟨_, rfl, HR.out, HB.out⟩
  · have hH : Sort.Holds Go.Proofs.encStr w2 g 0 ks.toArray := holds_of_block hgb (by rw [← HM.out]; rw [Nat.mul_one] at r4; exact r4)
    have CS := Lib.hid (Tryz.slices_Sort_string g 0 c ks w2 hH (Array.getElem?_eq_some_iff.1 hgb).1 (by rw [← HM.out]; omega))
    rw [← HM.out] at CS
    have HR := Lib.hid (fun (k : Nat) (os : Array Obj) => show (Sort.grow (Sort.putRow Go.Proofs.encStr (Sort.ahead w2 k) g 0 (ks.mergeSort fun x y => decide (x ≤ y)).toArray) os).ownsRow w.heap.size 9 1 (.slice (some ⟨g, 0, none⟩) m c) m ((ks.mergeSort fun x y => decide (x ≤ y)).map Go.Proofs.encStr) from by
      have := ownsRow_sorted (n := k) (os := os) (ss := ks) (ts := ks.mergeSort fun x y => decide (x ≤ y)) (by simp) hbase hgb (by rw [← HM.out]; exact r1) r2 r3
      rw [← HM.out] at this; exact this)
    have HBB := Lib.hid (fun (k : Nat) (os : Array Obj) => show Below w.heap.size w (Sort.grow (Sort.putRow Go.Proofs.encStr (Sort.ahead w2 k) g 0 (ks.mergeSort fun x y => decide (x ≤ y)).toArray) os) from HB.out.grown (grownBy_sorted _) HB.out.size (fun _ e => by cases e; exact hbase))
    clear h1 h2 hH r1 r2 r3 r4 hgb hbase
    go_wp2_with fail
    refine CS.out.mono ?_
    rintro e w3 ⟨rfl, k, os, rfl⟩
    have HR2 := Lib.hid (HR.out k os)
    have HB2 := Lib.hid (HBB.out k os)
    obtain ⟨w4, hw4⟩ : ∃ w4, w4 = Sort.grow (Sort.putRow Go.Proofs.encStr (Sort.ahead w2 k) g 0 (ks.mergeSort fun x y => decide (x ≤ y)).toArray) os := ⟨_, rfl⟩
    rw [← hw4] at HR2 HB2 ⊢
    clear hw4 HR HBB
    go_wp2_with fail
    go_ret
    exact ⟨_, rfl, HR2.out, HB2.out⟩
set_option maxHeartbeats 8000000 in
theorem mayKeys_any : KeysC := by
  intro k t l ks v w hv hk hw
  obtain ⟨R, hR⟩ : ∃ R, R = decide ((k = 7 → ks = []) ∧ (k = 8 → ks.length = l.length ∧ ks.Nodup)) := ⟨_, rfl⟩
  rw [← hR]
  have HR := Lib.hid hR
  have HNL := Lib.hid (show ks.length ≤ 1000000 by rw [wt] at hw; omega)
  obtain ⟨A, B, c, d, rfl, hk9, hl, hc, hA, hd, hd2, hB, hK, hV⟩ := hv.inv
  have HTX := Lib.hid hK
  have HBK := Lib.hid hB
  obtain ⟨T, hT⟩ : ∃ T, T = txt t := ⟨_, rfl⟩
  obtain ⟨n, HN⟩ : ∃ n, Hid (n = l.length) := ⟨_, Lib.hid rfl⟩
  obtain ⟨m, HM⟩ : ∃ m, Hid (m = ks.length) := ⟨_, Lib.hid rfl⟩
  rw [← HN.out, ← HM.out, ← hT]
  have hm9 : m ≤ 1000000 := by rw [HM.out]; exact HNL.out
  clear hV hK hv hT hR hw hl hc hA hd hd2 hB hk9
  obtain ⟨W1, hW1⟩ : ∃ W, W = w.alloc (vO (.int .u8 k) (.string T) (.slice A n c) (.slice B m d)) := ⟨_, rfl⟩
  have hb1 : Below w.heap.size w W1 := by rw [hW1]; exact below_new ..
  have HX := Lib.hid (show Bx W1 w.heap.size (.int .u8 k) (.string T) (.slice A n c) (.slice B m d) from by rw [hW1]; exact Bx.new ..)
  have HB1 := Lib.hid hb1
  have HW1 := Lib.hid hW1
  clear hb1 hW1
  go_enter Tryz.func68, Tryz.ntmps68
  go_upto_region 1 with fail
  rw [← HW1.out]
  obtain ⟨h, hh⟩ : ∃ h, h = w.heap.size := ⟨_, rfl⟩
  rw [← hh] at HX ⊢
  have HHH := Lib.hid hh
  clear HW1 hh
  have x0 := HX.out.c0
  have x2 := HX.out.c2
  have x3 := HX.out.c3
  by_cases h7 : k = 7
  · subst h7
    have HR7 := Lib.hid (show R = decide (m = 0) from by rw [HR.out]; exact decide_eq_decide.2 ⟨fun e => by rw [HM.out, e.1 rfl]; rfl, fun e => ⟨fun _ => List.eq_nil_of_length_eq_zero (by rw [← HM.out]; exact e), fun e => by omega⟩⟩)
    clear HR hk
    by_cases h0 : m = 0
    · subst h0
      go_wp2_with fail
      go_ret
      exact ⟨ret_bool (by rw [HR7.out]; rfl), HB1.out⟩
    · have f0 : ((m : Int) == 0) = false := beq_eq_false_iff_ne.2 (by omega)
      go_wp2_with fail
      go_ret
      exact ⟨ret_bool (by rw [HR7.out]; exact (decide_eq_false h0).symm), HB1.out⟩
  · obtain rfl : k = 8 := by omega
    have HR8 := Lib.hid (show R = decide (m = n ∧ ks.Nodup) from by rw [HR.out]; exact decide_eq_decide.2 ⟨fun e => by rw [HM.out, HN.out]; exact e.2 rfl, fun e => ⟨fun e => by omega, fun _ => by rw [← HM.out, ← HN.out]; exact e⟩⟩)
    clear HR hk h7
    by_cases hmn : m = n
    · subst hmn
      have CV := Lib.hid (fun (X : World) => (callsIn_wide (n := 5)).1 (values_in Fence.wide 5 trivial rfl B m d X))
      have e1 : ((m : Int) != (m : Int)) = false := by simp
      go_wp2_with fail
      refine (CV.out _).mono ?_
      rintro e w2 ⟨rfl, rfl⟩
      have HB2 := Lib.hid (below_tr HB1.out (below_new W1 (.cells #[.slice B m d] 31)))
      have CS := Lib.hid (sorted_any (A := B) (q := W1.heap.size) (m := m) (cap := d) (ks := ks) (W1.alloc (.cells #[.slice B m d] 31)) (by show _ < (W1.heap.push _).size; rw [Array.size_push]; omega) HM.out hm9 (fun h0 g o e => by
        obtain ⟨g', o', e', hg', _⟩ := HTX.out h0
        rw [e'] at e; injection e with e; injection e with e _ _; subst e
        exact Nat.lt_of_lt_of_le hg' HB2.out.size) (cell_fst9 ..) (HTX.out.on HB2.out))
      clear CV x0 x2
      have y3 := cell_old (below_new W1 (.cells #[.slice B m d] 31)) HX.out.lt x3
      clear x3
      go_wp2_with fail
      refine CS.out.mono ?_
      rintro e w3 ⟨v, rfl, h1, h2⟩
      have HB3 := Lib.hid (below_tr HB2.out h2)
      have z3 := cell_old h2 (Nat.lt_of_lt_of_le HX.out.lt (below_new W1 (.cells #[.slice B m d] 31)).size) y3
      have HZ3 := Lib.hid z3
      have HHZ := Lib.hid (show h < w3.heap.size from World.block_lt_of_cell? _ _ z3)
      obtain ⟨zs, HZS⟩ : ∃ zs, Hid (zs = ks.mergeSort fun x y => decide (x ≤ y)) := ⟨_, Lib.hid rfl⟩
      have hzl : zs.length = m := by rw [HZS.out, HM.out]; simp
      have HZL := Lib.hid hzl
      have hFW := few_iff ks
      rw [← HZS.out] at h1 hFW
      obtain ⟨N, HNN⟩ : ∃ N, Hid (N = (Lib.compact zs).length) := ⟨_, Lib.hid rfl⟩
      have HRF := Lib.hid (show R = decide (N = m) from by rw [HR8.out, HNN.out]; exact decide_eq_decide.2 ⟨fun e => by rw [HM.out]; exact hFW.2 e.2, fun e => ⟨by first | rfl | trivial, hFW.1 (by rw [← HM.out]; exact e)⟩⟩)
      rcases h1.2 with ⟨rfl, h0⟩ | ⟨g, c, cur, rfl, hbase, hgb, r1, r2, r3, r4⟩
      · subst h0
        have hz0 : zs = [] := List.eq_nil_of_length_eq_zero hzl
        have HE := Lib.hid (show R = true from by rw [HRF.out, HNN.out, hz0]; exact decide_eq_true rfl)
        have CC := Lib.hid (fun X : World => Tryz.slices_Compact_string_empty none 0 X)
        clear hz0 hzl hFW h1 h2 y3
        go_upto_region 6 with fail
        go_region_held_law (fun X => X.cell? ⟨h, 3, none⟩ = some (.slice B 0 d)) (first | exact z3 | exact HZ3.out)
          (first
            | (go_simp; go_at_call 97; refine (CC.out _).mono ?_; rintro e w4 ⟨rfl, rfl⟩))
        go_wp2_with fail
        go_ret
        exact ⟨ret_bool HE.out.symm, HB3.out.drew⟩
      · have hH : Sort.Holds Go.Proofs.encStr w3 g 0 zs.toArray := holds_of_block hgb (by rw [hzl]; rw [Nat.mul_one] at r4; exact r4)
        have hgh : h ≠ g := by
          have : (W1.alloc (.cells #[.slice B m d] 31)).heap.size = W1.heap.size + 1 := by show (W1.heap.push _).size = _; rw [Array.size_push]
          have := HX.out.lt
          omega
        have CC := Lib.hid (fun (X : World) (hX : Sort.Holds Go.Proofs.encStr X g 0 zs.toArray) => Tryz.slices_Compact_string g 0 c zs X hX (by rw [hzl]; omega) (by rw [hzl]; exact r1))
        rw [hzl, ← HNN.out] at CC
        have HH := Lib.hid hH
        have HGH := Lib.hid hgh
        have HBG := Lib.hid (show w.heap.size ≤ g from Nat.le_trans (by have := HB2.out.size; omega) hbase)
        have HPC := Lib.hid (fun (X : World) (q : Nat) (dd : Array (List UInt8)) (hX : X.cell? ⟨h, 3, none⟩ = some (.slice B m d)) => show (Sort.putRow Go.Proofs.encStr (Sort.ahead X q) g 0 dd).cell? ⟨h, 3, none⟩ = some (.slice B m d) from by rw [Sort.cell?_putRow_other _ _ _ _ _ _ (.inl hgh)]; exact hX)
        have HPB := Lib.hid (fun (X : World) (q : Nat) (dd : Array (List UInt8)) (hX : Below w.heap.size w X) => show Below w.heap.size w (Sort.putRow Go.Proofs.encStr (Sort.ahead X q) g 0 dd) from hX.grown (by have := grownBy_sorted (w := X) (g := g) (n := q) (os := #[]) dd; simpa using this) hX.size (fun _ e => by cases e; exact HBG.out))
        clear hzl hFW h1 h2 y3 hH hgh r1 r2 r3 r4 hgb hbase
        go_upto_region 6 with fail
        go_region_held_law (fun X => X.cell? ⟨h, 3, none⟩ = some (.slice B m d)) (first | exact z3 | exact HZ3.out | assumption)
          (first
            | (go_simp; go_at_call 97; refine (CC.out w3.drew HH.out).mono ?_; rintro e w4 ⟨rfl, q, rfl⟩; have z4 := HPC.out w3.drew q (Lib.compact zs ++ List.replicate (m - N) []).toArray HZ3.out; have HB4 := Lib.hid (HPB.out w3.drew q (Lib.compact zs ++ List.replicate (m - N) []).toArray HB3.out.drew)))
        have HE := Lib.hid (show ((N : Int) == (m : Int)) = R from by rw [HRF.out]; by_cases h : N = m <;> simp [h]; omega)
        go_wp2_with fail
        go_ret
        exact ⟨ret_bool HE.out, HB4.out⟩
    · have HE := Lib.hid (show R = false from by rw [HR8.out]; exact decide_eq_false fun e => hmn e.1)
      have f1 : ((m : Int) != (n : Int)) = true := bne_iff_ne.2 (by omega)
      go_wp2_with fail
      go_ret
      exact ⟨ret_bool HE.out.symm, HB1.out⟩
end Va
end Go.Proofs.YtggeiajbcehkjaaGreatDoor
/- What the writer of strings stands on: plain bytes, the short escapes. -/
namespace Go.Proofs.YtggeiajbcehkjaaGreatDoor
open Go.RowKit

/-- The short escapes, as the program lays them. -/
def Shorts (w : World) : Prop := w.cell? ⟨1, 0, none⟩ = some (.int .u8 34) ∧ w.cell? ⟨1, 1, none⟩ = some (.int .u8 34) ∧ w.cell? ⟨1, 2, none⟩ = some (.int .u8 92) ∧ w.cell? ⟨1, 3, none⟩ = some (.int .u8 92) ∧ w.cell? ⟨1, 4, none⟩ = some (.int .u8 47) ∧ w.cell? ⟨1, 5, none⟩ = some (.int .u8 47) ∧ w.cell? ⟨1, 6, none⟩ = some (.int .u8 98) ∧ w.cell? ⟨1, 7, none⟩ = some (.int .u8 8) ∧ w.cell? ⟨1, 8, none⟩ = some (.int .u8 102) ∧ w.cell? ⟨1, 9, none⟩ = some (.int .u8 12) ∧ w.cell? ⟨1, 10, none⟩ = some (.int .u8 110) ∧ w.cell? ⟨1, 11, none⟩ = some (.int .u8 10) ∧ w.cell? ⟨1, 12, none⟩ = some (.int .u8 114) ∧ w.cell? ⟨1, 13, none⟩ = some (.int .u8 13) ∧ w.cell? ⟨1, 14, none⟩ = some (.int .u8 116) ∧ w.cell? ⟨1, 15, none⟩ = some (.int .u8 9)
theorem Shorts.old {W w : World} (h : Shorts W) (hz : 1 < W.heap.size) (hb : Below W.heap.size W w) : Shorts w := by
  obtain ⟨h0, h1, h2, h3, h4, h5, h6, h7, h8, h9, h10, h11, h12, h13, h14, h15⟩ := h
  exact ⟨(hb.cell (p := ⟨1, 0, none⟩) hz).trans h0, (hb.cell (p := ⟨1, 1, none⟩) hz).trans h1, (hb.cell (p := ⟨1, 2, none⟩) hz).trans h2, (hb.cell (p := ⟨1, 3, none⟩) hz).trans h3, (hb.cell (p := ⟨1, 4, none⟩) hz).trans h4, (hb.cell (p := ⟨1, 5, none⟩) hz).trans h5, (hb.cell (p := ⟨1, 6, none⟩) hz).trans h6, (hb.cell (p := ⟨1, 7, none⟩) hz).trans h7, (hb.cell (p := ⟨1, 8, none⟩) hz).trans h8, (hb.cell (p := ⟨1, 9, none⟩) hz).trans h9, (hb.cell (p := ⟨1, 10, none⟩) hz).trans h10, (hb.cell (p := ⟨1, 11, none⟩) hz).trans h11, (hb.cell (p := ⟨1, 12, none⟩) hz).trans h12, (hb.cell (p := ⟨1, 13, none⟩) hz).trans h13, (hb.cell (p := ⟨1, 14, none⟩) hz).trans h14, (hb.cell (p := ⟨1, 15, none⟩) hz).trans h15⟩
end Go.Proofs.YtggeiajbcehkjaaGreatDoor
/- A byte's unit put behind others: the program's put. -/
namespace Go.Proofs.YtggeiajbcehkjaaGreatDoor
open Go.RowKit

/-- A row of bytes that is the call's own; nothing below it has turned. -/
def OR (w : World) (base : Nat) (t : List UInt8) (e : Ending) (w' : World) : Prop := ∃ v, e = .returned v ∧ w'.ownsRow base 5 1 v t.length (bytV t) ∧ Below base w w'
theorem OR.of {w wr w' : World} {base : Nat} {t u : List UInt8} {v v' : Value} {o : Obj} (hg : w.grownBy wr none) (hb : base ≤ w.heap.size) (hown : wr.ownsRow base 5 1 v t.length (bytV t)) (h1 : w'.ownsRow base 5 1 v' (t.length + u.length) (bytV t ++ bytV u)) (h2 : (wr.alloc o).grownBy w' v.ownBlock) : OR w base (t ++ u) (.returned v') w' := by
  refine ⟨v', rfl, by rw [List.length_append, show bytV (t ++ u) = bytV t ++ bytV u by simp [bytV]]; exact h1, ?_⟩
  have a1 : Below base w wr := (Below.refl _ _).grown hg hb (fun _ h => by cases h)
  refine (a1.alloc (Nat.le_trans hb hg.size) o).grown h2 (by have := hg.size; simp; omega) (fun g e => ?_)
  rcases hown.2 with ⟨rfl, _⟩ | ⟨g', cap, cur, rfl, hb', _⟩
  · cases e
  · obtain rfl : g' = g := by simpa [Value.ownBlock] using e
    exact hb'
section
variable {w : World} {base : Nat} {t : List UInt8} {v : Value}
end
end Go.Proofs.YtggeiajbcehkjaaGreatDoor
/- The program's own writing of a string. -/
namespace Go.Proofs.YtggeiajbcehkjaaGreatDoor
open Go.RowKit

def WR (w wr : World) (t : List UInt8) (v : Value) : Prop := wr.ownsRow w.heap.size 5 1 v t.length (bytV t) ∧ Below w.heap.size w wr
theorem WR.of {w wr w' : World} {t u : List UInt8} {v v' : Value} {o : Obj} (h : WR w wr t v) (h1 : w'.ownsRow w.heap.size 5 1 v' (t.length + u.length) (bytV t ++ bytV u)) (h2 : (wr.alloc o).grownBy w' v.ownBlock) : WR w w' (t ++ u) v' := by
  refine ⟨by rw [List.length_append, show bytV (t ++ u) = bytV t ++ bytV u by simp [bytV]]; exact h1, ?_⟩
  refine (h.2.alloc h.2.size o).grown h2 (by have := h.2.size; simp; omega) (fun g e => ?_)
  rcases h.1.2 with ⟨rfl, _⟩ | ⟨g', cap, cur, rfl, hb', _⟩
  · cases e
  · obtain rfl : g' = g := by simpa [Value.ownBlock] using e
    exact hb'
theorem escs_len (t : List UInt8) : (Qu.escs t).length ≤ 6 * t.length := by
  induction t with
  | nil => simp [Qu.escs]
  | cons c t ih => have := Qu.esc_len6 c; rw [Qu.escs_cons, List.length_append, List.length_cons]; omega
theorem escs_take {l : List UInt8} {k : Nat} (h : k < l.length) : Qu.escs (l.take (k + 1)) = Qu.escs (l.take k) ++ Qu.esc l[k] := by
  rw [List.take_succ_eq_append_getElem h, Qu.escs_app]; simp [Qu.escs]
end Go.Proofs.YtggeiajbcehkjaaGreatDoor
/- The document's writing of a string. -/
namespace Go.Proofs.YtggeiajbcehkjaaGreatDoor
open Go.RowKit

/-- What is written so far. -/
def WS (l : List UInt8) (k : Nat) (S : ByteArray) : Prop := S = txt (34 :: Qu.escs (l.take k))
theorem WS.next {l : List UInt8} {k : Nat} {S : ByteArray} (h : WS l k S) (hk : k < l.length) {u : List UInt8} {U : ByteArray} (hU : U = txt u) (he : Qu.esc l[k] = u) : WS l (k + 1) (S ++ U) := by
  unfold WS at *
  rw [h, hU, txt_app, escs_take hk, he]; rfl
theorem WS.size {l : List UInt8} {k : Nat} {S : ByteArray} (h : WS l k S) (hl : l.length ≤ 1000000) : S.size ≤ 6000001 := by
  unfold WS at h
  have := escs_len (l.take k)
  have h2 : (l.take k).length ≤ l.length := by simp; omega
  rw [h, txt_size]; simp; omega
end Go.Proofs.YtggeiajbcehkjaaGreatDoor
/- The document's Get. -/
namespace Go.Proofs.YtggeiajbcehkjaaGreatDoor
open Go.RowKit
namespace Va

def gt : V → Bs → Option V
  | .mk k t l ks, key => if k = 8 ∧ may (.mk k t l ks) = true then (fnd ks key).bind fun i => l[i]? else none
theorem vm_zero (w : World) : Vm w (.agg #[.int .u8 0, .string ⟨#[]⟩, .slice none 0 0, .slice none 0 0]) (.mk 0 [] [] []) := by
  have := Vk.mk (w := w) (ok := fun _ => True) 0 [] [] [] none none 0 0 (fun _ _ => .int .u8 0) (by decide) (Nat.le_refl _) (Nat.zero_le _) (fun _ => rfl) (Nat.le_refl _) (Nat.zero_le _) (fun _ => rfl) (fun h => absurd h (by simp)) (fun h => absurd h (by simp)) (fun h => absurd h (by simp)) (fun _ _ _ _ => trivial) (fun i x h => by simp at h)
  exact this
theorem vshape {w : World} {u : Value} {x : V} (h : Vm w u x) : ∃ (k : Nat) (t : ByteArray) (A B : Option Addr) (n c m d : Nat), u = .agg #[.int .u8 k, .string t, .slice A n c, .slice B m d] := by
  cases h with
  | mk k t l ks A B c d f => exact ⟨k, _, A, B, _, _, _, _, rfl⟩
theorem vcells {w : World} {g : Nat} {a b c d : Value} (e : w.heap[g]? = some (vO a b c d)) : (w.cell? ⟨g, 0, none⟩ = some a ∧ w.cell? ⟨g, 1, none⟩ = some b ∧ w.cell? ⟨g, 2, none⟩ = some c ∧ w.cell? ⟨g, 3, none⟩ = some d) ∧ w.frozen? ⟨g, 0, none⟩ = false ∧ w.frozen? ⟨g, 1, none⟩ = false ∧ w.frozen? ⟨g, 2, none⟩ = false ∧ w.frozen? ⟨g, 3, none⟩ = false := by
  simp [World.cell?, World.frozen?, e]
end Va
end Go.Proofs.YtggeiajbcehkjaaGreatDoor
/- A twin in memory: a value, each of whose rows has room behind, and a mark in it. -/
namespace Go.Proofs.YtggeiajbcehkjaaGreatDoor
open Go.RowKit
namespace Va
set_option maxRecDepth 100000

/-- The mark. -/
def mrk : Bs := [109, 97, 114, 107]
/-- A twin, in blocks that are fit. -/
inductive Vt (w : World) (ok : Nat → Prop) : Value → V → Prop where
  | mk (k : Nat) (t : Bs) (l : List V) (ks : List Bs) (g o h p c d : Nat) (f : Nat → Nat → Value)
    (hk : k < 256) (hl : l.length < c) (hc : c ≤ maxLen) (hd : ks.length < d) (hd2 : d ≤ maxLen)
    (hg : g < w.heap.size) (hh : h < w.heap.size) (og : ok g) (oh : ok h)
    (hK : ∀ i s, ks[i]? = some s → w.cell? ⟨h, p + i, none⟩ = some (.string (txt s))) (mK : w.cell? ⟨h, p + ks.length, none⟩ = some (.string (txt mrk)))
    (hL : ∀ i, i < l.length → ∀ j, j < 4 → w.cell? ⟨g, o + i * 4 + j, none⟩ = some (f i j)) (mL : w.cell? ⟨g, o + l.length * 4 + 1, none⟩ = some (.string (txt mrk)))
    (hV : ∀ i x, l[i]? = some x → Vt w ok (.agg #[f i 0, f i 1, f i 2, f i 3]) x) :
    Vt w ok (.agg #[.int .u8 k, .string (txt t), .slice (some ⟨g, o, none⟩) l.length c, .slice (some ⟨h, p, none⟩) ks.length d]) (.mk k t l ks)
theorem Vt.vk {w : World} {ok : Nat → Prop} {v : Value} {x : V} (h : Vt w ok v x) : Vk w ok v x := by
  induction h with
  | mk k t l ks g o h p c d f hk hl hc hd hd2 hg hh og oh hK mK hL mL hV ih =>
    exact .mk k t l ks _ _ c d f hk (Nat.le_of_lt hl) hc (fun e => by cases e) (Nat.le_of_lt hd) hd2 (fun e => by cases e) (fun _ => ⟨h, p, rfl, hh, hK⟩) (fun _ => ⟨g, o, rfl, hg, hL⟩)
      (fun _ g' o' e => by injection e with e; injection e with e1 _ _; subst e1; exact og) (fun _ g' o' e => by injection e with e; injection e with e1 _ _; subst e1; exact oh) ih
theorem Vt.vm {w : World} {ok : Nat → Prop} {v : Value} {x : V} (h : Vt w ok v x) : Vm w v x := h.vk.vm
theorem Vt.keep {w w' : World} {ok : Nat → Prop} {v : Value} {x : V} (h : Vt w ok v x) (hb : ∀ g, ok g → g < w.heap.size → w'.heap[g]? = w.heap[g]?) (hs : w.heap.size ≤ w'.heap.size) : Vt w' ok v x := by
  induction h with
  | mk k t l ks g o h p c d f hk hl hc hd hd2 hg hh og oh hK mK hL mL hV ih =>
    exact .mk k t l ks g o h p c d f hk hl hc hd hd2 (Nat.lt_of_lt_of_le hg hs) (Nat.lt_of_lt_of_le hh hs) og oh (fun i s hi => cell_eq (hb h oh hh) (hK i s hi)) (cell_eq (hb h oh hh) mK)
      (fun i hi j hj => cell_eq (hb g og hg) (hL i hi j hj)) (cell_eq (hb g og hg) mL) ih
theorem Vt.on {w w' : World} {ok : Nat → Prop} {v : Value} {x : V} (h : Vt w ok v x) (hb : Below w.heap.size w w') : Vt w' ok v x := h.keep (fun g _ hg => hb.block g hg) hb.size
theorem Vt.to {w : World} {ok ok' : Nat → Prop} {v : Value} {x : V} (h : Vt w ok v x) (hi : ∀ g, g < w.heap.size → ok g → ok' g) : Vt w ok' v x := by
  induction h with
  | mk k t l ks g o h p c d f hk hl hc hd hd2 hg hh og oh hK mK hL mL hV ih =>
    exact .mk k t l ks g o h p c d f hk hl hc hd hd2 hg hh (hi g hg og) (hi h hh oh) hK mK hL mL ih
/-- A twin's parts. -/
theorem Vt.inv {w : World} {ok : Nat → Prop} {v : Value} {k : Nat} {t : Bs} {l : List V} {ks : List Bs} (h : Vt w ok v (.mk k t l ks)) :
    ∃ g o h p c d, v = .agg #[.int .u8 k, .string (txt t), .slice (some ⟨g, o, none⟩) l.length c, .slice (some ⟨h, p, none⟩) ks.length d] ∧ k < 256 ∧ l.length < c ∧ c ≤ maxLen ∧ ks.length < d ∧ d ≤ maxLen ∧ g < w.heap.size ∧ h < w.heap.size ∧ ok g ∧ ok h ∧
      (∀ i s, ks[i]? = some s → w.cell? ⟨h, p + i, none⟩ = some (.string (txt s))) ∧ w.cell? ⟨h, p + ks.length, none⟩ = some (.string (txt mrk)) ∧ w.cell? ⟨g, o + l.length * 4 + 1, none⟩ = some (.string (txt mrk)) ∧
      ∀ i x, l[i]? = some x → ∃ v0 v1 v2 v3, w.cell? ⟨g, o + i * 4, none⟩ = some v0 ∧ w.cell? ⟨g, o + i * 4 + 1, none⟩ = some v1 ∧ w.cell? ⟨g, o + i * 4 + 2, none⟩ = some v2 ∧ w.cell? ⟨g, o + i * 4 + 3, none⟩ = some v3 ∧ Vt w ok (.agg #[v0, v1, v2, v3]) x := by
  cases h with
  | mk _ _ _ _ g o h p c d f hk hl hc hd hd2 hg hh og oh hK mK hL mL hV =>
    refine ⟨g, o, h, p, c, d, rfl, hk, hl, hc, hd, hd2, hg, hh, og, oh, hK, mK, mL, fun i x hx => ?_⟩
    have hi := (List.getElem?_eq_some_iff.1 hx).1
    exact ⟨_, _, _, _, hL i hi 0 (by decide), hL i hi 1 (by decide), hL i hi 2 (by decide), hL i hi 3 (by decide), hV i x hx⟩
end Va
end Go.Proofs.YtggeiajbcehkjaaGreatDoor
