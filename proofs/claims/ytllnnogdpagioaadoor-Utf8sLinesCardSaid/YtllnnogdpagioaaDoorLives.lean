/- The chapter's examples, which each law asks: they come out true. -/
import Derived.Test.YtllnnogdpagioaaDoorSame
import Derived.Test.YtllnnogdpagioaaDoorRunes
namespace Go.Proofs.YtllnnogdpagioaaDoor
open Go.RowKit

theorem ex_scn1 : scn [195, 169, 65] = 3 := by
  rw [scn_step (by decide), show lng [195, 169, 65] = 2 by decide]
  show 2 + scn [65] = 3
  rw [scn_step (by decide), show lng [65] = 1 by decide]
  show 2 + (1 + scn []) = 3
  rw [scn_stop rfl]
theorem ex_scn2 : scn [65, 195, 65] = 1 := by
  rw [scn_step (by decide), show lng [65, 195, 65] = 1 by decide]
  show 1 + scn [195, 65] = 1
  rw [scn_stop (by decide)]
theorem ex_scn3 : scn [226, 130] = 0 := scn_stop (by decide)
theorem ex_col : colAt [97, 10, 98, 99] 3 = 1 := by
  show colF [97, 10, 98, 99] 3 2 = 1
  rw [colF_on (by decide), colF_end (by decide)]
theorem ex_put : putI [8364] = [226, 130, 172] := by decide
theorem ex_rns : rns [65, 195, 169] = [65, 233] := by
  rw [rns_step (by decide), show lng [65, 195, 169] = 1 by decide]
  show nmb [65] :: rns [195, 169] = _
  rw [rns_step (by decide), show lng [195, 169] = 2 by decide]
  show nmb [65] :: nmb [195, 169] :: rns [] = _
  rw [rns_stop rfl]
  decide

theorem byt_new {w : World} (g : Nat) (l : List UInt8) (cs : Array Value) (hg : g = w.heap.size) (h : cs.toList = l.map (fun c => Value.int .u8 (c.toNat : Int))) : Byt (w.alloc (.cells cs 5)) (w.heap.size + 1) (some ⟨g, 0, none⟩) l := fun _ =>
  ⟨g, 0, rfl, by omega, fun k hk => by
    rw [World.cell?_alloc_at _ _ _ _ hg, ← Array.getElem?_toList, h, Nat.zero_add]
    simp [hk, bt]⟩
theorem num_new {w : World} (g : Nat) (l : List Int) (cs : Array Value) (hg : g = w.heap.size) (h : cs.toList = l.map (fun c => Value.int .i64 c)) : Num (w.alloc (.cells cs 3)) (w.heap.size + 1) (some ⟨g, 0, none⟩) l := fun _ =>
  ⟨g, 0, rfl, by omega, fun k hk => by
    rw [World.cell?_alloc_at _ _ _ _ hg, ← Array.getElem?_toList, h, Nat.zero_add]
    simp [hk, it]⟩

/-- What an owned row of bytes reads as. -/
theorem own_byt {w : World} {base g n cap : Nat} {l : List Int} (hl : ∀ x ∈ l, 0 ≤ x ∧ x ≤ 255) (h : w.ownsRow base 5 1 (.slice (some ⟨g, 0, none⟩) n cap) n (bytI l)) :
    Byt w w.heap.size (some ⟨g, 0, none⟩) (l.map (fun x => UInt8.ofNat x.toNat)) := fun _ =>
  ⟨g, 0, rfl, (h.lt _ rfl).2, fun k hk => by
    simp at hk
    have hn : n = l.length := by have := h.1; simpa [bytI] using this.symm
    rw [Nat.zero_add, h.cellAt k (by omega)]
    have := hl l[k] (List.getElem_mem hk)
    simp only [bytI, List.getElem?_map, List.getElem?_eq_getElem hk, Option.map_some, bt, List.getD_eq_getElem?_getD, Option.getD_some]
    congr 2
    rw [UInt8.toNat_ofNat_of_lt' (by simp [UInt8.size]; omega)]
    omega⟩
theorem own_num {w : World} {base g n cap : Nat} {l : List Int} (h : w.ownsRow base 3 1 (.slice (some ⟨g, 0, none⟩) n cap) n (ints l)) : Num w w.heap.size (some ⟨g, 0, none⟩) l := fun _ =>
  ⟨g, 0, rfl, (h.lt _ rfl).2, fun k hk => by
    have hn : n = l.length := by have := h.1; simpa [ints] using this.symm
    rw [Nat.zero_add, h.cellAt k (by omega)]
    simp [ints, it, hk]⟩

theorem place_is {l : List UInt8} {B : Nat} {A : Option Addr} {x y : Int} (n c p : Nat) {w : World} (q : Int) (hq : q = p) (hn : n = l.length) (hnc : n ≤ c) (hA : Byt w B A l) (hB : B ≤ w.heap.size) (hm : c ≤ maxLen) (hs : n ≤ 65536) (hp : p ≤ n) (hx : x = 1 + (nlTo l p : Int)) (hy : y = 1 + (colAt l p : Int)) :
    Calls Tryd.prog 18 #[.slice A n c, .int .i64 q] w fun e w' => e = .returned (.tuple #[.int .i64 x, .int .i64 y]) ∧ Below w.heap.size w w' := by
  subst hx; subst hy; subst hq; exact place_in n c p hn hnc hA hB hm hs hp
theorem sameb_is {l m : List UInt8} {B B' : Nat} {A A' : Option Addr} {p : Bool} (n c n' c' : Nat) {w : World} (hn : n = l.length) (hA : Byt w B A l) (hn' : n' = m.length) (hA' : Byt w B' A' m) (hp : p = decide (l = m)) :
    Calls Tryd.prog 22 #[.slice A n c, .slice A' n' c'] w fun e w' => e = .returned (.bool p) ∧ w = w' := hp ▸ sameb_any n c n' c' hn hA hn' hA'
theorem samen_is {l m : List Int} {B B' : Nat} {A A' : Option Addr} {p : Bool} (n c n' c' : Nat) {w : World} (hn : n = l.length) (hA : Num w B A l) (hn' : n' = m.length) (hA' : Num w B' A' m) (hm : n ≤ maxLen) (hm' : n' ≤ maxLen) (hp : p = decide (l = m)) :
    Calls Tryd.prog 14 #[.slice A n c, .slice A' n' c'] w fun e w' => e = .returned (.bool p) ∧ ∃ k, w' = w.drewN k := hp ▸ samen_any n c n' c' hn hA hn' hA' hm hm'

theorem puts_is {l r : List Int} {B : Nat} {A : Option Addr} (n c g N : Nat) {w : World} (hn : n = l.length) (hA : Num w B A l) (hB : B ≤ w.heap.size) (hs : n ≤ 65536) (hH : Heads w) (hz : 1 < w.heap.size) (hr : r = putI l) (hg : g = w.heap.size) (hN : N = r.length) :
    Calls Tryd.prog 21 #[.slice A n c] w fun e w' => e = .returned (.slice (some ⟨g, 0, none⟩) N N) ∧ w'.ownsRow w.heap.size 5 1 (.slice (some ⟨g, 0, none⟩) N N) N (bytI r) ∧ Below w.heap.size w w' := by
  subst hr; subst hg; subst hN; exact puts_any n c hn hA hB hs hH hz
theorem runes_is {l : List UInt8} {r : List Int} {B : Nat} {A : Option Addr} (n c g N : Nat) {w : World} (hn : n = l.length) (hnc : n ≤ c) (hA : Byt w B A l) (hB : B ≤ w.heap.size) (hm : c ≤ maxLen) (hs : n ≤ 65536) (hM : Masks w) (hz : 0 < w.heap.size) (hr : r = rns l) (hg : g = w.heap.size) (hN : N = r.length) :
    Calls Tryd.prog 13 #[.slice A n c] w fun e w' => e = .returned (.slice (some ⟨g, 0, none⟩) N N) ∧ w'.ownsRow w.heap.size 3 1 (.slice (some ⟨g, 0, none⟩) N N) N (ints r) ∧ Below w.heap.size w w' := by
  subst hr; subst hg; subst hN; exact runes_any n c hn hnc hA hB hm hs hM hz

set_option maxHeartbeats 4000000 in
theorem lives_any (w : World) (hM : Masks w) (hH : Heads w) (hz : 1 < w.heap.size) :
    Calls Tryd.prog 9 #[] w fun e w' => e = .returned (.bool true) ∧ Below w.heap.size w w' := by
  have HM := Lib.hid hM
  have HH := Lib.hid hH
  clear hM hH
  go_enter Tryd.func9, Tryd.ntmps9
  go_wp2_with fail
  refine (check_is (l := [195, 169, 65]) (x := 0) (p := true) _ _ rfl (by decide) (byt_new _ _ _ rfl rfl) (by decide) (by unfold chkAt; rw [ex_scn1]; rfl) (by unfold chkOk; rw [ex_scn1]; rfl)).mono ?_
  rintro e w' ⟨rfl, rfl⟩
  go_wp2_with fail
  refine (check_is (l := [65, 195, 65]) (x := 1) (p := false) _ _ rfl (by decide) (byt_new _ _ _ (by simp) rfl) (by decide) (by unfold chkAt; rw [ex_scn2]; rfl) (by unfold chkOk; rw [ex_scn2]; rfl)).mono ?_
  rintro e w' ⟨rfl, rfl⟩
  go_wp2_with fail
  refine (check_is (l := [226, 130]) (x := 0) (p := false) _ _ rfl (by decide) (byt_new _ _ _ (by simp) rfl) (by decide) (by unfold chkAt; rw [ex_scn3]; rfl) (by unfold chkOk; rw [ex_scn3]; rfl)).mono ?_
  rintro e w' ⟨rfl, rfl⟩
  go_wp2_with fail
  refine (place_is (l := [97, 10, 98, 99]) (x := 2) (y := 2) _ _ 3 _ rfl rfl (by decide) (byt_new _ _ _ (by simp) rfl) (by simp) (by decide) (by decide) (by decide) (by decide) (by rw [ex_col]; rfl)).mono ?_
  rintro e w4 ⟨rfl, hb4⟩
  have hb : Below w.heap.size w w4 := ((((((Below.refl _ _).alloc (Nat.le_refl _) _).alloc (by simp) _).alloc (by simp; omega) _).alloc (by simp; omega) _)).trans (hb4.mono (by simp; omega))
  clear hb4
  have hM4 := Lib.hid (HM.out.below hb (by omega))
  have hH4 := Lib.hid (HH.out.below hb (by omega))
  have hz4 : w.heap.size ≤ w4.heap.size := hb.size
  go_wp2_with fail
  refine (puts_is (l := [8364]) (r := [226, 130, 172]) 1 1 (w4.heap.size + 1) 3 rfl (num_new _ _ _ rfl rfl) (by simp) (by decide) (hH4.out.below ((Below.refl w4.heap.size w4).alloc (Nat.le_refl _) _) (by omega)) (by simp; omega) ex_put.symm (by simp) rfl).mono ?_
  rintro e w5 ⟨rfl, hown5, hb5⟩
  have hB5 : Byt w5 w5.heap.size (some ⟨w4.heap.size + 1, 0, none⟩) [226, 130, 172] := own_byt (l := [226, 130, 172]) (by decide) hown5
  have hs5 : w4.heap.size + 1 ≤ w5.heap.size := by have := hb5.size; simp at this; exact this
  replace hb := (hb.alloc hz4 _).trans (hb5.mono (by simp; omega))
  clear hown5 hb5 hM4 hH4
  have hM5 := Lib.hid (HM.out.below hb (by omega))
  go_wp2_with fail
  refine (sameb_is (l := [226, 130, 172]) (m := [226, 130, 172]) (p := true) _ _ _ _ rfl (Lst.alloc hB5 (Nat.le_refl _) _) rfl (byt_new _ _ _ rfl rfl) rfl).mono ?_
  rintro e w6 ⟨rfl, rfl⟩
  clear hB5
  go_wp2_with fail
  have hb6 := (hb.alloc (by omega) (.cells #[.int .u8 226, .int .u8 130, .int .u8 172] 5)).alloc (by simp; omega) (.cells #[.int .u8 65, .int .u8 195, .int .u8 169] 5)
  refine (runes_is (l := [65, 195, 169]) (r := [65, 233]) 3 3 (w5.heap.size + 1 + 1) 2 rfl (by decide) (byt_new _ _ _ (by simp) rfl) (by simp) (by decide) (by decide) (HM.out.below hb6 (by omega)) (by simp) ex_rns.symm (by simp) rfl).mono ?_
  rintro e w7 ⟨rfl, hown7, hb7⟩
  have hB7 : Num w7 w7.heap.size (some ⟨w5.heap.size + 1 + 1, 0, none⟩) [65, 233] := own_num hown7
  have hs7 : w5.heap.size + 1 + 1 ≤ w7.heap.size := by have := hb7.size; simp at this; exact this
  replace hb := hb6.trans (hb7.mono (by simp; omega))
  clear hown7 hb7 hM5 hb6
  go_wp2_with fail
  refine (samen_is (l := [65, 233]) (m := [65, 233]) (p := true) _ _ _ _ rfl (Lst.alloc hB7 (Nat.le_refl _) _) rfl (num_new _ _ _ rfl rfl) (by decide) (by decide) rfl).mono ?_
  rintro e w8 ⟨rfl, k, rfl⟩
  clear hB7
  go_wp2_with fail
  go_ret
  exact ⟨rfl, below_drewN (hb.alloc (by omega) _) k⟩
end Go.Proofs.YtllnnogdpagioaaDoor
