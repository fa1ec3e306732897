/- What landed of values: a map's entries. -/
import Derived.Test.YtnnlgodgaolkkaaGreatDoorHl
namespace Go.Proofs.YtnnlgodgaolkkaaGreatDoor
open Go.RowKit
namespace Va
set_option maxRecDepth 100000

set_option maxHeartbeats 4000000 in
theorem entries_any {ok : Nat → Prop} {t : Bs} {l : List V} {ks : List Bs} {v : Value} (w : World) (hv : Vk w ok v (.mk 8 t l ks)) (hkl : ks.length = l.length) (hnd : ks.Nodup) (hn : ks.length ≤ 1000000) :
    Calls Tryz.prog 55 #[v] w fun e w' => (∃ A c, e = .returned (.slice A ks.length c) ∧ Er w' ok A (entL l ks)) ∧ Below w.heap.size w w' := by
  obtain ⟨i0, hi, hz0, hz1, hz2⟩ := info_parts (show (Tryz.prog.info? 56).map (fun i => (i.zero, i.size, i.bytes)) = some (some (.agg #[.string ⟨#[]⟩, .int .u8 0, .string ⟨#[]⟩, .slice none 0 0, .slice none 0 0]), 5, 88) by kernel_rfl)
  obtain ⟨A, B, c, d, rfl, hk, hV, hK⟩ := hv.invo
  obtain ⟨T, hT⟩ : ∃ T, T = txt t := ⟨_, rfl⟩
  obtain ⟨n, HN⟩ : ∃ n, Hid (n = l.length) := ⟨_, Lib.hid rfl⟩
  obtain ⟨m, HM⟩ : ∃ m, Hid (m = ks.length) := ⟨_, Lib.hid rfl⟩
  rw [← HN.out, ← hT]
  rw [← HM.out] at hn ⊢
  have HMN := Lib.hid (show m = n by rw [HM.out, HN.out, hkl])
  have HK := Lib.hid hK
  have HV := Lib.hid hV
  have HND := Lib.hid hnd
  have HKL := Lib.hid hkl
  clear hK hV hnd hkl hT hv
  obtain ⟨W1, hW1⟩ : ∃ W, W = w.alloc (vO (.int .u8 (8 : Nat)) (.string T) (.slice A n c) (.slice B m d)) := ⟨_, rfl⟩
  have hb1 : Below w.heap.size w W1 := by rw [hW1]; exact below_new ..
  have HX := Lib.hid (show Bx W1 w.heap.size (.int .u8 (8 : Nat)) (.string T) (.slice A n c) (.slice B m d) from by rw [hW1]; exact Bx.new ..)
  have HB1 := Lib.hid hb1
  have HW1 := Lib.hid hW1
  clear hb1 hW1
  go_enter Tryz.func55, Tryz.ntmps55
  go_upto_region 1 with fail
  rw [show (Value.int .u8 8) = .int .u8 ((8 : Nat) : Int) from rfl, ← HW1.out]
  obtain ⟨h, hh⟩ : ∃ h, h = w.heap.size := ⟨_, rfl⟩
  rw [← hh] at HX ⊢
  have HHL := Lib.hid (show w.heap.size ≤ W1.heap.size from HB1.out.size)
  have HHH := Lib.hid hh
  clear HW1 hh
  obtain ⟨x2, x3⟩ : W1.cell? ⟨h, 2, none⟩ = some (.slice A n c) ∧ W1.cell? ⟨h, 3, none⟩ = some (.slice B m d) := ⟨HX.out.c2, HX.out.c3⟩
  go_upto_region 2 with (at_make; refine wpList_make_own _ rfl _ _ 54 rfl W1.heap.size 56 i0 _ 5 Tryz.underlying54 hi hz0 hz1 .i64 .i64 _ m rfl rfl rfl (by rw [hz2]; omega) (by unfold maxLen; omega) (Nat.le_refl _) ?_; intro w1 hown1 hg1)
  have HB2 := Lib.hid (show Below W1.heap.size W1 w1 from (Below.refl _ _).grown hg1 (Nat.le_refl _) (fun _ h => by cases h))
  have y2 := cell_old HB2.out HX.out.lt x2
  have y3 := cell_old HB2.out HX.out.lt x3
  have HOWN := Lib.hid hown1
  obtain ⟨g, hg⟩ : ∃ g, g = W1.heap.size := ⟨_, rfl⟩
  have HX2 := Lib.hid (HX.out.on HB2.out)
  have HHG := Lib.hid (show h < g from by rw [hg]; exact HX.out.lt)
  rw [← hg] at HOWN ⊢
  have HG := Lib.hid hg
  clear hown1 hg1 x2 x3 hg
  go_wp2_with fail
  go_loopw [3, 4, 5, 13] (fun a _ _ i wx => Hid (Below W1.heap.size W1 wx) ∧ ∃ (k : Nat) (L : List En), k ≤ m ∧ i = .int .i64 k ∧ a = .slice (some ⟨g, 0, none⟩) k m ∧ Hid (L.length = k ∧ wx.ownsRow W1.heap.size 56 5 (.slice (some ⟨g, 0, none⟩) k m) k (flatE L) ∧ EW wx (fun q => ok q ∧ q < W1.heap.size) ks l L)) (fun _ _ _ i _ => m - (intOf i).toNat)
  case atStart => exact ⟨HB2, 0, [], Nat.zero_le _, rfl, rfl, Lib.hid ⟨rfl, by rw [← HG.out]; exact HOWN.out, fun i e h => by simp at h⟩⟩
  case round =>
    obtain ⟨HB, k, L, hk9, rfl, rfl, HQ⟩ := hrel
    have X := HX.out.on HB.out
    have z2 := X.c2
    have z3 := X.c3
    clear X y2 y3
    by_cases hlt : k < m
    · obtain ⟨s, hs⟩ := get_lt (l := ks) (i := k) (by rw [← HM.out]; exact hlt)
      obtain ⟨x, hx⟩ := get_lt (l := l) (i := k) (by rw [← HN.out, ← HMN.out]; exact hlt)
      obtain ⟨g1, o1, rfl, hg1, hf1⟩ := HK.out (by rw [← HM.out]; omega)
      obtain ⟨g2, o2, rfl, hg2, _, hf2⟩ := HV.out (by rw [← HN.out, ← HMN.out]; omega)
      obtain ⟨v0, v1, v2, v3, d0, d1, d2, d3, hvm⟩ := hf2 k x hx
      obtain ⟨uk, ut, uA, uB, un, uc, um, ud, rfl, rfl, rfl, rfl⟩ := vshp hvm.vm
      have hbb := below_tr HB1.out HB.out
      have c5 := cell_old hbb hg1 (hf1 k s hs)
      obtain ⟨S, hS⟩ : ∃ S, S = txt s := ⟨_, rfl⟩
      rw [← hS] at c5
      have c0 := cell_old hbb hg2 d0
      have c1 := cell_old hbb hg2 d1
      have c2 := cell_old hbb hg2 d2
      have c3 := cell_old hbb hg2 d3
      have hkn : k < n := by rw [← HMN.out]; exact hlt
      have HE := Lib.hid (show ∀ w2 : World, Below w.heap.size w w2 → ∃ s' x', ks[k]? = some s' ∧ l[k]? = some x' ∧ (En.mk s uk ut uA un uc uB um ud).key = s' ∧ Vk w2 (fun q => ok q ∧ q < W1.heap.size) (En.mk s uk ut uA un uc uB um ud).val x' from fun w2 hb => ⟨s, x, hs, hx, rfl, (Vk.to hvm (fun q hq h9 => ⟨h9, Nat.lt_of_lt_of_le hq HHL.out⟩)).on hb⟩)
      have HSS := Lib.hid hS
      clear hbb hs hx hf1 hf2 d0 d1 d2 d3 hvm hS
      have hown := HQ.out.2.1
      go_upto_region 6 with (at_builtin; refine wpList_append_own_spare _ rfl (.tmp 18) (.tmp 26) 54 rfl W1.heap.size 56 i0 5 Tryz.underlying54 hi hz1 g k m (flatE L) rfl (hown.alloc _) ⟨wr.heap.size, 0, none⟩ 1 1 (En.mk s uk ut uA un uc uB um ud).enc rfl rfl (by have := enc_cells (w := wr) (e := En.mk s uk ut uA un uc uB um ud); rw [show (En.mk s uk ut uA un uc uB um ud).enc.toArray = #[.string (txt s), .int .u8 uk, .string ut, .slice uA un uc, .slice uB um ud] from rfl, ← HSS.out] at this; exact this) (En.one _) (by omega) ?_; intro w2 hown2 hgr2)
      have HB2 := Lib.hid (show Below W1.heap.size W1 w2 from (HB.out.alloc HB.out.size _).grown hgr2 (by have := HB.out.size; simp; omega) (fun _ e => by cases e; rw [HG.out]; exact Nat.le_refl _))
      have hb3 : Below W1.heap.size wr w2 := ((Below.refl _ _).alloc HB.out.size _).grown hgr2 (by have := HB.out.size; simp; omega) (fun _ e => by cases e; rw [HG.out]; exact Nat.le_refl _)
      have HEW := Lib.hid (show (L ++ [En.mk s uk ut uA un uc uB um ud]).length = k + 1 ∧ w2.ownsRow W1.heap.size 56 5 (.slice (some ⟨g, 0, none⟩) (k + 1) m) (k + 1) (flatE (L ++ [En.mk s uk ut uA un uc uB um ud])) ∧ EW w2 (fun q => ok q ∧ q < W1.heap.size) ks l (L ++ [En.mk s uk ut uA un uc uB um ud]) from by
        exact ⟨by rw [List.length_append, HQ.out.1]; rfl, by rw [flatE_app]; exact hown2, (HQ.out.2.2.keep hb3 (fun _ h9 => h9.2)).more HQ.out.1 (HE.out w2 (below_tr HB1.out HB2.out))⟩)
      clear hown2 hgr2 hown HQ hb3 c0 c1 c2 c3 c5
      go_wp2_with fail
      go_roundw
      case rel => exact ⟨HB2, k + 1, _, by omega, by go_num, by first | rfl | trivial, HEW⟩
      case measure => simp [intOf]; omega
    · obtain rfl : k = m := by omega
      have hsz : L.toArray.size = k := by simpa using HQ.out.1
      have hrow : ∃ cur, wr.heap[g]? = some (.cells cur 56 (0, 0)) := by
        rcases HQ.out.2.1.2 with ⟨e, _⟩ | ⟨g', c', cur, e, _, hg', _⟩
        · cases e
        · injection e with e1 _ _; injection e1 with e1; injection e1 with e1 _ _; subst e1
          exact ⟨cur, hg'⟩
      have hlt2 := lt_of_row hrow
      have HROW := Lib.hid hrow
      have hH := own_holdsK HQ.out.2.1 HQ.out.1.symm
      have CS := Lib.hid (AnyQ.slices_SortFunc Tryz.sortEn 5 Tryz.isAgg56 Tryz.sizeOf56 En.enc (fun _ => rfl) (fun x v hv => En.one x v hv) cfE swoE 75 #[] g 0 k L.toArray wr (enters_of Tryz.func75 (by kernel_rfl) rfl) (fun _ _ _ _ x y => byKey_any x y _) hH hlt2 (by rw [hsz]; omega))
      have CS : Hid (Calls Tryz.prog 74 #[.slice (some ⟨g, 0, none⟩) k k, .func (.func 75) #[] #[]] wr fun e w' => e = .returned (.tuple #[]) ∧ ∃ d' n os, Sort.PermIn 0 L.toArray.size L.toArray d' ∧ Sort.SortedIn (ltOf cfE) 0 L.toArray.size d' ∧ w' = sortWorldK En.enc 5 wr g 0 n d' os) := by
        have := CS.out
        rw [hsz] at this ⊢
        exact Lib.hid this
      have HH := Lib.hid hH
      have HLT := Lib.hid hlt2
      clear hsz hlt2 hH hrow
      go_wp2_with fail
      refine CS.out.mono ?_
      rintro e w2 ⟨rfl, d', q, os, hp, hs, rfl⟩
      have hG2 : HoldsK9 (sortWorldK En.enc 5 wr g 0 q d' os) g d' := holdsK_sortWorldK_c En.enc 5 wr g 0 L.toArray d' q os HH.out HLT.out hp.1
      have hB2 : Below W1.heap.size W1 (sortWorldK En.enc 5 wr g 0 q d' os) := HB.out.grown (grown_sortK wr g q d' os) (by have := HB.out.size; omega) (fun _ e => by cases e; rw [HG.out]; exact Nat.le_refl _)
      obtain ⟨w3, hw3⟩ : ∃ w3, w3 = sortWorldK En.enc 5 wr g 0 q d' os := ⟨_, rfl⟩
      rw [← hw3] at hG2 hB2 ⊢
      have hlt3 : ∃ cur, w3.heap[g]? = some (.cells cur 56 (0, 0)) := by
        obtain ⟨cur, h9⟩ := HROW.out
        rw [hw3]; exact heap_sortK d' h9
      have hE3 := HQ.out.2.2.keep (show Below W1.heap.size wr w3 from by rw [hw3]; exact (Below.refl _ _).grown (grown_sortK wr g q d' os) (by have := HB.out.size; omega) (fun _ e => by cases e; rw [HG.out]; exact Nat.le_refl _)) (fun _ h9 => h9.2)
      have HF := Lib.hid (show Er w3 ok (some ⟨g, 0, none⟩) (entL l ks) from fun h0 => by
        obtain ⟨h1, h2⟩ := sorted_row (fun e x => Vk w3 (fun q => ok q ∧ q < W1.heap.size) e.val x) HKL.out HND.out (by rw [HQ.out.1, HM.out]) hE3 hp hs
        refine ⟨g, 0, rfl, hlt3, fun i s x hi => ?_⟩
        obtain ⟨e, a1, a2, a3⟩ := h2 i s x hi
        exact ⟨e, a2, a3.to (fun _ _ h9 => h9.1), fun j u hj => by rw [Nat.zero_add]; exact holds_enc hG2 a1 hj⟩)
      have HB3 := Lib.hid (below_tr HB1.out hB2)
      clear hG2 hB2 hlt3 hE3 hw3 hp hs
      go_wp2_with fail
      go_ret
      exact ⟨⟨_, _, rfl, HF.out⟩, HB3.out⟩
end Va
end Go.Proofs.YtnnlgodgaolkkaaGreatDoor
