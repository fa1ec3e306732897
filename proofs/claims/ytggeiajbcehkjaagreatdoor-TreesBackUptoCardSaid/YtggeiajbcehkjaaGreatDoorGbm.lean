/- What landed of trees: each of a row made into another thing: texts copied; nodes' values. -/
import Derived.Test.YtggeiajbcehkjaaGreatDoorGbl
import Derived.Test.YtggeiajbcehkjaaGreatDoorGbg
namespace Go.Proofs.YtggeiajbcehkjaaGreatDoor
open Go.RowKit
open Va (Bs V v0 Tx Vm Vk Vr vO below_tr below_new heap_alloc_new get_lt vcells vm_zero CP RV RVO TxO RT clone_any own_on cell_eq gb_tr gb_call gb_below cell_old cells_four9)
namespace Tt
set_option maxRecDepth 100000

theorem nilT_eq (w : World) : Sem.run Tryz.prog (binOp .eql 31 (.slice none 0 0) (.slice none 0 0)) w = .ok (.bool true) w := by kernel_rfl
theorem nilT_ne (w : World) (ad : Addr) (n c : Nat) : Sem.run Tryz.prog (binOp .eql 31 (.slice (some ad) n c) (.slice none 0 0)) w = .ok (.bool false) w := by kernel_rfl
theorem nilI_eq (w : World) : Sem.run Tryz.prog (binOp .eql 57 (.slice none 0 0) (.slice none 0 0)) w = .ok (.bool true) w := by kernel_rfl
theorem nilI_ne (w : World) (ad : Addr) (n c : Nat) : Sem.run Tryz.prog (binOp .eql 57 (.slice (some ad) n c) (.slice none 0 0)) w = .ok (.bool false) w := by kernel_rfl
set_option maxHeartbeats 8000000 in
theorem teachT_any {n c : Nat} {A : Option Addr} {ks : List Bs} (w : World) (hK : Tx w A ks) (hn : n = ks.length) (hn9 : n ≤ 1000000) (hA : A = none → c = 0) (hc : n ≤ c) (ht : ∀ t ∈ ks, t.length ≤ 1000000) :
    Calls Tryz.prog 57 #[.slice A n c, .func (.func 54) #[] #[]] w fun e w' => (∃ R d, e = .returned (.slice R n d) ∧ TxO w.heap.size w' R d ks) ∧ Below w.heap.size w w' := by
  obtain ⟨i0, hi, hz0, hz1, hz2⟩ := info_parts (show (Tryz.prog.info? 9).map (fun i => (i.zero, i.size, i.bytes)) = some (some (.string ⟨#[]⟩), 1, 16) by kernel_rfl)
  cases A with
  | none =>
    obtain rfl := hA rfl
    obtain rfl : n = 0 := by omega
    have HE := Lib.hid (show ks = [] from List.eq_nil_of_length_eq_zero hn.symm)
    have hz := fun w => nilT_eq w
    clear hK hn ht
    go_enter Tryz.func57, Tryz.ntmps57
    go_wp2_with fail
    go_ret
    exact ⟨⟨_, _, rfl, .inl ⟨rfl, HE.out, rfl⟩⟩, Below.refl _ _⟩
  | some ad =>
    have HK := Lib.hid hK
    have HN := Lib.hid hn
    have HT := Lib.hid ht
    have hz := fun w => nilT_ne w ad n c
    clear hK hn ht hA
    go_enter Tryz.func57, Tryz.ntmps57
    go_wp2_with (at_make; refine wpList_make_own _ rfl _ _ 31 rfl w.heap.size 9 i0 _ 1 Tryz.underlying31 hi hz0 hz1 .i64 .i64 _ n rfl rfl rfl (by rw [hz2]; omega) (by unfold maxLen; omega) (Nat.le_refl _) ?_; intro w1 hown1 hg1)
    have HB1 := Lib.hid (show Below w.heap.size w w1 from (Below.refl _ _).grown hg1 (Nat.le_refl _) (fun _ h => by cases h))
    have HR1 := Lib.hid (show RT w.heap.size w1 w.heap.size n [] from hown1)
    clear hown1 hg1
    go_loopw [5, 7, 15] (fun a _ i wx => ∃ k : Nat, k ≤ n ∧ i = .int .i64 k ∧ a = .slice (some ⟨w.heap.size, 0, none⟩) k n ∧ Hid (RT w.heap.size wx w.heap.size n (ks.take k) ∧ Below w.heap.size w wx)) (fun _ _ i _ => n - (intOf i).toNat)
    case atStart => exact ⟨0, Nat.zero_le _, rfl, rfl, Lib.hid ⟨by rw [List.take_zero]; exact HR1.out, HB1.out⟩⟩
    case round =>
      obtain ⟨k, hk, rfl, rfl, HQ⟩ := hrel
      by_cases hlt : k < n
      · obtain ⟨t, ht⟩ := get_lt (l := ks) (i := k) (by rw [← HN.out]; exact hlt)
        obtain ⟨g1, o, e1, hg, hf⟩ := HK.out (by rw [← HN.out]; omega)
        injection e1 with e1
        subst e1
        have c5 := (HQ.out.2.cell (p := ⟨g1, o + k, none⟩) hg).trans (hf k t ht)
        obtain ⟨S, hS⟩ : ∃ S, S = txt t := ⟨_, rfl⟩
        rw [← hS] at c5
        have CE := Lib.hid (clone_any (s := S) wr (by rw [hS, txt_size]; exact HT.out t (List.mem_of_getElem? ht)))
        have HE := Lib.hid (show ks.take (k + 1) = ks.take k ++ [t] from by rw [List.take_add_one, ht]; rfl)
        have HS := Lib.hid hS
        clear ht hf hg hS
        go_wp2_with fail
        refine CE.out.mono ?_
        rintro e w2 ⟨rfl, hb⟩
        have HB2 := Lib.hid (below_tr HQ.out.2 hb)
        have hlk : (ks.take k).length = k := by rw [List.length_take, ← HN.out]; omega
        have hown : w2.ownsRow w.heap.size 9 1 (.slice (some ⟨w.heap.size, 0, none⟩) k n) k ((ks.take k).map fun t => .string (txt t)) := by have := HQ.out.1.on hb; unfold RT at this; rw [hlk] at this; exact this
        have HO := Lib.hid hown
        clear hb hown hlk c5
        go_wp2_with (at_builtin; refine wpList_append_own_spare _ rfl (.tmp 19) (.tmp 23) 31 rfl w.heap.size 9 i0 1 Tryz.underlying31 hi hz1 w.heap.size k n ((ks.take k).map fun t => .string (txt t)) rfl (HO.out.alloc _) ⟨w2.heap.size, 0, none⟩ 1 1 [.string S] rfl rfl (by intro j u hj; match j, hj with | 0, hj => (obtain rfl : Value.string S = u := by simpa using hj); rw [addAt]; exact Va.cell_fst1 .. | j + 1, hj => simp at hj) (by intro u hu; obtain rfl : u = .string S := (by simpa using hu); rfl) (by omega) ?_; intro w3 hown3 hgr3)
        go_roundw
        case rel =>
          refine ⟨k + 1, by omega, by go_num, by first | rfl | trivial, Lib.hid ⟨?_, ?_⟩⟩
          · unfold RT
            rw [HE.out, List.length_append, List.length_take, ← HN.out, Nat.min_eq_left hk, List.map_append, show ([t].map fun t => Value.string (txt t)) = [.string S] from by rw [HS.out]; rfl]
            exact hown3
          · exact (below_tr HB2.out (below_new ..)).grown hgr3 (by have := HB2.out.size; have := s1 w2 (.cells #[.string S] 9); omega) (fun g e => by cases e; exact Nat.le_refl _)
        case measure => simp [intOf]; omega
      · obtain rfl : k = n := by omega
        have HE := Lib.hid (show ks.take k = ks from List.take_of_length_le (by rw [← HN.out]; omega))
        go_wp2_with fail
        go_ret
        exact ⟨⟨_, _, rfl, .inr ⟨_, rfl, HN.out, by rw [← HN.out, ← HE.out]; exact HQ.out.1⟩⟩, HQ.out.2⟩
set_option maxHeartbeats 8000000 in
theorem teachV_any {N n c q : Nat} {A : Option Addr} {L : List Int} {Y : List V} (w : World) (hK : Ix w A L) (hn : n = L.length) (hY : Y.length = n) (hn9 : n ≤ 1000000) (hA : A = none → c = 0) (hc : n ≤ c)
    (C : ∀ (i : Nat) (s : Int) (x : V) (w' : World), L[i]? = some s → Y[i]? = some x → Below w.heap.size w w' → Calls Tryz.prog 56 #[.int .i64 s, .pointer (some ⟨q, 0, none⟩)] w' fun e w'' => (∃ u, e = .returned u ∧ CP N w'.heap.size w'' u x) ∧ Below w'.heap.size w' w'') :
    Calls Tryz.prog 55 #[.slice A n c, .func (.func 56) #[] #[.pointer (some ⟨q, 0, none⟩)]] w fun e w' => (∃ R d, e = .returned (.slice R n d) ∧ RVO N w.heap.size w' R d Y) ∧ Below w.heap.size w w' := by
  obtain ⟨i0, hi, hz0, hz1, hz2⟩ := info_parts (show (Tryz.prog.info? 33).map (fun i => (i.zero, i.size, i.bytes)) = some (some (.agg #[.int .u8 0, .string ⟨#[]⟩, .slice none 0 0, .slice none 0 0]), 4, 72) by kernel_rfl)
  cases A with
  | none =>
    obtain rfl := hA rfl
    obtain rfl : n = 0 := by omega
    have HE := Lib.hid (show Y = [] from List.eq_nil_of_length_eq_zero hY)
    have hz := fun w => nilI_eq w
    clear hK hn C hY
    go_enter Tryz.func55, Tryz.ntmps55
    go_wp2_with fail
    go_ret
    exact ⟨⟨_, _, rfl, .inl ⟨rfl, HE.out, rfl⟩⟩, Below.refl _ _⟩
  | some ad =>
    have HK := Lib.hid hK
    have HN := Lib.hid hn
    have HC := Lib.hid C
    have HY := Lib.hid hY
    have hz := fun w => nilI_ne w ad n c
    clear hK hn C hA hY
    go_enter Tryz.func55, Tryz.ntmps55
    go_wp2_with (at_make; refine wpList_make_own _ rfl _ _ 30 rfl w.heap.size 33 i0 _ 4 Tryz.underlying30 hi hz0 hz1 .i64 .i64 _ n rfl rfl rfl (by rw [hz2]; omega) (by unfold maxLen; omega) (Nat.le_refl _) ?_; intro w1 hown1 hg1)
    have HB1 := Lib.hid (show Below w.heap.size w w1 from (Below.refl _ _).grown hg1 (Nat.le_refl _) (fun _ h => by cases h))
    have HS1 := Lib.hid (show w.heap.size + 1 ≤ w1.heap.size from (hown1.lt _ rfl).2)
    have HR1 := Lib.hid (show Va.RV N w.heap.size (w.heap.size + 1) w1 w.heap.size n [] from ⟨[], hown1, fun _ _ => False, fun i x h => by simp at h⟩)
    clear hown1 hg1
    go_loopw [5, 7, 15] (fun a _ i wx => ∃ k : Nat, k ≤ n ∧ i = .int .i64 k ∧ a = .slice (some ⟨w.heap.size, 0, none⟩) k n ∧ Hid (Va.RV N w.heap.size (w.heap.size + 1) wx w.heap.size n (Y.take k) ∧ Below w.heap.size w wx ∧ w.heap.size + 1 ≤ wx.heap.size)) (fun _ _ i _ => n - (intOf i).toNat)
    case atStart => exact ⟨0, Nat.zero_le _, rfl, rfl, Lib.hid ⟨by rw [List.take_zero]; exact HR1.out, HB1.out, HS1.out⟩⟩
    case round =>
      obtain ⟨k, hk, rfl, rfl, HQ⟩ := hrel
      by_cases hlt : k < n
      · obtain ⟨s, hs⟩ := get_lt (l := L) (i := k) (by rw [← HN.out]; exact hlt)
        obtain ⟨x, hx⟩ := get_lt (l := Y) (i := k) (by rw [HY.out]; exact hlt)
        obtain ⟨g1, o, e1, hg, hf⟩ := HK.out (by rw [← HN.out]; omega)
        injection e1 with e1
        subst e1
        have c5 := (HQ.out.2.1.cell (p := ⟨g1, o + k, none⟩) hg).trans (hf k s hs).1
        have CE := Lib.hid (HC.out k s x wr hs hx HQ.out.2.1)
        have HE := Lib.hid (show Y.take (k + 1) = Y.take k ++ [x] from by rw [List.take_add_one, hx]; rfl)
        clear hs hx hf hg
        go_wp2_with fail
        refine CE.out.mono ?_
        rintro e w2 ⟨⟨u, rfl, hu⟩, hb⟩
        have HB2 := Lib.hid (below_tr HQ.out.2.1 hb)
        obtain ⟨ok, h1, h2, h3⟩ := hu
        obtain ⟨uk, ut, uA, uB, un, uc, um, ud, rfl⟩ := h2.shape
        have HU := Lib.hid (And.intro h1 (And.intro h2 h3))
        have hlk : (Y.take k).length = k := by rw [List.length_take, HY.out]; omega
        have HLK := Lib.hid hlk
        obtain ⟨xs, ho, oks, h9⟩ := HQ.out.1
        rw [hlk] at ho
        have HO := Lib.hid (show w2.ownsRow w.heap.size 33 4 (.slice (some ⟨w.heap.size, 0, none⟩) k n) k xs from own_on ho fun k hk => hb.block k (ho.lt k hk).2)
        have HXL := Lib.hid (show xs.length = (Y.take k).length * 4 from by rw [hlk]; exact ho.1)
        have HOK := Lib.hid (show ∃ oks : Nat → Nat → Prop, ∀ i x, (Y.take k)[i]? = some x → (∃ a b c d, xs[i * 4]? = some a ∧ xs[i * 4 + 1]? = some b ∧ xs[i * 4 + 2]? = some c ∧ xs[i * 4 + 3]? = some d ∧ Vk w2 (oks i) (.agg #[a, b, c, d]) x ∧ Va.Vp N w2 (oks i) (.agg #[a, b, c, d])) ∧ ∀ q, oks i q → w.heap.size + 1 ≤ q ∧ q < wr.heap.size ∧ ∀ j, j < (Y.take k).length → j ≠ i → ¬ oks j q from ⟨oks, fun i x hi => by
          obtain ⟨⟨a, b, c, d, e0, e1, e2, e3, hv, hp⟩, h3⟩ := h9 i x hi
          exact ⟨⟨a, b, c, d, e0, e1, e2, e3, hv.on hb, hp.keep (fun g _ hg => hb.block g hg) hb.size⟩, h3⟩⟩)
        have HSS := Lib.hid hb.size
        clear ho h9 h1 h2 h3 hb hlk c5
        go_wp2_with (at_builtin; refine wpList_append_own_spare _ rfl (.tmp 19) (.tmp 23) 30 rfl w.heap.size 33 i0 4 Tryz.underlying30 hi hz1 w.heap.size k n xs rfl (HO.out.alloc _) ⟨w2.heap.size, 0, none⟩ 1 1 [.int .u8 uk, .string ut, .slice uA un uc, .slice uB um ud] rfl rfl (cells_four9 _ _ _ _ _ _) (by intro u hu; simp at hu; rcases hu with rfl | rfl | rfl | rfl <;> rfl) (by omega) ?_; intro w3 hown3 hgr3)
        have hgr := gb_tr (gb_call w.heap.size (below_new w2 (.cells #[.int .u8 uk, .string ut, .slice uA un uc, .slice uB um ud] 33))) hgr3
        have HR3 := Lib.hid (Va.RV.more HOK.out HSS.out HQ.out.2.2 (Nat.lt_succ_self _) hgr HXL.out (by rw [HLK.out]; exact hown3) HU.out.1 HU.out.2.1 HU.out.2.2)
        have HB3 := Lib.hid (show Below w.heap.size w w3 ∧ w.heap.size + 1 ≤ w3.heap.size from ⟨HB2.out.trans (gb_below hgr (Nat.le_refl _) HB2.out.size), by have := hgr.size; have := HSS.out; have := HQ.out.2.2; omega⟩)
        clear hgr hgr3 hown3
        go_roundw
        case rel => exact ⟨k + 1, by omega, by go_num, by first | rfl | trivial, Lib.hid ⟨by rw [HE.out]; exact HR3.out, HB3.out⟩⟩
        case measure => simp [intOf]; omega
      · obtain rfl : k = n := by omega
        have HE := Lib.hid (show Y.take k = Y from List.take_of_length_le (by rw [HY.out]; omega))
        go_wp2_with fail
        go_ret
        exact ⟨⟨_, _, rfl, .inr ⟨_, rfl, HY.out.symm, by rw [HY.out]; rw [← HE.out]; exact HQ.out.1⟩⟩, HQ.out.2.1⟩
end Tt
end Go.Proofs.YtggeiajbcehkjaaGreatDoor
/- What landed of trees: the value of a node, in new memory. -/
namespace Go.Proofs.YtggeiajbcehkjaaGreatDoor
open Go.RowKit
open Va (Bs V v0 Tx Vm Vk Vr vO below_tr below_new heap_alloc_new get_lt vcells vm_zero CP RV RVO TxO RT clone_any own_on cell_eq gb_tr gb_call gb_below cell_old cells_four9 own_value)
namespace Tt
set_option maxRecDepth 100000

theorem cp_keep {N lo : Nat} {w w' : World} {u : Value} {x : V} (h : CP N lo w u x) (hb : ∀ g, lo ≤ g → g < w.heap.size → w'.heap[g]? = w.heap[g]?) (hs : w.heap.size ≤ w'.heap.size) : CP N lo w' u x := by
  obtain ⟨ok, h1, h2, h3⟩ := h
  exact ⟨ok, h1.keep (fun g hg hl => hb g (h3 g hg).1 hl) hs, h2.keep (fun g hg hl => hb g (h3 g hg).1 hl) hs, fun g hg => ⟨(h3 g hg).1, Nat.lt_of_lt_of_le (h3 g hg).2 hs⟩⟩
theorem cp_lo {N lo lo' : Nat} {w : World} {u : Value} {x : V} (h : CP N lo w u x) (hl : lo' ≤ lo) : CP N lo' w u x := by
  obtain ⟨ok, h1, h2, h3⟩ := h
  exact ⟨ok, h1, h2, fun g hg => ⟨Nat.le_trans hl (h3 g hg).1, (h3 g hg).2⟩⟩
set_option maxHeartbeats 4000000 in
theorem val1_any {N q : Nat} {s r : Int} {x : V} {sv : Value} (w : World) (hq : w.heap[q]? = some (tO sv (.int .i64 r)))
    (C : ∀ w' : World, Below w.heap.size w w' → Calls Tryz.prog 36 #[.agg #[sv, .int .i64 r], .int .i64 s] w' fun e w'' => (∃ u, e = .returned u ∧ CP N w'.heap.size w'' u x) ∧ Below w'.heap.size w' w'') :
    Calls Tryz.prog 56 #[.int .i64 s, .pointer (some ⟨q, 0, none⟩)] w fun e w' => (∃ u, e = .returned u ∧ CP N w.heap.size w' u x) ∧ Below w.heap.size w w' := by
  obtain ⟨W1, hW1⟩ : ∃ W, W = w.alloc (vO (.int .u8 0) (.string ⟨#[]⟩) (.slice none 0 0) (.slice none 0 0)) := ⟨_, rfl⟩
  have hb1 : Below w.heap.size w W1 := by rw [hW1]; exact below_new ..
  have hql := (Array.getElem?_eq_some_iff.1 hq).1
  have q1 : W1.heap[q]? = some (tO sv (.int .i64 r)) := (hb1.block q hql).trans hq
  have p1 : W1.heap[w.heap.size]? = some (vO (.int .u8 0) (.string ⟨#[]⟩) (.slice none 0 0) (.slice none 0 0)) := by rw [hW1]; exact heap_alloc_new ..
  have z1 : W1.heap.size = w.heap.size + 1 := by rw [hW1, s1]
  have HC := Lib.hid (C W1 hb1)
  have HB1 := Lib.hid hb1
  have HP1 := Lib.hid p1
  have HZ := Lib.hid z1
  have c0 : W1.cell? ⟨q, 0, none⟩ = some sv := by simp [World.cell?, q1]
  have c1 : W1.cell? ⟨q, 1, none⟩ = some (.int .i64 r) := by simp [World.cell?, q1]
  have HW1 := Lib.hid hW1
  clear C hq hb1 q1 p1 z1 hW1 hql
  go_enter Tryz.func56, Tryz.ntmps56
  go_upto_region 1 with fail
  rw [← HW1.out]
  obtain ⟨P, hP⟩ : ∃ P, P = w.heap.size := ⟨_, rfl⟩
  rw [← hP] at HP1 HZ
  try rw [← hP]
  have HPP := Lib.hid hP
  clear HW1 hP
  go_wp2_with fail
  refine HC.out.mono ?_
  rintro e w2 ⟨⟨u, rfl, hu⟩, hb⟩
  obtain ⟨ok, a1, a2, a3⟩ := hu
  obtain ⟨pk, pt, pA, pB, pn, pc, pm, pd, rfl⟩ := a2.shape
  have HU := Lib.hid (show CP N W1.heap.size w2 _ x from ⟨ok, a1, a2, a3⟩)
  have HP2 := Lib.hid (show w2.heap[P]? = some (vO (.int .u8 0) (.string ⟨#[]⟩) (.slice none 0 0) (.slice none 0 0)) from (hb.block P (Array.getElem?_eq_some_iff.1 HP1.out).1).trans HP1.out)
  have HB2 := Lib.hid (below_tr HB1.out hb)
  clear a1 a2 a3 hb c0 c1
  obtain ⟨⟨r0, r1, r2, r3⟩, t0, t1, t2, t3⟩ := vcells HP2.out
  go_wp2_with fail
  have hle : w.heap.size ≤ P := Nat.le_of_eq HPP.out.symm
  have hkeep : ∀ g, g ≠ P → ((((w2.setCell ⟨P, 0, none⟩ (.int .u8 pk)).setCell ⟨P, 1, none⟩ (.string pt)).setCell ⟨P, 2, none⟩ (.slice pA pn pc)).setCell ⟨P, 3, none⟩ (.slice pB pm pd)).heap[g]? = w2.heap[g]? := fun g hg => by
    rw [Go.RowKit.Below.heap_setCell _ _ _ _ hg, Go.RowKit.Below.heap_setCell _ _ _ _ hg, Go.RowKit.Below.heap_setCell _ _ _ _ hg, Go.RowKit.Below.heap_setCell _ _ _ _ hg]
  have hB9 : Below w.heap.size w ((((w2.setCell ⟨P, 0, none⟩ (.int .u8 pk)).setCell ⟨P, 1, none⟩ (.string pt)).setCell ⟨P, 2, none⟩ (.slice pA pn pc)).setCell ⟨P, 3, none⟩ (.slice pB pm pd)) :=
    (((HB2.out.setCell (p := ⟨P, 0, none⟩) hle _).setCell (p := ⟨P, 1, none⟩) hle _).setCell (p := ⟨P, 2, none⟩) hle _).setCell (p := ⟨P, 3, none⟩) hle _
  refine bodyPost_ret (v := .agg #[.int .u8 pk, .string pt, .slice pA pn pc, .slice pB pm pd]) (by simp [results, Tryz.results56, go_sem, *]) rfl ?_
  have hz := HZ.out
  exact ⟨⟨_, rfl, cp_lo (cp_keep HU.out (fun g h1 _ => hkeep g (by omega)) (by simp)) (by omega)⟩, hB9⟩
set_option maxHeartbeats 16000000 in
theorem tval_step {t : Tr} {i N : Nat} {x : Nd} {Y : List V} (hx : t.nodes[i]? = some x) (hY : Y.length = x.subs.length) (hx5 : wN x ≤ 1000000) (hn5 : t.nodes.length ≤ 1000000)
    (IH : ∀ (j : Nat) (s : Int) (y : V), x.subs[j]? = some s → Y[j]? = some y → ∀ (w : World) (v : Value), Tm w v t → Calls Tryz.prog 36 #[v, .int .i64 s] w fun e w' => (∃ u, e = .returned u ∧ CP N w.heap.size w' u y) ∧ Below w.heap.size w w')
    (w : World) (v : Value) (hv : Tm w v t) :
    Calls Tryz.prog 36 #[v, .int .i64 (i : Nat)] w fun e w' => (∃ u, e = .returned u ∧ CP (N + 1) w.heap.size w' u (.mk x.kind x.text Y x.keys)) ∧ Below w.heap.size w w' := by
  have HV := Lib.hid hv
  obtain ⟨A, c, rfl, hc1, hc2, hc3, hr, hN⟩ := hv
  have hi := (List.getElem?_eq_some_iff.1 hx).1
  obtain ⟨g, o, rfl, hg, hf⟩ := hN (by omega)
  obtain ⟨K, S, U, a, b, d, hcell, hNr⟩ := hf i x hx
  have n0 := hcell 0 _ rfl
  have n1 := hcell 1 _ rfl
  have n2 := hcell 2 _ rfl
  have n3 := hcell 3 _ rfl
  have n4 := hcell 4 _ rfl
  have n5 := hcell 5 _ rfl
  have n6 := hcell 6 _ rfl
  rw [Nat.add_zero] at n0
  obtain ⟨T, hT⟩ : ∃ T, T = txt x.text := ⟨_, rfl⟩
  obtain ⟨n, HN⟩ : ∃ n, Hid (n = t.nodes.length) := ⟨_, Lib.hid rfl⟩
  obtain ⟨kl, HK⟩ : ∃ n, Hid (n = x.keys.length) := ⟨_, Lib.hid rfl⟩
  obtain ⟨sl, HS⟩ : ∃ n, Hid (n = x.spots.length) := ⟨_, Lib.hid rfl⟩
  obtain ⟨ul, HU⟩ : ∃ n, Hid (n = x.subs.length) := ⟨_, Lib.hid rfl⟩
  obtain ⟨k, HKD⟩ : ∃ n, Hid (n = x.kind) := ⟨_, Lib.hid rfl⟩
  obtain ⟨p, HP⟩ : ∃ p, Hid (p = x.span.1) := ⟨_, Lib.hid rfl⟩
  obtain ⟨q, HQ⟩ : ∃ p, Hid (p = x.span.2) := ⟨_, Lib.hid rfl⟩
  obtain ⟨r, HR⟩ : ∃ p, Hid (p = t.root) := ⟨_, Lib.hid rfl⟩
  rw [← hT] at n1
  rw [← HKD.out] at n0
  rw [← HK.out] at n2
  rw [← HS.out] at n3
  rw [← HU.out] at n4
  rw [← HP.out] at n5
  rw [← HQ.out] at n6
  rw [← HN.out] at HV hi hc1 hn5 ⊢
  rw [← HR.out] at HV hr ⊢
  have hkl5 : kl ≤ 1000000 := by rw [HK.out]; unfold wN at hx5; omega
  have hul5 : ul ≤ 1000000 := by rw [HU.out]; unfold wN at hx5; omega
  have HTL := Lib.hid (show x.text.length ≤ 1000000 ∧ ∀ s ∈ x.keys, s.length ≤ 1000000 from by
    unfold wN at hx5
    refine ⟨by omega, fun s hs => ?_⟩
    obtain ⟨i, hi, e⟩ := List.getElem_of_mem hs
    have h2 := Va.kw_drop (ks := x.keys) (i := i) (t := s) (by rw [List.getElem?_eq_getElem hi, e])
    have h3 := Va.kw_app (x.keys.take i) (x.keys.drop i)
    rw [List.take_append_drop] at h3
    omega)
  have HNR := Lib.hid hNr
  have HIH := Lib.hid IH
  have HTX := Lib.hid hT
  have HYL := Lib.hid hY
  clear hN hf hcell hNr IH hT hY hx hx5
  obtain ⟨h, hh⟩ : ∃ h, h = w.heap.size := ⟨_, rfl⟩
  obtain ⟨W3, hW3⟩ : ∃ W, W = ((w.alloc (tO (.slice (some ⟨g, o, none⟩) n c) (.int .i64 r))).alloc (vO (.int .u8 0) (.string ⟨#[]⟩) (.slice none 0 0) (.slice none 0 0))).alloc (nO [.int .u8 k, .string T, .slice K kl a, .slice S sl b, .slice U ul d, .int .i64 p, .int .i64 q]) := ⟨_, rfl⟩
  have F3 : Below w.heap.size w W3 ∧ W3.heap.size = h + 3 ∧ W3.heap[h]? = some (tO (.slice (some ⟨g, o, none⟩) n c) (.int .i64 r)) ∧ W3.heap[h + 1]? = some (vO (.int .u8 0) (.string ⟨#[]⟩) (.slice none 0 0) (.slice none 0 0)) ∧ W3.heap[h + 2]? = some (nO [.int .u8 k, .string T, .slice K kl a, .slice S sl b, .slice U ul d, .int .i64 p, .int .i64 q]) := by
    have o1 : ∀ (W : World) (o : Obj) (g : Nat), g < W.heap.size → (W.alloc o).heap[g]? = W.heap[g]? := fun W o g hg => by show (W.heap.push o)[g]? = _; rw [Array.getElem?_push_lt hg, Array.getElem?_eq_getElem hg]
    rw [hh, hW3]
    refine ⟨((Below.refl _ _).alloc (Nat.le_refl _) _ |>.alloc (by rw [s1]; omega) _).alloc (by rw [s1, s1]; omega) _, by rw [s1, s1, s1], ?_, ?_, ?_⟩
    · rw [o1 _ _ _ (by rw [s1, s1]; omega), o1 _ _ _ (by rw [s1]; omega)]; exact heap_alloc_new ..
    · rw [o1 _ _ _ (by rw [s1, s1]; omega)]
      have := heap_alloc_new (w.alloc (tO (.slice (some ⟨g, o, none⟩) n c) (.int .i64 r))) (vO (.int .u8 0) (.string ⟨#[]⟩) (.slice none 0 0) (.slice none 0 0))
      rw [s1] at this; exact this
    · have := heap_alloc_new ((w.alloc (tO (.slice (some ⟨g, o, none⟩) n c) (.int .i64 r))).alloc (vO (.int .u8 0) (.string ⟨#[]⟩) (.slice none 0 0) (.slice none 0 0))) (nO [.int .u8 k, .string T, .slice K kl a, .slice S sl b, .slice U ul d, .int .i64 p, .int .i64 q])
      rw [s1, s1] at this; exact this
  have HF3 := Lib.hid F3
  have HW3 := Lib.hid hW3
  clear F3 hW3
  go_enter Tryz.func36, Tryz.ntmps36
  go_upto_region 2 with fail
  rw [← HW3.out, ← hh]
  have HH := Lib.hid hh
  clear HW3 hh n0 n1 n2 n3 n4 n5 n6 hg
  have HKA := Lib.hid HNR.out.ka
  have HUA := Lib.hid HNR.out.uc
  rw [← HK.out] at HKA
  rw [← HU.out] at HUA
  have CL := Lib.hid (fun (X : World) => clone_any (s := T) X (by rw [HTX.out, txt_size]; exact HTL.out.1))
  have CV := Lib.hid (fun (X : World) (hX : Below W3.heap.size W3 X) => teachV_any (N := N) (q := h) (c := d) (Y := Y) X (HNR.out.subs.on (below_tr HF3.out.1 hX)) HU.out (HYL.out.trans HU.out.symm) hul5 HUA.out.2.2 HUA.out.1 (fun j s y w' hs hy hb => val1_any w' (sv := .slice (some ⟨g, o, none⟩) n c) (r := r) (by
    have hX2 := below_tr hX hb
    rw [hX2.block h (by have := HF3.out.2.1; omega)]; exact HF3.out.2.2.1) (fun w2 hb2 => HIH.out j s y hs hy w2 _ (HV.out.on (below_tr (below_tr HF3.out.1 (below_tr hX hb)) hb2)))))
  have CT := Lib.hid (fun (X : World) (hX : Below W3.heap.size W3 X) => teachT_any (n := kl) (c := a) X (HNR.out.keys.on (below_tr HF3.out.1 hX)) HK.out hkl5 HKA.out.2.2 HKA.out.1 HTL.out.2)
  have SC := Lib.hid (fun (X : World) (h1 : Below W3.heap.size W3 X) => show X.cell? ⟨h + 1 + 1, 0, none⟩ = some (.int .u8 k) ∧ X.cell? ⟨h + 1 + 1, 1, none⟩ = some (.string T) ∧ X.cell? ⟨h + 1 + 1, 2, none⟩ = some (.slice K kl a) ∧ X.cell? ⟨h + 1 + 1, 4, none⟩ = some (.slice U ul d) from by
    have e : X.heap[h + 1 + 1]? = some (nO [.int .u8 k, .string T, .slice K kl a, .slice S sl b, .slice U ul d, .int .i64 p, .int .i64 q]) := by rw [h1.block _ (by have := HF3.out.2.1; omega)]; exact HF3.out.2.2.2.2
    exact ⟨by simp [World.cell?, e], by simp [World.cell?, e], by simp [World.cell?, e], by simp [World.cell?, e]⟩)
  have S0 := Lib.hid (show Below W3.heap.size W3 W3.drew from (Below.refl _ _).drew)
  have ZP := Lib.hid (fun (X : World) (h1 : Below W3.heap.size W3 X) => show X.heap[h + 1]? = some (vO (.int .u8 0) (.string ⟨#[]⟩) (.slice none 0 0) (.slice none 0 0)) from by rw [h1.block _ (by have := HF3.out.2.1; omega)]; exact HF3.out.2.2.2.1)
  have S4 := Lib.hid (fun (X : World) (a1 b1 c1 d1 : Value) (h1 : X.cell? ⟨h + 1 + 1, 0, none⟩ = some (.int .u8 k) ∧ X.cell? ⟨h + 1 + 1, 1, none⟩ = some (.string T) ∧ X.cell? ⟨h + 1 + 1, 2, none⟩ = some (.slice K kl a) ∧ X.cell? ⟨h + 1 + 1, 4, none⟩ = some (.slice U ul d)) => show ((((X.setCell ⟨h + 1, 0, none⟩ a1).setCell ⟨h + 1, 1, none⟩ b1).setCell ⟨h + 1, 2, none⟩ c1).setCell ⟨h + 1, 3, none⟩ d1).cell? ⟨h + 1 + 1, 0, none⟩ = some (.int .u8 k) ∧ ((((X.setCell ⟨h + 1, 0, none⟩ a1).setCell ⟨h + 1, 1, none⟩ b1).setCell ⟨h + 1, 2, none⟩ c1).setCell ⟨h + 1, 3, none⟩ d1).cell? ⟨h + 1 + 1, 1, none⟩ = some (.string T) ∧ ((((X.setCell ⟨h + 1, 0, none⟩ a1).setCell ⟨h + 1, 1, none⟩ b1).setCell ⟨h + 1, 2, none⟩ c1).setCell ⟨h + 1, 3, none⟩ d1).cell? ⟨h + 1 + 1, 2, none⟩ = some (.slice K kl a) ∧ ((((X.setCell ⟨h + 1, 0, none⟩ a1).setCell ⟨h + 1, 1, none⟩ b1).setCell ⟨h + 1, 2, none⟩ c1).setCell ⟨h + 1, 3, none⟩ d1).cell? ⟨h + 1 + 1, 4, none⟩ = some (.slice U ul d) from by
    have hk : ∀ j, ((((X.setCell ⟨h + 1, 0, none⟩ a1).setCell ⟨h + 1, 1, none⟩ b1).setCell ⟨h + 1, 2, none⟩ c1).setCell ⟨h + 1, 3, none⟩ d1).cell? ⟨h + 1 + 1, j, none⟩ = X.cell? ⟨h + 1 + 1, j, none⟩ := fun j => by
      have e : ((((X.setCell ⟨h + 1, 0, none⟩ a1).setCell ⟨h + 1, 1, none⟩ b1).setCell ⟨h + 1, 2, none⟩ c1).setCell ⟨h + 1, 3, none⟩ d1).heap[h + 1 + 1]? = X.heap[h + 1 + 1]? := by
        rw [Go.RowKit.Below.heap_setCell _ _ _ _ (show h + 1 + 1 ≠ h + 1 by omega), Go.RowKit.Below.heap_setCell _ _ _ _ (show h + 1 + 1 ≠ h + 1 by omega), Go.RowKit.Below.heap_setCell _ _ _ _ (show h + 1 + 1 ≠ h + 1 by omega), Go.RowKit.Below.heap_setCell _ _ _ _ (show h + 1 + 1 ≠ h + 1 by omega)]
      unfold World.cell?; rw [e]
    exact ⟨(hk _).trans h1.1, (hk _).trans h1.2.1, (hk _).trans h1.2.2.1, (hk _).trans h1.2.2.2⟩)
  go_region_held_law (fun X => X.cell? ⟨h + 1 + 1, 0, none⟩ = some (.int .u8 k) ∧ X.cell? ⟨h + 1 + 1, 1, none⟩ = some (.string T) ∧ X.cell? ⟨h + 1 + 1, 2, none⟩ = some (.slice K kl a) ∧ X.cell? ⟨h + 1 + 1, 4, none⟩ = some (.slice U ul d))
    (first | exact SC.out _ S0.out | exact SC.out _ HB4.out | exact SC.out _ HB5.out | exact SC.out _ HB6.out | exact S4.out _ _ _ _ _ (SC.out _ HB6.out))
    (first
      | (go_simp; go_at_call 54; refine (CL.out _).mono ?_; rintro e w4 ⟨rfl, hb4⟩; have HB4 := Lib.hid (below_tr S0.out hb4); clear hb4)
      | (go_simp; go_at_call 55; refine (CV.out _ HB4.out).mono ?_; rintro e w5 ⟨⟨R5, c5, rfl, hR5⟩, hb5⟩; have HR5 := Lib.hid hR5; have HB5 := Lib.hid (below_tr HB4.out hb5); have HBX := Lib.hid hb5; clear hb5 hR5)
      | (go_simp; go_at_call 57; refine (CT.out _ HB5.out).mono ?_; rintro e w6 ⟨⟨K6, c6, rfl, hK6⟩, hb6⟩; have HK6 := Lib.hid hK6; have HB6 := Lib.hid (below_tr HB5.out hb6); have HBY := Lib.hid hb6; clear hb6 hK6; obtain ⟨⟨r0, r1, r2, r3⟩, t0, t1, t2, t3⟩ := vcells (ZP.out w6 HB6.out)))
  all_goals
    have W9 := Lib.hid (show ∀ g, g ≠ h + 1 → ((((w6.setCell ⟨h + 1, 0, none⟩ (.int .u8 k)).setCell ⟨h + 1, 1, none⟩ (.string T)).setCell ⟨h + 1, 2, none⟩ (.slice R5 ul c5)).setCell ⟨h + 1, 3, none⟩ (.slice K6 kl c6)).heap[g]? = w6.heap[g]? from fun g hg => by
      rw [Go.RowKit.Below.heap_setCell _ _ _ _ hg, Go.RowKit.Below.heap_setCell _ _ _ _ hg, Go.RowKit.Below.heap_setCell _ _ _ _ hg, Go.RowKit.Below.heap_setCell _ _ _ _ hg])
    have hle : w.heap.size ≤ h + 1 := by have := HH.out; omega
    have hB9 := Lib.hid (show Below w.heap.size w ((((w6.setCell ⟨h + 1, 0, none⟩ (.int .u8 k)).setCell ⟨h + 1, 1, none⟩ (.string T)).setCell ⟨h + 1, 2, none⟩ (.slice R5 ul c5)).setCell ⟨h + 1, 3, none⟩ (.slice K6 kl c6)) from
      ((((below_tr HF3.out.1 HB6.out).setCell (p := ⟨h + 1, 0, none⟩) hle _).setCell (p := ⟨h + 1, 1, none⟩) hle _).setCell (p := ⟨h + 1, 2, none⟩) hle _).setCell (p := ⟨h + 1, 3, none⟩) hle _)
    clear CL CV CT SC S0 ZP S4 hle
    go_wp2_with fail
    refine bodyPost_ret (v := .agg #[.int .u8 k, .string T, .slice R5 ul c5, .slice K6 kl c6]) (by simp [results, Tryz.results36, go_sem, *]) rfl ?_
    refine ⟨⟨_, rfl, ?_⟩, hB9.out⟩
    have z3 := HF3.out.2.1
    have zh := HH.out
    have z4 := HB4.out.size
    have z5 := HBX.out.size
    have z6 := HBY.out.size
    have := own_value (N := N) (t := x.text) (k := k) (l := Y) (ks := x.keys) (by rw [HKD.out]; exact HNR.out.k) (by rw [HYL.out, ← HU.out]; exact hul5) (by rw [← HK.out]; exact hkl5) HR5.out (w := (((w6.setCell ⟨h + 1, 0, none⟩ (.int .u8 k)).setCell ⟨h + 1, 1, none⟩ (.string T)).setCell ⟨h + 1, 2, none⟩ (.slice R5 ul c5)).setCell ⟨h + 1, 3, none⟩ (.slice K6 kl c6)) (fun g h1 h3 => by
      rw [W9.out g (by omega), HBY.out.block g (by omega)]) (by simp; omega) (lo2 := w5.heap.size) (Nat.le_refl _) z5 (HK6.out.keep (fun g h1 => W9.out g (by omega)))
    rw [HYL.out, ← HU.out, ← HK.out, ← HTX.out] at this
    rw [← HKD.out]
    exact cp_lo this (by omega)
end Tt
end Go.Proofs.YtggeiajbcehkjaaGreatDoor
