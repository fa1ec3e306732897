/- What landed of values: a copy of values, one by one. -/
import Derived.Test.YtnnlgodgaolkkaaGreatDoorHj
import Derived.Test.YtnnlgodgaolkkaaGreatDoorLqm
namespace Go.Proofs.YtnnlgodgaolkkaaGreatDoor
open Go.RowKit
namespace Va
set_option maxRecDepth 100000

/-- A copy of a value, in blocks of its own. -/
def CP (N lo : Nat) (w : World) (u : Value) (x : V) : Prop := ∃ ok : Nat → Prop, Vk w ok u x ∧ Vp N w ok u ∧ ∀ g, ok g → lo ≤ g ∧ g < w.heap.size
/-- A row of copies, under way. -/
def RV (N base lo : Nat) (w : World) (g n : Nat) (L : List V) : Prop :=
  ∃ xs, w.ownsRow base 26 4 (.slice (some ⟨g, 0, none⟩) L.length n) L.length xs ∧ ∃ oks : Nat → Nat → Prop, ∀ i x, L[i]? = some x → (∃ a b c d, xs[i * 4]? = some a ∧ xs[i * 4 + 1]? = some b ∧ xs[i * 4 + 2]? = some c ∧ xs[i * 4 + 3]? = some d ∧ Vk w (oks i) (.agg #[a, b, c, d]) x ∧ Vp N w (oks i) (.agg #[a, b, c, d])) ∧
    ∀ q, oks i q → lo ≤ q ∧ q < w.heap.size ∧ ∀ j, j < L.length → j ≠ i → ¬ oks j q
theorem RV.on {N base lo : Nat} {w w' : World} {g n : Nat} {L : List V} (h : RV N base lo w g n L) (hb : Below w.heap.size w w') : RV N base lo w' g n L := by
  obtain ⟨xs, h1, oks, h2⟩ := h
  refine ⟨xs, own_on h1 fun k hk => hb.block k (h1.lt k hk).2, oks, fun i x hi => ?_⟩
  obtain ⟨⟨a, b, c, d, e0, e1, e2, e3, hv, hp⟩, h3⟩ := h2 i x hi
  exact ⟨⟨a, b, c, d, e0, e1, e2, e3, hv.on hb, hp.keep (fun g _ hg => hb.block g hg) hb.size⟩, fun q hq => ⟨(h3 q hq).1, Nat.lt_of_lt_of_le (h3 q hq).2.1 hb.size, (h3 q hq).2.2⟩⟩
theorem RV.more {N base lo s : Nat} {w w' : World} {g n : Nat} {L : List V} {a b c d : Value} {x : V} {ok : Nat → Prop} {xs : List Value}
    (h2 : ∃ oks : Nat → Nat → Prop, ∀ i x, L[i]? = some x → (∃ a b c d, xs[i * 4]? = some a ∧ xs[i * 4 + 1]? = some b ∧ xs[i * 4 + 2]? = some c ∧ xs[i * 4 + 3]? = some d ∧ Vk w (oks i) (.agg #[a, b, c, d]) x ∧ Vp N w (oks i) (.agg #[a, b, c, d])) ∧ ∀ q, oks i q → lo ≤ q ∧ q < s ∧ ∀ j, j < L.length → j ≠ i → ¬ oks j q)
    (hs : s ≤ w.heap.size) (hlo : lo ≤ s) (hg : g < lo) (hgr : w.grownBy w' (some g)) (hxs : xs.length = L.length * 4)
    (ho : w'.ownsRow base 26 4 (.slice (some ⟨g, 0, none⟩) (L.length + 1) n) (L.length + 1) (xs ++ [a, b, c, d])) (hv : Vk w ok (.agg #[a, b, c, d]) x) (hp : Vp N w ok (.agg #[a, b, c, d])) (hok : ∀ q, ok q → s ≤ q ∧ q < w.heap.size) : RV N base lo w' g n (L ++ [x]) := by
  obtain ⟨oks, h2⟩ := h2
  have hk : ∀ q, lo ≤ q → q < w.heap.size → w'.heap[q]? = w.heap[q]? := fun q h1 h3 => hgr.block q h3 (by simp; omega)
  refine ⟨xs ++ [a, b, c, d], by rw [List.length_append]; exact ho, fun i => if i < L.length then oks i else ok, fun i y hi => ?_⟩
  rcases Nat.lt_or_ge i L.length with h1 | h1
  · rw [List.getElem?_append_left h1] at hi
    obtain ⟨⟨p, q, r, z, e0, e1, e2, e3, hm, hpp⟩, h3⟩ := h2 i y hi
    simp only [if_pos h1]
    refine ⟨⟨p, q, r, z, by rw [List.getElem?_append_left (by omega)]; exact e0, by rw [List.getElem?_append_left (by omega)]; exact e1, by rw [List.getElem?_append_left (by omega)]; exact e2, by rw [List.getElem?_append_left (by omega)]; exact e3, hm.keep (fun q hq hl => hk q (h3 q hq).1 hl) hgr.size, hpp.keep (fun q hq hl => hk q (h3 q hq).1 hl) hgr.size⟩, fun q hq => ⟨(h3 q hq).1, by have := (h3 q hq).2.1; have := hgr.size; omega, fun j hj hji => ?_⟩⟩
    by_cases hjl : j < L.length
    · simp only [if_pos hjl]; exact (h3 q hq).2.2 j hjl hji
    · simp only [if_neg hjl]; intro e; have := (hok q e).1; have := (h3 q hq).2.1; omega
  · have hi2 : i = L.length := by
      have := (List.getElem?_eq_some_iff.1 hi).1
      simp at this; omega
    subst hi2
    rw [List.getElem?_append_right (by omega), Nat.sub_self] at hi
    obtain rfl : x = y := by simpa using hi
    simp only [if_neg (Nat.lt_irrefl _)]
    refine ⟨⟨a, b, c, d, by rw [List.getElem?_append_right (by omega), hxs, Nat.sub_self]; rfl, by rw [List.getElem?_append_right (by omega), hxs, Nat.add_sub_cancel_left]; rfl, by rw [List.getElem?_append_right (by omega), hxs, Nat.add_sub_cancel_left]; rfl, by rw [List.getElem?_append_right (by omega), hxs, Nat.add_sub_cancel_left]; rfl, hv.keep (fun q hq hl => hk q (by have := (hok q hq).1; omega) hl) hgr.size, hp.keep (fun q hq hl => hk q (by have := (hok q hq).1; omega) hl) hgr.size⟩, fun q hq => ⟨by have := (hok q hq).1; omega, by have := (hok q hq).2; have := hgr.size; omega, fun j hj hji => ?_⟩⟩
    have hjl : j < L.length := by rw [List.length_append] at hj; simp at hj; omega
    simp only [if_pos hjl]
    intro e
    obtain ⟨y, hy⟩ := get_lt hjl
    have := ((h2 j y hy).2 q e).2.1
    have := (hok q hq).1
    omega
theorem cells_four9 (w : World) (t : TypeId) (a b c d : Value) : ∀ j x, [a, b, c, d][j]? = some x → (w.alloc (.cells #[a, b, c, d] t)).cell? ((⟨w.heap.size, 0, none⟩ : Addr).add j) = some x := by
  intro j x hx
  rw [addAt, Nat.zero_add]
  have e := heap_alloc_new w (.cells #[a, b, c, d] t)
  simp only [World.cell?, e]
  simpa using hx
set_option maxHeartbeats 4000000 in
theorem eachV1_any {N base lo g n q k : Nat} {L : List V} {x : V} {v : Value} (w : World) (hR : RV N base lo w g n L) (hL : L.length = k) (hk : k < n) (_hn : n ≤ 1000000) (hg : g < lo) (hlo : lo ≤ w.heap.size) (hv : Vm w v x) (hq : w.cell? ⟨q, 0, none⟩ = some (.func (.func 44) #[] #[]))
    (C : ∀ w' : World, Below w.heap.size w w' → Calls Tryz.prog 44 #[v] w' fun e w'' => (∃ u, e = .returned u ∧ CP N w'.heap.size w'' u x) ∧ Below w'.heap.size w' w'') :
    Calls Tryz.prog 85 #[.slice (some ⟨g, 0, none⟩) k n, v, .pointer (some ⟨q, 0, none⟩)] w fun e w' => e = .returned (.slice (some ⟨g, 0, none⟩) ((k + 1 : Nat)) n) ∧ RV N base lo w' g n (L ++ [x]) ∧ w.grownBy w' (some g) := by
  obtain ⟨i0, hi, hz0, hz1, hz2⟩ := info_parts (show (Tryz.prog.info? 26).map (fun i => (i.zero, i.size, i.bytes)) = some (some (.agg #[.int .u8 0, .string ⟨#[]⟩, .slice none 0 0, .slice none 0 0]), 4, 72) by kernel_rfl)
  have HC := Lib.hid C
  have HR := Lib.hid hR
  have HL := Lib.hid hL
  have HG := Lib.hid hg
  have HLO := Lib.hid hlo
  have hql := World.block_lt_of_cell? w _ hq
  clear C hR hL hg hlo
  obtain ⟨kk, t, l, ks⟩ := x
  obtain ⟨A, B, c, d, rfl, _⟩ := hv.inv
  obtain ⟨T, hT⟩ : ∃ T, T = txt t := ⟨_, rfl⟩
  rw [← hT] at HC ⊢
  clear hv hT
  go_enter Tryz.func85, Tryz.ntmps85
  go_wp2_with fail
  refine (HC.out _ (below_new ..)).mono ?_
  rintro e w2 ⟨⟨u, rfl, hu⟩, hb⟩
  have HB0 := Lib.hid (below_new w (vO (.int .u8 kk) (.string T) (.slice A l.length c) (.slice B ks.length d)))
  have HB := Lib.hid (below_tr HB0.out hb)
  obtain ⟨ok, h1, h2, h3⟩ := hu
  obtain ⟨uk, ut, uA, uB, un, uc, um, ud, rfl⟩ := h2.shape
  have HU := Lib.hid (And.intro h1 (And.intro h2 h3))
  obtain ⟨xs, ho, oks, h9⟩ := HR.out
  have HO := Lib.hid (show w2.ownsRow base 26 4 (.slice (some ⟨g, 0, none⟩) k n) k xs from by rw [← HL.out]; exact own_on ho fun k hk => HB.out.block k (ho.lt k hk).2)
  have HXL := Lib.hid (show xs.length = L.length * 4 from ho.1)
  have HOK := Lib.hid (show ∃ oks : Nat → Nat → Prop, ∀ i x, L[i]? = some x → (∃ a b c d, xs[i * 4]? = some a ∧ xs[i * 4 + 1]? = some b ∧ xs[i * 4 + 2]? = some c ∧ xs[i * 4 + 3]? = some d ∧ Vk w2 (oks i) (.agg #[a, b, c, d]) x ∧ Vp N w2 (oks i) (.agg #[a, b, c, d])) ∧ ∀ q, oks i q → lo ≤ q ∧ q < w.heap.size ∧ ∀ j, j < L.length → j ≠ i → ¬ oks j q from ⟨oks, fun i x hi => by
    obtain ⟨⟨a, b, c, d, e0, e1, e2, e3, hv, hp⟩, h3⟩ := h9 i x hi
    exact ⟨⟨a, b, c, d, e0, e1, e2, e3, hv.on HB.out, hp.keep (fun g _ hg => HB.out.block g hg) HB.out.size⟩, h3⟩⟩)
  clear ho h9 h1 h2 h3 hb hq
  go_wp2_with (at_builtin; refine wpList_append_own_spare _ rfl (.tmp 6) (.tmp 10) 23 rfl base 26 i0 4 Tryz.underlying23 hi hz1 g k n xs rfl (HO.out.alloc _) ⟨w2.heap.size, 0, none⟩ 1 1 [.int .u8 uk, .string ut, .slice uA un uc, .slice uB um ud] rfl rfl (cells_four9 _ _ _ _ _ _) (by intro u hu; simp at hu; rcases hu with rfl | rfl | rfl | rfl <;> rfl) (by omega) ?_; intro w3 hown3 hgr3)
  go_ret
  have hgr : w2.grownBy w3 (some g) := gb_tr (gb_call g (below_new ..)) hgr3
  refine ⟨by first | rfl | trivial, ?_, gb_tr (gb_call g HB.out) hgr⟩
  exact RV.more HOK.out HB.out.size HLO.out HG.out hgr HXL.out (by rw [HL.out]; exact hown3) HU.out.1 HU.out.2.1 (fun q hq => ⟨Nat.le_trans HB0.out.size (HU.out.2.2 q hq).1, (HU.out.2.2 q hq).2⟩)
set_option maxHeartbeats 4000000 in
theorem overV_any {N base lo g n q c b0 : Nat} {A : Option Addr} {l : List V} (w : World) (hR : RV N base lo w g n []) (hV : Vrb b0 w A l) (hbg : b0 ≤ g) (hbw : b0 ≤ w.heap.size) (hg : g < lo) (hlo : lo ≤ w.heap.size) (hn : n = l.length) (hn9 : n ≤ 1000000) (hq : w.cell? ⟨q, 0, none⟩ = some (.func (.func 44) #[] #[])) (hqg : q ≠ g)
    (C : ∀ (i : Nat) (x : V) (v : Value) (w' : World), l[i]? = some x → Vm w' v x → Calls Tryz.prog 44 #[v] w' fun e w'' => (∃ u, e = .returned u ∧ CP N w'.heap.size w'' u x) ∧ Below w'.heap.size w' w'') :
    Calls Tryz.prog 84 #[.slice A n c, .slice (some ⟨g, 0, none⟩) 0 n, .func (.func 85) #[] #[.pointer (some ⟨q, 0, none⟩)]] w fun e w' => e = .returned (.slice (some ⟨g, 0, none⟩) n n) ∧ RV N base lo w' g n l ∧ w.grownBy w' (some g) := by
  have HR := Lib.hid hR
  have HV := Lib.hid hV
  have HN := Lib.hid hn
  have HC := Lib.hid C
  have HQC := Lib.hid hq
  have HQL := Lib.hid (World.block_lt_of_cell? w _ hq)
  have HQG := Lib.hid hqg
  have HBG := Lib.hid hbg
  have HBW := Lib.hid hbw
  have HG := Lib.hid hg
  have HLO := Lib.hid hlo
  clear hR hV hn C hq hqg hbg hbw hg hlo
  go_enter Tryz.func84, Tryz.ntmps84
  go_wp2_with fail
  go_loopw [1, 8, 11] (fun a _ i wx => ∃ k : Nat, k ≤ n ∧ i = .int .i64 k ∧ a = .slice (some ⟨g, 0, none⟩) k n ∧ Hid (RV N base lo wx g n (l.take k) ∧ w.grownBy wx (some g))) (fun _ _ i _ => n - (intOf i).toNat)
  case atStart => exact ⟨0, Nat.zero_le _, rfl, rfl, Lib.hid ⟨by rw [List.take_zero]; exact HR.out, gb_refl _ _⟩⟩
  case round =>
    obtain ⟨k, hk, rfl, rfl, HQ⟩ := hrel
    by_cases hlt : k < n
    · obtain ⟨x, hx⟩ := get_lt (l := l) (i := k) (by rw [← HN.out]; exact hlt)
      obtain ⟨g1, o, rfl, hg1, hf⟩ := HV.out (by rw [← HN.out]; omega)
      obtain ⟨v0, v1, v2, v3, d0, d1, d2, d3, hvm⟩ := hf k x hx
      have HBX := Lib.hid (gb_below HQ.out.2 HBG.out HBW.out)
      have c0 := cell_b HBX.out hg1 d0
      have c1 := cell_b HBX.out hg1 d1
      have c2 := cell_b HBX.out hg1 d2
      have c3 := cell_b HBX.out hg1 d3
      have c6 := cell_eq (HQ.out.2.block q HQL.out (by have := HQG.out; simpa using this)) HQC.out
      obtain ⟨uk, ut, uA, uB, un, uc, um, ud, rfl, rfl, rfl, rfl⟩ := vshp hvm.vm
      have HW1 := Lib.hid (below_new wr (vO (.int .u8 uk) (.string ut) (.slice uA un uc) (.slice uB um ud)))
      have HVM := Lib.hid ((Vb.on hvm HBX.out).vm)
      have CE := Lib.hid (eachV1_any _ (HQ.out.1.on HW1.out) (by rw [List.length_take, ← HN.out]; omega) hlt hn9 HG.out (by have := HLO.out; have := HQ.out.2.size; have := HW1.out.size; omega) (HVM.out.on HW1.out) (cell_old HW1.out (World.block_lt_of_cell? _ _ c6) c6) (fun w' hb => HC.out k x _ w' hx ((HVM.out.on HW1.out).on hb)))
      have HE := Lib.hid (show l.take (k + 1) = l.take k ++ [x] from by rw [List.take_add_one, hx]; rfl)
      clear hx hf d0 d1 d2 d3 hvm hg1 c6
      go_wp2_with fail
      refine CE.out.mono ?_
      rintro e w2 ⟨rfl, h1, h2⟩
      have HQ2 := Lib.hid (show RV N base lo w2 g n (l.take (k + 1)) ∧ w.grownBy w2 (some g) from ⟨by rw [HE.out]; exact h1, gb_tr HQ.out.2 (gb_tr (gb_call g HW1.out) h2)⟩)
      clear h1 h2 c0 c1 c2 c3
      go_wp2_with fail
      go_roundw
      case rel => exact ⟨k + 1, by omega, by go_num, by first | rfl | trivial, HQ2⟩
      case measure => simp [intOf]; omega
    · obtain rfl : k = n := by omega
      have HE := Lib.hid (show l.take k = l from List.take_of_length_le (by rw [← HN.out]; omega))
      go_wp2_with fail
      go_ret
      exact ⟨by first | rfl | trivial, by rw [← HE.out]; exact HQ.out.1, HQ.out.2⟩
/-- A row of copies, or none. -/
def RVO (N base : Nat) (w : World) (R : Option Addr) (c : Nat) (l : List V) : Prop := (R = none ∧ l = [] ∧ c = 0) ∨ ∃ g, R = some ⟨g, 0, none⟩ ∧ c = l.length ∧ RV N base (g + 1) w g l.length l
set_option maxHeartbeats 4000000 in
theorem eachV_any {N n c b0 : Nat} {A : Option Addr} {l : List V} (w : World) (hV : Vrb b0 w A l) (hbw : b0 ≤ w.heap.size) (hn : n = l.length) (hn9 : n ≤ 1000000) (hA : A = none → c = 0) (hc : n ≤ c)
    (C : ∀ (i : Nat) (x : V) (v : Value) (w' : World), l[i]? = some x → Vm w' v x → Calls Tryz.prog 44 #[v] w' fun e w'' => (∃ u, e = .returned u ∧ CP N w'.heap.size w'' u x) ∧ Below w'.heap.size w' w'') :
    Calls Tryz.prog 67 #[.slice A n c, .func (.func 44) #[] #[]] w fun e w' => (∃ R d, e = .returned (.slice R n d) ∧ RVO N w.heap.size w' R d l) ∧ Below w.heap.size w w' := by
  obtain ⟨i0, hi, hz0, hz1, hz2⟩ := info_parts (show (Tryz.prog.info? 26).map (fun i => (i.zero, i.size, i.bytes)) = some (some (.agg #[.int .u8 0, .string ⟨#[]⟩, .slice none 0 0, .slice none 0 0]), 4, 72) by kernel_rfl)
  cases A with
  | none =>
    obtain rfl := hA rfl
    obtain rfl : n = 0 := by omega
    have HE := Lib.hid (show l = [] from List.eq_nil_of_length_eq_zero hn.symm)
    have hz := fun w => nilV_eq w
    clear hV hn C
    go_enter Tryz.func67, Tryz.ntmps67
    go_wp2_with fail
    go_ret
    exact ⟨⟨_, _, rfl, .inl ⟨rfl, HE.out, rfl⟩⟩, below_new ..⟩
  | some ad =>
    have HV := Lib.hid hV
    have HN := Lib.hid hn
    have HC := Lib.hid C
    have HBW0 := Lib.hid hbw
    have hz := fun w => nilV_ne w ad n c
    clear hV hn C hA hbw
    obtain ⟨W1, hW1⟩ : ∃ W, W = w.alloc (.cells #[.func (.func 44) #[] #[]] 29) := ⟨_, rfl⟩
    have HB1 := Lib.hid (show Below w.heap.size w W1 from by rw [hW1]; exact below_new ..)
    have HQ := Lib.hid (show W1.cell? ⟨w.heap.size, 0, none⟩ = some (.func (.func 44) #[] #[]) from by rw [hW1]; exact cell_fst1 ..)
    have HW1 := Lib.hid hW1
    clear hW1
    go_enter Tryz.func67, Tryz.ntmps67
    go_upto_region 1 with fail
    rw [← HW1.out]
    obtain ⟨q, hq⟩ : ∃ q, q = w.heap.size := ⟨_, rfl⟩
    rw [← hq] at HQ ⊢
    have HQE := Lib.hid hq
    clear HW1 hq
    go_wp2_with (at_make; refine wpList_make_own _ rfl _ _ 23 rfl w.heap.size 26 i0 _ 4 Tryz.underlying23 hi hz0 hz1 .i64 .i64 _ n rfl rfl rfl (by rw [hz2]; omega) (by unfold maxLen; omega) HB1.out.size ?_; intro w1 hown1 hg1)
    have HB2 := Lib.hid (show Below W1.heap.size W1 w1 from (Below.refl _ _).grown hg1 (Nat.le_refl _) (fun _ h => by cases h))
    have HBW := Lib.hid (below_tr HB1.out HB2.out)
    have hql : q < W1.heap.size := World.block_lt_of_cell? _ _ HQ.out
    have hgs : W1.heap.size + 1 ≤ w1.heap.size := (hown1.lt _ rfl).2
    have CO := Lib.hid (overV_any (N := N) (base := w.heap.size) (lo := W1.heap.size + 1) (g := W1.heap.size) (q := q) (c := c) (b0 := b0) w1 ⟨[], hown1, fun _ _ => False, fun i x h => by simp at h⟩ (Vrb.on HV.out (HBW.out.mono HBW0.out)) (Nat.le_trans HBW0.out HB1.out.size) (Nat.le_trans HBW0.out HBW.out.size) (Nat.lt_succ_self _) hgs HN.out hn9 (cell_old HB2.out hql HQ.out) (by omega) HC.out)
    have HGL := Lib.hid (show w.heap.size ≤ W1.heap.size from HB1.out.size)
    clear hown1 hg1 hql hgs
    refine CO.out.mono ?_
    rintro e w2 ⟨rfl, h1, h2⟩
    have HR := Lib.hid (show RVO N w.heap.size w2 (some ⟨W1.heap.size, 0, none⟩) n l from .inr ⟨_, rfl, HN.out, by rw [← HN.out]; exact h1⟩)
    have HB3 := Lib.hid (HBW.out.trans (gb_below h2 HGL.out HBW.out.size))
    clear h1 h2
    go_wp2_with fail
    go_ret
    exact ⟨⟨_, _, rfl, HR.out⟩, HB3.out⟩
end Va
end Go.Proofs.YtnnlgodgaolkkaaGreatDoor
