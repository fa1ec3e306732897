/- What the law ValuesParts asks of what landed, each by itself; the round's lists. -/
import Derived.Test.YtnnlgodgaolkkaaDoorUpm
namespace Go.Proofs.YtnnlgodgaolkkaaDoor
open Go.RowKit
namespace Va
set_option maxRecDepth 100000

theorem vp_vk : ∀ {N : Nat} {w : World} {ok : Nat → Prop} {v : Value} {x : V}, Vp N w ok v → Vm w v x → Vk w ok v x
  | 0, _, _, _, _, h, _ => h.elim
  | N + 1, w, ok, v, .mk k t l ks, h, hv => by
    obtain ⟨k', T, A, B, n, c, m, d, rfl, h1, h2, h3, h4, h5, h6, hk, hl⟩ := h
    obtain ⟨A', B', c', d', f, e, hk2, hl2, hc2, hA, hd, hd2, hB, hK, hL, _, _, hV⟩ := vk_inv hv
    obtain ⟨e1, rfl, ⟨rfl, rfl, rfl⟩, rfl, rfl, rfl⟩ : (k' : Int) = k ∧ T = txt t ∧ (A = A' ∧ n = l.length ∧ c = c') ∧ B = B' ∧ m = ks.length ∧ d = d' := by simpa using e
    obtain rfl : k' = k := by omega
    refine .mk k' t l ks A B c d f hk2 hl2 hc2 hA hd hd2 hB hK hL (fun h0 g o e => ?_) (fun h0 g o e => ?_) (fun i x hx => ?_)
    · obtain ⟨g', o', e', ho, _⟩ := hl (by omega)
      rw [e] at e'; injection e' with e'; injection e' with e' _ _; rw [e']; exact ho
    · obtain ⟨g', o', e', ho, _⟩ := hk (by omega)
      rw [e] at e'; injection e' with e'; injection e' with e' _ _; rw [e']; exact ho
    · have hi := (List.getElem?_eq_some_iff.1 hx).1
      obtain ⟨g, o, e', ho, hlt, hr, hne, f', oks, hc, hv'⟩ := hl (by omega)
      obtain ⟨g2, o2, e2, hg2, hf2⟩ := hL (by omega)
      rw [e'] at e2; injection e2 with e2; injection e2 with e2 e3 _; subst e2 e3
      have eq : ∀ j, j < 4 → f' i j = f i j := fun j hj => Option.some.inj ((hc i (by omega) j hj).symm.trans (hf2 i hi j hj))
      obtain ⟨v1, v2⟩ := hv' i (by omega)
      rw [eq 0 (by omega), eq 1 (by omega), eq 2 (by omega), eq 3 (by omega)] at v1
      exact (vp_vk v1 (hV i x hx)).to fun g _ hg => (v2 g hg).1
theorem wtL_app : ∀ (a b : List V), wtL (a ++ b) = wtL a + wtL b
  | [], b => by simp [wtL]
  | x :: r, b => by rw [List.cons_append, wtL, wtL, wtL_app r b]; omega
theorem wt_part {t t' : Bs} {l : List V} {ks : List Bs} {i : Nat} (he : ks.length = l.length) (hi : i < l.length) (ht : t = []) : wt (.mk 8 t (l.take i ++ l.drop (i + 1)) (ks.take i ++ ks.drop (i + 1))) ≤ wt (.mk 8 t' l ks) := by
  obtain ⟨x, hx⟩ := get_lt hi
  obtain ⟨s, hs⟩ := get_lt (l := ks) (i := i) (by omega)
  have h1 := wtL_perm (mvE_perm hx)
  have h2 := kw_perm (mvE_perm hs)
  have h3 := mvE_len hs
  unfold mvE at h1 h2 h3
  rw [wtL_app] at h1
  rw [kw_app] at h2
  rw [List.length_append] at h3
  subst ht
  rw [wt, wt]
  simp only [List.length_nil]
  omega
section
variable {Lo : Nat} {Tb : World → Prop} {κ : V → Bs}
theorem get_in (L : Ld Lo Tb κ) {t : Bs} {l : List V} {ks : List Bs} {s : Bs} {z : V} {i : Nat} {S : ByteArray} {v : Value} (w : World) (hT : Tb w) (hv : Vm w v (.mk 8 t l ks)) (hw : wt (.mk 8 t l ks) ≤ 1000000) (hm : may (.mk 8 t l ks) = true) (hs : ks[i]? = some s) (hz : l[i]? = some z) (hS : S = txt s) :
    Calls Tryd.prog 16 #[v, .string S] w fun e w' => (∃ u, e = .returned (.tuple #[u, .bool true]) ∧ Vk w' (fun g => w.heap.size ≤ g) u z) ∧ Below w.heap.size w w' := by
  have h := L.get w hT hv hw hS
  have e : gt (.mk 8 t l ks) s = some z := by rw [gt, if_pos ⟨rfl, hm⟩, fnd_nodup (may_parts hm).2.2.2.1 hs]; exact hz
  rw [e] at h
  refine h.mono ?_
  rintro e w' ⟨⟨u, rfl, hu, N, ok, hp, ho⟩, hb⟩
  exact ⟨⟨u, rfl, (vp_vk hp hu).to fun g _ hg => ho g hg⟩, hb⟩
theorem get_out (L : Ld Lo Tb κ) {t : Bs} {l : List V} {ks : List Bs} {s : Bs} {i : Nat} {S : ByteArray} {v : Value} (w : World) (hT : Tb w) (hd : ks.Nodup) (hs : ks[i]? = some s) (hv : Vm w v (.mk 8 t l (ks.take i ++ ks.drop (i + 1)))) (hw : wt (.mk 8 t l (ks.take i ++ ks.drop (i + 1))) ≤ 1000000) (hS : S = txt s) :
    Calls Tryd.prog 16 #[v, .string S] w fun e w' => (∃ (k : Nat) (t : ByteArray) (A B : Option Addr) (n c m d : Nat), e = .returned (.tuple #[.agg #[.int .u8 k, .string t, .slice A n c, .slice B m d], .bool false])) ∧ Below w.heap.size w w' := by
  have h := L.get w hT hv hw hS
  have e : gt (.mk 8 t l (ks.take i ++ ks.drop (i + 1))) s = none := by
    rw [gt]; split
    · rw [gone_ok hd hs]; rfl
    · rfl
  rw [e] at h
  refine h.mono ?_
  rintro e w' ⟨⟨u, rfl, hu, _⟩, hb⟩
  obtain ⟨k, t, A, B, n, c, m, d, rfl⟩ := vshape hu
  exact ⟨⟨k, t, A, B, n, c, m, d, rfl⟩, hb⟩
theorem same_in (L : Ld Lo Tb κ) {z : V} {u v : Value} (w : World) (hT : Tb w) (hu : Vm w u z) (hv : Vm w v z) (hw : wt z ≤ 1000000) (hm : may z = true) :
    Calls Tryd.prog 9 #[u, v] w fun e w' => e = .returned (.bool true) ∧ Below w.heap.size w w' := by
  have := L.same w hT hu hv hw hw
  rw [hm, sm_self] at this; exact this
theorem same_mv (L : Ld Lo Tb κ) {z y : V} {u v : Value} (w : World) (hT : Tb w) (hu : Vm w u z) (hv : Vm w v y) (hw : wt z ≤ 1000000) (hw2 : wt y ≤ 1000000) (hm : may z = true) (hm2 : may y = true) (hs : sm z y = true) :
    Calls Tryd.prog 9 #[u, v] w fun e w' => e = .returned (.bool true) ∧ Below w.heap.size w w' := by
  have := L.same w hT hu hv hw hw2
  rw [hm, hm2, hs] at this; exact this
theorem size_in (L : Ld Lo Tb κ) {z : V} {u : Value} {n : Int} (w : World) (hT : Tb w) (hu : Vm w u z) (hw : wt z ≤ 1000000) (hm : may z = true) (hn : n = ((sz z : Nat) : Int)) :
    Calls Tryd.prog 12 #[u] w fun e w' => e = .returned (.int .i64 n) ∧ Below w.heap.size w w' := by
  have := L.size w hT hu hw
  rw [hm] at this; subst hn; exact this
theorem deep_in (L : Ld Lo Tb κ) {z : V} {u : Value} {n : Int} (w : World) (hT : Tb w) (hu : Vm w u z) (hw : wt z ≤ 1000000) (hm : may z = true) (hn : n = ((dp z : Nat) : Int)) :
    Calls Tryd.prog 13 #[u] w fun e w' => e = .returned (.int .i64 n) ∧ Below w.heap.size w w' := by
  have := L.deep w hT hu hw
  rw [hm] at this; subst hn; exact this
theorem cmp_in (L : Ld Lo Tb κ) {x y : V} {v u : Value} {o : Int} (w : World) (hT : Tb w) (hv : Vm w v x) (hu : Vm w u y) (hw : wt x ≤ 1000000) (hw2 : wt y ≤ 1000000) (hm : may x = true) (hm2 : may y = true) (ho : o = oI (cmpV (can x) (can y))) :
    Calls Tryd.prog 10 #[v, u] w fun e w' => e = .returned (.int .i64 o) ∧ Below w.heap.size w w' := by
  have := L.cmp w hT hv hu hw hw2
  rw [hm, hm2] at this; subst ho; exact this
theorem cmp_two (L : Ld Lo Tb κ) {x y : V} {v u : Value} {o : Int} (w : World) (hT : Tb w) (hv : Vm w v (.mk 7 [] [x, y] [])) (hu : Vm w u (.mk 7 [] [y, x] [])) (hw : wt x ≤ 1500) (hw2 : wt y ≤ 1500) (hm : may x = true) (hm2 : may y = true) (h1 : dp x ≤ 250) (h2 : dp y ≤ 250) (ho : o = oI (cmpV (can x) (can y))) :
    Calls Tryd.prog 10 #[v, u] w fun e w' => e = .returned (.int .i64 o) ∧ Below w.heap.size w w' :=
  cmp_in L w hT hv hu (by rw [two_wt]; omega) (by rw [two_wt]; omega) (two_may hm hm2 h1 h2) (two_may hm2 hm h2 h1) (by rw [two_cmp]; exact ho)
theorem size_two (L : Ld Lo Tb κ) {x y : V} {v : Value} {n : Int} (w : World) (hT : Tb w) (hv : Vm w v (.mk 7 [] [x, y] [])) (hw : wt x ≤ 1500) (hw2 : wt y ≤ 1500) (hm : may x = true) (hm2 : may y = true) (h1 : dp x ≤ 250) (h2 : dp y ≤ 250) (hn : n = (((sz x + sz y + 1) : Nat) : Int)) :
    Calls Tryd.prog 12 #[v] w fun e w' => e = .returned (.int .i64 n) ∧ Below w.heap.size w w' :=
  size_in L w hT hv (by rw [two_wt]; omega) (two_may hm hm2 h1 h2) (by rw [two_sz]; exact hn)
end
/-- A map's entry, and all that its rows are. -/
theorem map_ent {w : World} {k na ca ma da : Nat} {T : ByteArray} {A B : Option Addr} {x : V} (hv : Vm w (.agg #[.int .u8 k, .string T, .slice A na ca, .slice B ma da]) x) (hm : may x = true) {i : Nat} (hi : i < ma) :
    ∃ (l : List V) (ks : List Bs) (f : Nat → Nat → Value) (s : Bs) (z : V) (gk ok gl ol : Nat), x = .mk 8 [] l ks ∧ k = 8 ∧ T = ⟨#[]⟩ ∧ na = ma ∧ ma = l.length ∧ ma = ks.length ∧ ma ≤ ca ∧ ca ≤ maxLen ∧ ma ≤ da ∧ da ≤ maxLen ∧ B = some ⟨gk, ok, none⟩ ∧ A = some ⟨gl, ol, none⟩ ∧ gk < w.heap.size ∧ gl < w.heap.size ∧ ks[i]? = some s ∧ l[i]? = some z ∧
      Tx w B ks ∧ w.cell? ⟨gk, ok + i, none⟩ = some (.string (txt s)) ∧ (∀ i, i < l.length → ∀ j, j < 4 → w.cell? ⟨gl, ol + i * 4 + j, none⟩ = some (f i j)) ∧ (∀ (j : Nat) (y : V), l[j]? = some y → Vm w (.agg #[f j 0, f j 1, f j 2, f j 3]) y) ∧ ∀ i, i < l.length → ∀ j, j < 4 → (f i j).oneCell' = true := by
  obtain ⟨k', t, l, ks⟩ := x
  obtain ⟨A', B', c', d', f, e, hk2, hl2, hc2, hA, hd, hd2, hB, hK, hL, _, _, hV⟩ := vk_inv hv
  obtain ⟨e1, rfl, ⟨rfl, rfl, rfl⟩, rfl, rfl, rfl⟩ : (k : Int) = k' ∧ T = txt t ∧ (A = A' ∧ na = l.length ∧ ca = c') ∧ B = B' ∧ ma = ks.length ∧ da = d' := by simpa using e
  obtain rfl : k = k' := by omega
  have P := may_parts hm
  obtain rfl : k = 8 := by
    rcases P.2.1 with h | h
    · exact h
    · rw [h] at hi; simp at hi
  obtain rfl : t = [] := P.2.2.2.2.2.1
  have hkl := P.2.2.1 rfl
  obtain ⟨gk, ok, eB, hgk, hkc⟩ := hK (by omega)
  obtain ⟨gl, ol, eA, hgl, hf⟩ := hL (by omega)
  obtain ⟨s, hs⟩ := get_lt hi
  obtain ⟨z, hz⟩ := get_lt (l := l) (i := i) (by omega)
  refine ⟨l, ks, f, s, z, gk, ok, gl, ol, rfl, rfl, rfl, hkl.symm, hkl, rfl, by omega, hc2, hd, hd2, eB, eA, hgk, hgl, hs, hz, hK, hkc i s hs, hf, hV, fun i hi j hj => ?_⟩
  obtain ⟨y, hy⟩ := get_lt hi
  obtain ⟨uk, ut, uA, uB, un, uc, um, ud, e⟩ := vshape (hV i y hy)
  obtain ⟨q0, q1, q2, q3⟩ : f i 0 = .int .u8 uk ∧ f i 1 = .string ut ∧ f i 2 = .slice uA un uc ∧ f i 3 = .slice uB um ud := by simpa using e
  rcases (show j = 0 ∨ j = 1 ∨ j = 2 ∨ j = 3 by omega) with rfl | rfl | rfl | rfl
  · rw [q0]; rfl
  · rw [q1]; rfl
  · rw [q2]; rfl
  · rw [q3]; rfl
theorem news_keys {w : World} {g o a m : Nat} {ks : List Bs} (hl : a + m ≤ ks.length) (h : Tx w (some ⟨g, o, none⟩) ks) {o2 : Nat} (ho : 0 < m → o2 = o + a) {X : World} (hb : Below w.heap.size w X) :
    0 < m → ∃ ad, some (⟨g, o2, none⟩ : Addr) = some ad ∧ ∀ (j : Nat) (u : Value), (((ks.drop a).take m).map fun t => Value.string (txt t))[j]? = some u → X.cell? (ad.add j) = some u := fun hm => by
  obtain ⟨g', o', e, hc⟩ := part_keys hl (h.on hb) hm
  injection e with e; injection e with e1 e2 _; subst e1 e2
  exact ⟨_, rfl, by rw [ho hm]; exact hc⟩
theorem news_vals {w : World} {g o a m : Nat} {l : List V} {f : Nat → Nat → Value} (hl : a + m ≤ l.length) (hg : g < w.heap.size) (h : ∀ i, i < l.length → ∀ j, j < 4 → w.cell? ⟨g, o + i * 4 + j, none⟩ = some (f i j)) {o2 : Nat} (ho : 0 < m → o2 = o + a * 4) {X : World} (hb : Below w.heap.size w X) :
    0 < m → ∃ ad, some (⟨g, o2, none⟩ : Addr) = some ad ∧ ∀ (j : Nat) (u : Value), (cels f a m)[j]? = some u → X.cell? (ad.add j) = some u := fun hm => by
  obtain ⟨g', o', e, hc⟩ := part_vals (W := X) (A := some ⟨g, o, none⟩) hl (fun _ => ⟨g, o, rfl, Nat.lt_of_lt_of_le hg hb.size, fun i hi j hj => cell_old hb hg (h i hi j hj)⟩) hm
  injection e with e; injection e with e1 e2 _; subst e1 e2
  exact ⟨_, rfl, by rw [ho hm]; exact hc⟩
/-- Slices of a row. -/
theorem run_head {t : TypeId} {g o n c l s : Nat} (ht : Tryd.prog.underlying t = some (.slice (Tryd.prog.elem t))) (hs : ∀ w, (sizeOf (Tryd.prog.elem t)).run Tryd.prog w = .ok s w) (hl : l ≤ n) (_hc : n ≤ c) (w : World) :
    (Instr.sliceAt t (.slice (some ⟨g, o, none⟩) n c) none (some (.int .i64 (l : Int))) none).run Tryd.prog w = .ok (.slice (some ⟨g, o, none⟩) l c) w := by
  rw [run_sliceAt_slice _ _ _ _ _ _ ht, run_slice_h _ _ _ _ _ ht _ _ (by omega) (by omega), hs]
  simp [Result.andThen, sliced, Addr.add]
theorem run_tail {t : TypeId} {g o n c l s : Nat} {L : Int} (ht : Tryd.prog.underlying t = some (.slice (Tryd.prog.elem t))) (hs : ∀ w, (sizeOf (Tryd.prog.elem t)).run Tryd.prog w = .ok s w) (hL : L = (l : Int)) (hl : l ≤ n) (_hc : n ≤ c) (w : World) :
    (Instr.sliceAt t (.slice (some ⟨g, o, none⟩) n c) (some (.int .i64 L)) none none).run Tryd.prog w = .ok (.slice (some ⟨g, if c = l then o else o + l * s, none⟩) (n - l) (c - l)) w := by
  subst hL
  rw [run_sliceAt_slice _ _ _ _ _ _ ht, run_slice_l _ _ _ _ _ ht _ _ (by omega) (by omega), hs]
  by_cases h : c = l
  · simp [Result.andThen, sliced, h]
  · simp [Result.andThen, sliced, h, Addr.add]
/-- A value stored in a block that was made ahead. -/
theorem put_fin {B W : World} {g : Nat} {a b c d u0 u1 u2 u3 : Value} {x : V} {ok : Nat → Prop} (hb : Below B.heap.size B W) (hg : B.heap.size ≤ g) (hz : W.heap[g]? = some (vO a b c d)) (hu : Vk W ok (.agg #[u0, u1, u2, u3]) x) (hok : ∀ q, ok q → q ≠ g) :
    Below B.heap.size B ((((W.setCell ⟨g, 0, none⟩ u0).setCell ⟨g, 1, none⟩ u1).setCell ⟨g, 2, none⟩ u2).setCell ⟨g, 3, none⟩ u3) ∧ B.heap.size ≤ g ∧ ((((W.setCell ⟨g, 0, none⟩ u0).setCell ⟨g, 1, none⟩ u1).setCell ⟨g, 2, none⟩ u2).setCell ⟨g, 3, none⟩ u3).heap[g]? = some (vO u0 u1 u2 u3) ∧
      Vm ((((W.setCell ⟨g, 0, none⟩ u0).setCell ⟨g, 1, none⟩ u1).setCell ⟨g, 2, none⟩ u2).setCell ⟨g, 3, none⟩ u3) (.agg #[u0, u1, u2, u3]) x := by
  refine ⟨(((hb.setCell (p := ⟨g, 0, none⟩) hg _).setCell (p := ⟨g, 1, none⟩) hg _).setCell (p := ⟨g, 2, none⟩) hg _).setCell (p := ⟨g, 3, none⟩) hg _, hg, store4 _ _ _ _ hz, (hu.keep (fun q hq _ => ?_) (by simp)).vm⟩
  have hq := hok q hq
  rw [Go.RowKit.Below.heap_setCell _ _ _ _ hq, Go.RowKit.Below.heap_setCell _ _ _ _ hq, Go.RowKit.Below.heap_setCell _ _ _ _ hq, Go.RowKit.Below.heap_setCell _ _ _ _ hq]
/-- A value handed back, in a block of its own. -/
structure GV (B W : World) (g : Nat) (u0 u1 u2 u3 : Value) (x : V) : Prop where
  below : Below B.heap.size B W
  lo : B.heap.size ≤ g
  blk : W.heap[g]? = some (vO u0 u1 u2 u3)
  vm : Vm W (.agg #[u0, u1, u2, u3]) x
theorem GV.late {B W : World} {u0 u1 u2 u3 : Value} {x : V} {ok : Nat → Prop} (hb : Below B.heap.size B W) (hu : Vk W ok (.agg #[u0, u1, u2, u3]) x) : GV B (W.alloc (vO u0 u1 u2 u3)) W.heap.size u0 u1 u2 u3 x :=
  ⟨hb.alloc hb.size _, hb.size, heap_alloc_new _ _, hu.vm.on (below_new _ _)⟩
theorem GV.early {B W : World} {o : Obj} {u0 u1 u2 u3 a b c d : Value} {x : V} (hb : Below (B.drew.alloc o).heap.size (B.drew.alloc o) W) (ho : o = vO a b c d) (hu : Vk W (fun g => (B.drew.alloc o).heap.size ≤ g) (.agg #[u0, u1, u2, u3]) x) :
    GV B ((((W.setCell ⟨B.heap.size, 0, none⟩ u0).setCell ⟨B.heap.size, 1, none⟩ u1).setCell ⟨B.heap.size, 2, none⟩ u2).setCell ⟨B.heap.size, 3, none⟩ u3) B.heap.size u0 u1 u2 u3 x := by
  subst ho
  have hz : (B.drew.alloc (vO a b c d)).heap.size = B.heap.size + 1 := alloc_size B.drew _
  have hb0 : Below B.heap.size B (B.drew.alloc (vO a b c d)) := (Below.refl _ _).drew.alloc (Nat.le_refl _) _
  obtain ⟨q1, q2, q3, q4⟩ := put_fin (B := B) (g := B.heap.size) (below_tr hb0 hb) (Nat.le_refl _) ((hb.block B.heap.size (by omega)).trans (heap_alloc_new B.drew _)) hu (fun q hq => by omega)
  exact ⟨q1, q2, q3, q4⟩
theorem GV.bx {B W : World} {g : Nat} {u0 u1 u2 u3 : Value} {x : V} (H : GV B W g u0 u1 u2 u3 x) : Bx W g u0 u1 u2 u3 := ⟨(Array.getElem?_eq_some_iff.1 H.blk).1, (vcells H.blk).1.1, (vcells H.blk).1.2.1, (vcells H.blk).1.2.2.1, (vcells H.blk).1.2.2.2⟩
end Va
end Go.Proofs.YtnnlgodgaolkkaaDoor
