/- Trees in the making: where a node's parts stand, put in one by one. -/
import Derived.Test.YtggeiajbcehkjaaGreatDoorGbo
namespace Go.Proofs.YtggeiajbcehkjaaGreatDoor
open Go.RowKit
open Va (Bs V v0 Tx Vm Vk Vr vO below_tr below_new heap_alloc_new get_lt own_on cell_eq own_cells)
namespace Tt
set_option maxRecDepth 100000

theorem szL_app : ∀ (l r : List V), Va.szL (l ++ r) = Va.szL l + Va.szL r
  | [], r => by rw [List.nil_append, Va.szL]; omega
  | x :: l, r => by rw [List.cons_append, Va.szL, Va.szL, szL_app l r]; omega
theorem posL_get : ∀ (b : Nat) (l : List V) (i : Nat), i < l.length → (posL b l)[i]? = some (b + Va.szL (l.take i))
  | b, [], i, h => by simp at h
  | b, x :: r, 0, _ => by rw [posL]; simp [Va.szL]
  | b, x :: r, i + 1, h => by
    rw [posL, List.getElem?_cons_succ, posL_get _ r i (by simpa using h), List.take_succ_cons, Va.szL, Nat.add_assoc]
theorem ndsL_app : ∀ (b : Nat) (l r : List V), ndsL b (l ++ r) = ndsL b l ++ ndsL (b + Va.szL l) r
  | b, [], r => by rw [List.nil_append, ndsL, Va.szL]; rfl
  | b, x :: l, r => by rw [List.cons_append, ndsL, ndsL, ndsL_app _ l r, Va.szL, List.append_assoc, Nat.add_assoc]
theorem ndsL_more {b : Nat} {l : List V} {i : Nat} {x : V} (h : l[i]? = some x) : ndsL b (l.take (i + 1)) = ndsL b (l.take i) ++ nds (b + Va.szL (l.take i)) x ∧ Va.szL (l.take (i + 1)) = Va.szL (l.take i) + Va.sz x := by
  rw [List.take_add_one, h, Option.toList, ndsL_app, szL_app, ndsL, ndsL, Va.szL, Va.szL, List.append_nil]
  exact ⟨rfl, by omega⟩
/-- A node's Subs, so many put in. -/
def subsAt (b : Nat) (l : List V) (i : Nat) : List Int := ((posL b l).take i).map Int.ofNat ++ List.replicate (l.length - i) 0
theorem subsAt_len {b : Nat} {l : List V} {i : Nat} (h : i ≤ l.length) : (subsAt b l i).length = l.length := by
  unfold subsAt
  rw [List.length_append, List.length_map, List.length_take, posL_len, List.length_replicate]; omega
theorem subsAt_zero (b : Nat) (l : List V) : subsAt b l 0 = List.replicate l.length 0 := by unfold subsAt; simp
theorem subsAt_all (b : Nat) (l : List V) : subsAt b l l.length = (posL b l).map Int.ofNat := by
  unfold subsAt; rw [Nat.sub_self, List.replicate_zero, List.append_nil, List.take_of_length_le (by rw [posL_len]; exact Nat.le_refl _)]
theorem subsAt_set {b : Nat} {l : List V} {i : Nat} (h : i < l.length) : (subsAt b l i).set i ((b + Va.szL (l.take i) : Nat) : Int) = subsAt b l (i + 1) := by
  unfold subsAt
  have hl : (((posL b l).take i).map Int.ofNat).length = i := by rw [List.length_map, List.length_take, posL_len]; omega
  rw [List.set_append_right _ _ (by omega), hl, Nat.sub_self, show l.length - i = (l.length - (i + 1)) + 1 by omega, List.replicate_succ, List.set_cons_zero, List.take_add_one, posL_get b l i h, Option.toList, List.map_append, List.append_assoc]
  rfl
theorem set_mid {α : Type} (L R : List α) (a b : α) : (L ++ a :: R).set L.length b = L ++ b :: R := by
  rw [List.set_append_right _ _ (Nat.le_refl _), Nat.sub_self, List.set_cons_zero]
/-- A place put in. -/
theorem GR.sub {base g C me i : Nat} {w : World} {L : List Nd} {B : Nat → Nat} {x : Nd} (h : GR base g C w L B) (hx : L[me]? = some x) (hi : i < x.subs.length) :
    ∃ ub c y, w.cell? ⟨g, me * 7 + 4, none⟩ = some (.slice (some ⟨ub, 0, none⟩) x.subs.length c) ∧ x.subs.length ≤ c ∧ B me ≤ ub ∧ ub < B (me + 1) ∧ ub ≠ g ∧ w.cell? ⟨ub, i, none⟩ = some (.int .i64 y) ∧ w.frozen? ⟨ub, i, none⟩ = false ∧
      ∀ z, i64 z → GR base g C (w.setCell ⟨ub, i, none⟩ (.int .i64 z)) (L.set me { x with subs := x.subs.set i z }) B := by
  have hmel := (List.getElem?_eq_some_iff.1 hx).1
  obtain ⟨xs, ho, hxs⟩ := h.row
  obtain ⟨K, S, U, a, b, c, h1, h2⟩ := hxs me x hx
  rcases h2.ru with ⟨_, e2, _⟩ | ⟨ub, rfl, rfl, hr⟩
  · omega
  have hlt := hr.lt ub rfl
  have hc4 : w.cell? ⟨g, me * 7 + 4, none⟩ = some (.slice (some ⟨ub, 0, none⟩) x.subs.length x.subs.length) := by
    have := h1 4 _ rfl
    rw [ho.cellAt (me * 7 + 4) (by omega)]; exact this
  obtain ⟨y, hy⟩ := get_lt hi
  have hcy : w.cell? ⟨ub, i, none⟩ = some (.int .i64 y) := by
    rw [hr.cellAt i (by omega)]; unfold inC; rw [List.getElem?_map, hy]; rfl
  have gub : g < ub := Nat.lt_of_lt_of_le h.low (Nat.le_trans (h.mono2 (Nat.zero_le _) (Nat.le_of_lt hmel)) hlt.1)
  refine ⟨ub, x.subs.length, y, hc4, Nat.le_refl _, hlt.1, h2.hu ub 0 rfl, by omega, hcy, hr.frozenAt i, fun z hz => ?_⟩
  obtain ⟨hst, hgr⟩ := hr.stored i (.int .i64 z)
  have oth : ∀ k, k ≠ ub → (w.setCell ⟨ub, i, none⟩ (.int .i64 z)).heap[k]? = w.heap[k]? := fun k hk => Go.RowKit.Below.heap_setCell _ _ _ _ hk
  have ssz : (w.setCell ⟨ub, i, none⟩ (.int .i64 z)).heap.size = w.heap.size := by simp
  refine ⟨⟨xs, ?_, fun j q hj => ?_⟩, by rw [List.length_set]; exact h.mono, h.low, by rw [List.length_set, ssz]; exact h.high⟩
  · rw [List.length_set]
    exact own_on ho fun k hk => oth k (by have e : g = k := by simpa [Value.ownBlock] using hk
                                          omega)
  · by_cases e : me = j
    · subst e
      rw [List.getElem?_set_self (by omega)] at hj
      injection hj with hj
      subst hj
      have hls : (x.subs.set i z).length = x.subs.length := List.length_set ..
      refine ⟨K, S, some ⟨ub, 0, none⟩, a, b, x.subs.length, fun j u hu => h1 j u (by simp only [ndC, hls] at hu; exact hu), ?_⟩
      have kr : ∀ {e : TypeId} {s : Nat} {R : Option Addr} {d n : Nat} {ys : List Value}, e ≠ 3 → RO (B me) w e s R d n ys → RO (B me) (w.setCell ⟨ub, i, none⟩ (.int .i64 z)) e s R d n ys := fun he hh => by
        rcases hh with hh | ⟨g2, e1, e2, hh⟩
        · exact .inl hh
        · refine .inr ⟨g2, e1, e2, own_on hh fun k hk => oth k ?_⟩
          obtain rfl : g2 = k := by simpa [Value.ownBlock] using hk
          intro e9
          subst e9
          rcases hh.2 with ⟨q, _⟩ | ⟨g3, c3, cur3, q, _, hh3, _⟩
          · cases q
          · rcases hr.2 with ⟨q', _⟩ | ⟨g4, c4, cur4, q', _, hh4, _⟩
            · cases q'
            · injection q with q _ _; injection q with q; injection q with q _ _
              injection q' with q' _ _; injection q' with q'; injection q' with q' _ _
              subst q q'
              rw [hh3] at hh4
              injection hh4 with hh4
              injection hh4 with _ hh4 _
              exact he hh4
      have hs0 : inC (x.subs.set i z) = (inC x.subs).set i (.int .i64 z) := by unfold inC; rw [List.map_set]
      refine { k := h2.k, ka := h2.ka, sb := h2.sb, uc := by rw [hls]; exact h2.uc, rk := kr (by decide) h2.rk, rs := kr (by decide) h2.rs, ru := ?_, hk := h2.hk, hs := h2.hs, hu := h2.hu, is := h2.is, iu := fun s hs => ?_, sp := h2.sp }
      · show RO (B me) _ 3 1 (some ⟨ub, 0, none⟩) x.subs.length (x.subs.set i z).length (inC (x.subs.set i z))
        rw [hls, hs0]
        exact .inr ⟨ub, rfl, rfl, hst⟩
      · rcases List.mem_or_eq_of_mem_set hs with hs | rfl
        · exact h2.iu s hs
        · exact hz
    · rw [List.getElem?_set_ne e] at hj
      obtain ⟨K', S', U', a', b', c', p1, p2⟩ := hxs j q hj
      have hjl := (List.getElem?_eq_some_iff.1 hj).1
      refine ⟨K', S', U', a', b', c', p1, p2.keep fun k h3 h4 _ => oth k fun e9 => ?_⟩
      subst e9
      have hub := h2.hu k 0 rfl
      rcases Nat.lt_or_ge j me with h5 | h5
      · have := h.mono2 (i := j + 1) (j := me) (by omega) (by omega)
        omega
      · have := h.mono2 (i := me + 1) (j := j) (by omega) (by omega)
        omega
end Tt
end Go.Proofs.YtggeiajbcehkjaaGreatDoor
/- What landed of trees: a value's node that leads nowhere so far. -/
namespace Go.Proofs.YtggeiajbcehkjaaGreatDoor
open Go.RowKit
open Va (Bs V v0 Tx Vm Vk Vr vO below_tr below_new heap_alloc_new get_lt vcells vm_zero clone_any own_on cell_eq TxO)
namespace Tt
set_option maxRecDepth 100000

set_option maxHeartbeats 16000000 in
theorem alone_any {k : Nat} {t : Bs} {l : List V} {ks : List Bs} {v : Value} (w : World) (hv : Vm w v (.mk k t l ks)) (hx : Va.wt (.mk k t l ks) ≤ 1000000) :
    Calls Tryz.prog 65 #[v] w fun e w' => (∃ K S U a b c, e = .returned (.agg #[.int .u8 k, .string (txt t), .slice K ks.length a, .slice S ks.length b, .slice U l.length c, m1, m1]) ∧
      RO w.heap.size w' 9 1 K a ks.length (ks.map fun t => .string (txt t)) ∧ RO w.heap.size w' 43 2 S b ks.length (List.replicate (ks.length * 2) m1) ∧ RO w.heap.size w' 3 1 U c l.length (List.replicate l.length i0)) ∧ Below w.heap.size w w' := by
  obtain ⟨A, B, c, d, rfl, hk, hl, hc, hA, hd, hd2, hB, hK, hV⟩ := hv.inv
  have hn9 : l.length ≤ 1000000 := by have := Va.wtL_len l; rw [Va.wt] at hx; omega
  have hm9 : ks.length ≤ 1000000 := by rw [Va.wt] at hx; omega
  have HTL := Lib.hid (show t.length ≤ 1000000 ∧ ∀ s ∈ ks, s.length ≤ 1000000 from by
    rw [Va.wt] at hx
    refine ⟨by omega, fun s hs => ?_⟩
    obtain ⟨i, hi, e⟩ := List.getElem_of_mem hs
    have h2 := Va.kw_drop (ks := ks) (i := i) (t := s) (by rw [List.getElem?_eq_getElem hi, e])
    have h3 := Va.kw_app (ks.take i) (ks.drop i)
    rw [List.take_append_drop] at h3
    omega)
  obtain ⟨T, hT⟩ : ∃ T, T = txt t := ⟨_, rfl⟩
  obtain ⟨n, hn⟩ : ∃ n, n = l.length := ⟨_, rfl⟩
  obtain ⟨m, hm⟩ : ∃ n, n = ks.length := ⟨_, rfl⟩
  rw [← hT, ← hn, ← hm]
  rw [← hn] at hn9 hl
  rw [← hm] at hm9 hd
  have HK := Lib.hid hK
  have HV := Lib.hid hV
  have HN := Lib.hid hn
  have HM := Lib.hid hm
  have HTX := Lib.hid hT
  have HCC := Lib.hid (And.intro hA (And.intro hl (And.intro hB hd)))
  clear hK hV hn hm hT hx hv hA hl hB hd hc hd2
  obtain ⟨h, hh⟩ : ∃ h, h = w.heap.size := ⟨_, rfl⟩
  obtain ⟨W3, hW3⟩ : ∃ W, W = ((w.alloc (vO (.int .u8 k) (.string T) (.slice A n c) (.slice B m d))).alloc (nO [.int .u8 0, .string ⟨#[]⟩, .slice none 0 0, .slice none 0 0, .slice none 0 0, .int .i64 0, .int .i64 0])).alloc (.cells #[m1, m1] 43) := ⟨_, rfl⟩
  have F3 : Below w.heap.size w W3 ∧ W3.heap.size = h + 3 ∧ W3.heap[h]? = some (vO (.int .u8 k) (.string T) (.slice A n c) (.slice B m d)) ∧ W3.heap[h + 1]? = some (nO [.int .u8 0, .string ⟨#[]⟩, .slice none 0 0, .slice none 0 0, .slice none 0 0, .int .i64 0, .int .i64 0]) ∧ W3.heap[h + 2]? = some (.cells #[m1, m1] 43) := by
    have o1 : ∀ (W : World) (o : Obj) (g : Nat), g < W.heap.size → (W.alloc o).heap[g]? = W.heap[g]? := fun W o g hg => by show (W.heap.push o)[g]? = _; rw [Array.getElem?_push_lt hg, Array.getElem?_eq_getElem hg]
    rw [hh, hW3]
    refine ⟨((Below.refl _ _).alloc (Nat.le_refl _) _ |>.alloc (by rw [s1]; omega) _).alloc (by rw [s1, s1]; omega) _, by rw [s1, s1, s1], ?_, ?_, ?_⟩
    · rw [o1 _ _ _ (by rw [s1, s1]; omega), o1 _ _ _ (by rw [s1]; omega)]; exact heap_alloc_new ..
    · rw [o1 _ _ _ (by rw [s1, s1]; omega)]
      have := heap_alloc_new (w.alloc (vO (.int .u8 k) (.string T) (.slice A n c) (.slice B m d))) (nO [.int .u8 0, .string ⟨#[]⟩, .slice none 0 0, .slice none 0 0, .slice none 0 0, .int .i64 0, .int .i64 0])
      rw [s1] at this; exact this
    · have := heap_alloc_new ((w.alloc (vO (.int .u8 k) (.string T) (.slice A n c) (.slice B m d))).alloc (nO [.int .u8 0, .string ⟨#[]⟩, .slice none 0 0, .slice none 0 0, .slice none 0 0, .int .i64 0, .int .i64 0])) (.cells #[m1, m1] 43)
      rw [s1, s1] at this; exact this
  have HF3 := Lib.hid F3
  have HW3 := Lib.hid hW3
  clear F3 hW3
  go_enter Tryz.func65, Tryz.ntmps65
  go_upto_region 2 with fail
  rw [← HW3.out, ← hh]
  have HH := Lib.hid hh
  clear HW3 hh
  have CL := Lib.hid (fun (X : World) => clone_any (s := T) X (by rw [HTX.out, txt_size]; exact HTL.out.1))
  have CT := Lib.hid (fun (X : World) (hX : Below W3.heap.size W3 X) => teachT_any (n := m) (c := d) X (HK.out.on (below_tr HF3.out.1 hX)) HM.out hm9 HCC.out.2.2.1 HCC.out.2.2.2 HTL.out.2)
  have CS := Lib.hid (fun (X : World) (hX : Below W3.heap.size W3 X) => eachS_any (n := m) (c := d) (q := h + 1 + 1) X (HK.out.on (below_tr HF3.out.1 hX)) HM.out hm9 HCC.out.2.2.1 HCC.out.2.2.2 ((hX.block _ (by have := HF3.out.2.1; omega)).trans HF3.out.2.2.2.2))
  have CI := Lib.hid (fun (X : World) (hX : Below W3.heap.size W3 X) => eachI_any (n := n) (c := c) X (HV.out.on (below_tr HF3.out.1 hX)) HN.out hn9 HCC.out.1 HCC.out.2.1)
  have SC := Lib.hid (fun (X : World) (h1 : Below W3.heap.size W3 X) => show X.cell? ⟨h, 0, none⟩ = some (.int .u8 k) ∧ X.cell? ⟨h, 1, none⟩ = some (.string T) ∧ X.cell? ⟨h, 2, none⟩ = some (.slice A n c) ∧ X.cell? ⟨h, 3, none⟩ = some (.slice B m d) ∧ X.cell? ⟨h + 1 + 1, 0, none⟩ = some m1 ∧ X.cell? ⟨h + 1 + 1, 1, none⟩ = some m1 from by
    have e : X.heap[h]? = some (vO (.int .u8 k) (.string T) (.slice A n c) (.slice B m d)) := by rw [h1.block _ (by have := HF3.out.2.1; omega)]; exact HF3.out.2.2.1
    have e2 : X.heap[h + 1 + 1]? = some (.cells #[m1, m1] 43) := by rw [h1.block _ (by have := HF3.out.2.1; omega)]; exact HF3.out.2.2.2.2
    exact ⟨by simp [World.cell?, e], by simp [World.cell?, e], by simp [World.cell?, e], by simp [World.cell?, e], by simp [World.cell?, e2], by simp [World.cell?, e2]⟩)
  have S0 := Lib.hid (show Below W3.heap.size W3 W3.drew from (Below.refl _ _).drew)
  have ZP := Lib.hid (fun (X : World) (h1 : Below W3.heap.size W3 X) => show (X.cell? ⟨h + 1, 0, none⟩ = some (.int .u8 0) ∧ X.cell? ⟨h + 1, 1, none⟩ = some (.string ⟨#[]⟩) ∧ X.cell? ⟨h + 1, 2, none⟩ = some (.slice none 0 0) ∧ X.cell? ⟨h + 1, 3, none⟩ = some (.slice none 0 0) ∧ X.cell? ⟨h + 1, 4, none⟩ = some (.slice none 0 0) ∧ X.cell? ⟨h + 1, 5, none⟩ = some (.int .i64 0) ∧ X.cell? ⟨h + 1, 6, none⟩ = some (.int .i64 0)) ∧ ∀ j, X.frozen? ⟨h + 1, j, none⟩ = false from by
    have e : X.heap[h + 1]? = some (nO [.int .u8 0, .string ⟨#[]⟩, .slice none 0 0, .slice none 0 0, .slice none 0 0, .int .i64 0, .int .i64 0]) := by rw [h1.block _ (by have := HF3.out.2.1; omega)]; exact HF3.out.2.2.2.1
    exact ⟨by simp [World.cell?, e], fun j => by simp [World.frozen?, e]⟩)
  have S7 := Lib.hid (fun (X : World) (a1 b1 c1 d1 e1 f1 g1 : Value) (h1 : X.cell? ⟨h, 0, none⟩ = some (.int .u8 k) ∧ X.cell? ⟨h, 1, none⟩ = some (.string T) ∧ X.cell? ⟨h, 2, none⟩ = some (.slice A n c) ∧ X.cell? ⟨h, 3, none⟩ = some (.slice B m d) ∧ X.cell? ⟨h + 1 + 1, 0, none⟩ = some m1 ∧ X.cell? ⟨h + 1 + 1, 1, none⟩ = some m1) => show (set7 X (h + 1) a1 b1 c1 d1 e1 f1 g1).cell? ⟨h, 0, none⟩ = some (.int .u8 k) ∧ (set7 X (h + 1) a1 b1 c1 d1 e1 f1 g1).cell? ⟨h, 1, none⟩ = some (.string T) ∧ (set7 X (h + 1) a1 b1 c1 d1 e1 f1 g1).cell? ⟨h, 2, none⟩ = some (.slice A n c) ∧ (set7 X (h + 1) a1 b1 c1 d1 e1 f1 g1).cell? ⟨h, 3, none⟩ = some (.slice B m d) ∧ (set7 X (h + 1) a1 b1 c1 d1 e1 f1 g1).cell? ⟨h + 1 + 1, 0, none⟩ = some m1 ∧ (set7 X (h + 1) a1 b1 c1 d1 e1 f1 g1).cell? ⟨h + 1 + 1, 1, none⟩ = some m1 from
    ⟨(set7_cell X (h + 1) a1 b1 c1 d1 e1 f1 g1 h 0 (by omega)).trans h1.1, (set7_cell X (h + 1) a1 b1 c1 d1 e1 f1 g1 h 1 (by omega)).trans h1.2.1, (set7_cell X (h + 1) a1 b1 c1 d1 e1 f1 g1 h 2 (by omega)).trans h1.2.2.1, (set7_cell X (h + 1) a1 b1 c1 d1 e1 f1 g1 h 3 (by omega)).trans h1.2.2.2.1, (set7_cell X (h + 1) a1 b1 c1 d1 e1 f1 g1 (h + 1 + 1) 0 (by omega)).trans h1.2.2.2.2.1, (set7_cell X (h + 1) a1 b1 c1 d1 e1 f1 g1 (h + 1 + 1) 1 (by omega)).trans h1.2.2.2.2.2⟩)
  have FIN := Lib.hid (fun (w4 w5 w6 w7 : World) (K5 S6 U7 : Option Addr) (c5 c6 c7 : Nat) (b4 : Below W3.heap.size W3 w4) (b5 : Below W3.heap.size W3 w5) (b6 : Below W3.heap.size W3 w6) (b7 : Below W3.heap.size W3 w7) (l5 : w4.heap.size ≤ w5.heap.size) (x6 : Below w5.heap.size w5 w6) (x7 : Below w6.heap.size w6 w7) (k5 : TxO w4.heap.size w5 K5 c5 ks) (s6 : RO w5.heap.size w6 43 2 S6 c6 m (List.replicate (m * 2) m1)) (u7 : RO w6.heap.size w7 3 1 U7 c7 n (List.replicate n i0)) =>
    show Below w.heap.size w (set7 w7 (h + 1) (.int .u8 k) (.string T) (.slice K5 m c5) (.slice S6 m c6) (.slice U7 n c7) m1 m1) ∧ (set7 w7 (h + 1) (.int .u8 k) (.string T) (.slice K5 m c5) (.slice S6 m c6) (.slice U7 n c7) m1 m1).heap[h + 1]? = some (nO [.int .u8 k, .string T, .slice K5 m c5, .slice S6 m c6, .slice U7 n c7, m1, m1]) ∧ RO w.heap.size (set7 w7 (h + 1) (.int .u8 k) (.string T) (.slice K5 m c5) (.slice S6 m c6) (.slice U7 n c7) m1 m1) 9 1 K5 c5 m (ks.map fun t => .string (txt t)) ∧ RO w.heap.size (set7 w7 (h + 1) (.int .u8 k) (.string T) (.slice K5 m c5) (.slice S6 m c6) (.slice U7 n c7) m1 m1) 43 2 S6 c6 m (List.replicate (m * 2) m1) ∧ RO w.heap.size (set7 w7 (h + 1) (.int .u8 k) (.string T) (.slice K5 m c5) (.slice S6 m c6) (.slice U7 n c7) m1 m1) 3 1 U7 c7 n (List.replicate n i0) from by
    have hle : w.heap.size ≤ h + 1 := by have := HH.out; omega
    have z3 := HF3.out.2.1
    have zh := HH.out
    have z4 := b4.size
    have z6 := x6.size
    have z7 := x7.size
    have e := (b7.block (h + 1) (by omega)).trans HF3.out.2.2.2.1
    refine ⟨set7_below (below_tr HF3.out.1 b7) hle _ _ _ _ _ _ _, set7_same e _ _ _ _ _ _ _, ?_, ?_, ?_⟩
    · have := txo_ro k5
      rw [← HM.out] at this
      exact (this.keep (fun g h1 h2 => by rw [set7_other _ _ _ _ _ _ _ _ _ g (by omega), x7.block g (by omega), x6.block g h2])).low (by omega)
    · exact (s6.keep (fun g h1 h2 => by rw [set7_other _ _ _ _ _ _ _ _ _ g (by omega), x7.block g h2])).low (by omega)
    · exact (u7.keep (fun g h1 h2 => set7_other _ _ _ _ _ _ _ _ _ g (by omega))).low (by omega))
  go_cut [21] from 5 to 21 (fun a9 wx => ∃ K5 S6 U7 c5 c6 c7, a9 = .agg #[.int .u8 k, .string T, .slice K5 m c5, .slice S6 m c6, .slice U7 n c7, m1, m1] ∧ Hid (Below w.heap.size w wx ∧ wx.heap[h + 1]? = some (nO [.int .u8 k, .string T, .slice K5 m c5, .slice S6 m c6, .slice U7 n c7, m1, m1]) ∧ RO w.heap.size wx 9 1 K5 c5 m (ks.map fun t => .string (txt t)) ∧ RO w.heap.size wx 43 2 S6 c6 m (List.replicate (m * 2) m1) ∧ RO w.heap.size wx 3 1 U7 c7 n (List.replicate n i0)))
  case first =>
   go_region_held_law (fun X => X.cell? ⟨h, 0, none⟩ = some (.int .u8 k) ∧ X.cell? ⟨h, 1, none⟩ = some (.string T) ∧ X.cell? ⟨h, 2, none⟩ = some (.slice A n c) ∧ X.cell? ⟨h, 3, none⟩ = some (.slice B m d) ∧ X.cell? ⟨h + 1 + 1, 0, none⟩ = some m1 ∧ X.cell? ⟨h + 1 + 1, 1, none⟩ = some m1)
    (first | with_reducible exact SC.out _ S0.out | with_reducible exact SC.out _ HB4.out | with_reducible exact SC.out _ HB5.out | with_reducible exact SC.out _ HB6.out | with_reducible exact SC.out _ HB7.out | exact S7.out _ _ _ _ _ _ _ _ (SC.out _ HB7.out))
    (first
      | (go_simp; go_at_call 54; refine (CL.out _).mono ?_; rintro e w4 ⟨rfl, hb4⟩; have HB4 := Lib.hid (below_tr S0.out hb4); clear hb4)
      | (go_simp; go_at_call 57; refine (CT.out _ HB4.out).mono ?_; rintro e w5 ⟨⟨K5, c5, rfl, hK5⟩, hb5⟩; have HK5 := Lib.hid hK5; have HB5 := Lib.hid (below_tr HB4.out hb5); have HL5 := Lib.hid hb5.size; clear hb5 hK5)
      | (go_simp; go_at_call 91; refine (CS.out _ HB5.out).mono ?_; rintro e w6 ⟨⟨S6, c6, rfl, hS6⟩, hb6⟩; have HS6 := Lib.hid hS6; have HB6 := Lib.hid (below_tr HB5.out hb6); have HX6 := Lib.hid hb6; clear hb6 hS6)
      | (go_simp; go_at_call 93; refine (CI.out _ HB6.out).mono ?_; rintro e w7 ⟨⟨U7, c7, rfl, hU7⟩, hb7⟩; have HU7 := Lib.hid hU7; have HB7 := Lib.hid (below_tr HB6.out hb7); have HX7 := Lib.hid hb7; clear hb7 hU7; obtain ⟨⟨r0, r1, r2, r3, r4, r5, r6⟩, fz⟩ := ZP.out w7 HB7.out))
   all_goals
    have FF := Lib.hid (FIN.out w4 w5 w6 w7 K5 S6 U7 c5 c6 c7 HB4.out HB5.out HB6.out HB7.out HL5.out HX6.out HX7.out HK5.out HS6.out HU7.out)
    clear CL CT CS CI SC S0 ZP S7 HK5 HS6 HU7 FIN
    go_wp2_with fail
    go_meet
    exact ⟨_, _, _, _, _, _, rfl, FF⟩
  case rest =>
    obtain ⟨K5, S6, U7, c5, c6, c7, rfl, HF⟩ := hcut
    clear CL CT CS CI SC S0 ZP S7 FIN
    have e := HF.out.2.1
    have q0 : wc.cell? ⟨h + 1, 0, none⟩ = some (.int .u8 k) := by simp [World.cell?, e]
    have q1 : wc.cell? ⟨h + 1, 1, none⟩ = some (.string T) := by simp [World.cell?, e]
    have q2 : wc.cell? ⟨h + 1, 2, none⟩ = some (.slice K5 m c5) := by simp [World.cell?, e]
    have q3 : wc.cell? ⟨h + 1, 3, none⟩ = some (.slice S6 m c6) := by simp [World.cell?, e]
    have q4 : wc.cell? ⟨h + 1, 4, none⟩ = some (.slice U7 n c7) := by simp [World.cell?, e]
    have q5 : wc.cell? ⟨h + 1, 5, none⟩ = some m1 := by simp [World.cell?, e]
    have q6 : wc.cell? ⟨h + 1, 6, none⟩ = some m1 := by simp [World.cell?, e]
    clear e
    go_wp2_with fail
    refine bodyPost_ret (v := .agg #[.int .u8 k, .string T, .slice K5 m c5, .slice S6 m c6, .slice U7 n c7, m1, m1]) (by simp [results, Tryz.results65, go_sem, *]) rfl ?_
    exact ⟨⟨K5, S6, U7, c5, c6, c7, by first | rfl | trivial, HF.out.2.2⟩, HF.out.1⟩
end Tt
end Go.Proofs.YtggeiajbcehkjaaGreatDoor
