/- What landed of values: a copy of a value, in blocks of its own. -/
import Derived.Test.YtnnlgodgaolkkaaGreatDoorMam
namespace Go.Proofs.YtnnlgodgaolkkaaGreatDoor
open Go.RowKit
namespace Va
set_option maxRecDepth 100000

theorem RV.block {N base lo : Nat} {w : World} {g n : Nat} {L : List V} (h : RV N base lo w g n L) : base ≤ g ∧ ∃ cur, w.heap[g]? = some (.cells cur 26 (0, 0)) ∧ n ≤ maxLen := by
  obtain ⟨xs, h, _⟩ := h
  rcases h.2 with ⟨e, _⟩ | ⟨g', c, cur, e, h1, h2, _, h4, _⟩
  · cases e
  · injection e with e1 _ e3; injection e1 with e1; injection e1 with e1 _ _; subst e1 e3
    exact ⟨h1, cur, h2, h4⟩
theorem RT.block {base : Nat} {w : World} {g n : Nat} {L : List Bs} (h : RT base w g n L) : base ≤ g ∧ ∃ cur, w.heap[g]? = some (.cells cur 9 (0, 0)) := by
  rcases h.2 with ⟨e, _⟩ | ⟨g', c, cur, e, h1, h2, _⟩
  · cases e
  · injection e with e1 _ _; injection e1 with e1; injection e1 with e1 _ _; subst e1
    exact ⟨h1, cur, h2⟩
/-- A value put together of a row of copies and a row of texts. -/
theorem own_value {N lo lo2 k : Nat} {w1 w : World} {t : Bs} {l : List V} {ks : List Bs} {R K : Option Addr} {c d : Nat} (hk : k < 256) (hn : l.length ≤ 1000000) (hm : ks.length ≤ 1000000) (hR : RVO N lo w1 R c l) (hb : ∀ g, lo ≤ g → g < w1.heap.size → w.heap[g]? = w1.heap[g]?) (hbs : w1.heap.size ≤ w.heap.size) (h12 : w1.heap.size ≤ lo2) (h01 : lo ≤ lo2) (hK : TxO lo2 w K d ks) :
    CP (N + 1) lo w (.agg #[.int .u8 k, .string (txt t), .slice R l.length c, .slice K ks.length d]) (.mk k t l ks) := by
  have hml : maxLen = 9223372036854775807 := rfl
  have hcd : ks.length ≤ d ∧ d ≤ 1000000 ∧ (K = none → d = 0) ∧ (0 < d → ∃ gk, K = some ⟨gk, 0, none⟩ ∧ d = ks.length ∧ RT lo2 w gk ks.length ks) := by
    rcases hK with ⟨rfl, rfl, rfl⟩ | ⟨gk, rfl, rfl, h⟩
    · exact ⟨Nat.le_refl _, Nat.zero_le _, fun _ => rfl, fun h => absurd h (by omega)⟩
    · exact ⟨Nat.le_refl _, hm, (fun h => by cases h), fun _ => ⟨gk, rfl, rfl, h⟩⟩
  have hcc : l.length ≤ c ∧ c ≤ 1000000 ∧ (R = none → c = 0) ∧ (0 < c → ∃ g, R = some ⟨g, 0, none⟩ ∧ c = l.length ∧ RV N lo (g + 1) w1 g l.length l) := by
    rcases hR with ⟨rfl, rfl, rfl⟩ | ⟨g, rfl, rfl, h⟩
    · exact ⟨Nat.le_refl _, Nat.zero_le _, fun _ => rfl, fun h => absurd h (by omega)⟩
    · exact ⟨Nat.le_refl _, hn, (fun h => by cases h), fun _ => ⟨g, rfl, rfl, h⟩⟩
  obtain ⟨xs, OK, hX⟩ : ∃ (xs : List Value) (OK : Nat → Nat → Prop), (∀ i x, l[i]? = some x → (∃ a b c d, xs[i * 4]? = some a ∧ xs[i * 4 + 1]? = some b ∧ xs[i * 4 + 2]? = some c ∧ xs[i * 4 + 3]? = some d ∧ Vk w (OK i) (.agg #[a, b, c, d]) x ∧ Vp N w (OK i) (.agg #[a, b, c, d])) ∧
      ∀ q, OK i q → lo ≤ q ∧ q < w1.heap.size ∧ (∀ g, R = some ⟨g, 0, none⟩ → g < q) ∧ ∀ j, j < l.length → j ≠ i → ¬ OK j q) ∧ ∀ g, 0 < c → R = some ⟨g, 0, none⟩ → lo ≤ g ∧ g < w1.heap.size ∧ w.ownsRow lo 26 4 (.slice (some ⟨g, 0, none⟩) l.length l.length) l.length xs := by
    by_cases hc : 0 < c
    · obtain ⟨g, rfl, _, xs, h1, oks, h2⟩ := hcc.2.2.2 hc
      have hlt := h1.lt g rfl
      refine ⟨xs, oks, fun i x hi => ?_, fun g' _ e => ?_⟩
      · obtain ⟨⟨a, b, c, d, e0, e1, e2, e3, hv, hp⟩, h3⟩ := h2 i x hi
        exact ⟨⟨a, b, c, d, e0, e1, e2, e3, hv.keep (fun q hq hl => hb q (by have := (h3 q hq).1; omega) hl) hbs, hp.keep (fun q hq hl => hb q (by have := (h3 q hq).1; omega) hl) hbs⟩, fun q hq => ⟨by have := (h3 q hq).1; omega, (h3 q hq).2.1, (fun g' e => by injection e with e; injection e with e _ _; subst e; exact (h3 q hq).1), (h3 q hq).2.2⟩⟩
      · injection e with e; injection e with e _ _; subst e
        exact ⟨hlt.1, hlt.2, own_on h1 fun k hk => hb k (h1.lt k hk).1 (h1.lt k hk).2⟩
    · have hl0 : l = [] := List.eq_nil_of_length_eq_zero (by omega)
      refine ⟨[], fun _ _ => False, fun i x hi => by rw [hl0] at hi; simp at hi, fun g h => absurd h hc⟩
  obtain ⟨hE, hO⟩ := hX
  refine ⟨fun q => (0 < d ∧ K = some ⟨q, 0, none⟩) ∨ (0 < c ∧ R = some ⟨q, 0, none⟩) ∨ ∃ i, i < l.length ∧ OK i q, ?_, ?_, ?_⟩
  · refine .mk k t l ks R K c d (fun i j => xs.getD (i * 4 + j) (.int .u8 0)) hk hcc.1 (by omega) hcc.2.2.1 hcd.1 (by omega) hcd.2.2.1 (fun h0 => ?_) (fun h0 => ?_) (fun h0 g o e => ?_) (fun h0 g o e => ?_) (fun i x hi => ?_)
    · obtain ⟨gk, rfl, _, h⟩ := hcd.2.2.2 (by omega)
      obtain ⟨g', e', _, hg', hf⟩ := own_cells h h0
      injection e' with e'; injection e' with e' _ _; subst e'
      exact ⟨gk, 0, rfl, hg', fun i s hi => by rw [Nat.zero_add]; exact hf i _ (by rw [List.getElem?_map, hi]; rfl)⟩
    · obtain ⟨g, rfl, _, _⟩ := hcc.2.2.2 (by omega)
      obtain ⟨_, _, h⟩ := hO g (by omega) rfl
      obtain ⟨g', e', _, hg', hf⟩ := own_cells h h0
      injection e' with e'; injection e' with e' _ _; subst e'
      refine ⟨g, 0, rfl, hg', fun i hi j hj => ?_⟩
      rw [Nat.zero_add]
      have hlt : i * 4 + j < xs.length := by rw [h.1]; omega
      exact hf _ _ (by rw [List.getD_eq_getElem?_getD, List.getElem?_eq_getElem hlt]; rfl)
    · obtain ⟨g', e', _, _⟩ := hcc.2.2.2 (by omega)
      rw [e'] at e; injection e with e; injection e with e _ _; subst e
      exact .inr (.inl ⟨by omega, e'⟩)
    · obtain ⟨g', e', _, _⟩ := hcd.2.2.2 (by omega)
      rw [e'] at e; injection e with e; injection e with e _ _; subst e
      exact .inl ⟨by omega, e'⟩
    · obtain ⟨⟨a, b, c, d, h0, h1, h2, h3, hv, _⟩, _⟩ := hE i x hi
      have e : ∀ {j : Nat} {y : Value}, xs[i * 4 + j]? = some y → xs.getD (i * 4 + j) (.int .u8 0) = y := fun h => by rw [List.getD_eq_getElem?_getD, h]; rfl
      rw [e (j := 0) h0, e h1, e h2, e h3]
      exact hv.to fun q _ h => .inr (.inr ⟨i, (List.getElem?_eq_some_iff.1 hi).1, h⟩)
  · refine ⟨k, txt t, R, K, l.length, c, ks.length, d, rfl, hcc.1, hcd.1, hcc.2.1, hcd.2.1, hcc.2.2.1, hcd.2.2.1, fun h0 => ?_, fun h0 => ?_⟩
    · obtain ⟨gk, rfl, hd, h⟩ := hcd.2.2.2 h0
      obtain ⟨h1, cur, h2⟩ := h.block
      obtain ⟨g', e', _, hg', hf⟩ := own_cells h (by omega)
      injection e' with e'; injection e' with e' _ _; subst e'
      refine ⟨gk, 0, rfl, .inl ⟨h0, rfl⟩, hg', ⟨cur, _, h2⟩, fun i hi => ?_⟩
      obtain ⟨s, hs⟩ := get_lt (l := ks) (i := i) (by omega)
      exact ⟨txt s, by rw [Nat.zero_add]; exact hf i _ (by rw [List.getElem?_map, hs]; rfl)⟩
    · obtain ⟨g, rfl, hcl, hrv⟩ := hcc.2.2.2 h0
      obtain ⟨hl1, hl2, h⟩ := hO g h0 rfl
      obtain ⟨_, cur, hcur, _⟩ := hrv.block
      obtain ⟨g', e', _, hg', hf⟩ := own_cells h (by omega)
      injection e' with e'; injection e' with e' _ _; subst e'
      refine ⟨g, 0, rfl, .inr (.inl ⟨h0, rfl⟩), hg', ⟨cur, _, (hb g hl1 hl2).trans hcur⟩, fun h p e hd => ?_, fun i j => xs.getD (i * 4 + j) (.int .u8 0), OK, fun i hi j hj => ?_, fun i hi => ?_⟩
      · obtain ⟨gk, e2, _, hh⟩ := hcd.2.2.2 hd
        rw [e2] at e; injection e with e; injection e with e _ _; subst e
        have := hh.block.1; omega
      · rw [Nat.zero_add]
        have hlt : i * 4 + j < xs.length := by rw [h.1]; omega
        exact hf _ _ (by show xs[i * 4 + j]? = some (xs.getD (i * 4 + j) (.int .u8 0)); rw [List.getD_eq_getElem?_getD, List.getElem?_eq_getElem hlt]; rfl)
      · obtain ⟨x, hx⟩ := get_lt (l := l) (i := i) (by omega)
        obtain ⟨⟨a, b, c', d', h0', h1, h2, h3, _, hp⟩, h4⟩ := hE i x hx
        have e : ∀ {j : Nat} {y : Value}, xs[i * 4 + j]? = some y → xs.getD (i * 4 + j) (.int .u8 0) = y := fun h => by rw [List.getD_eq_getElem?_getD, h]; rfl
        refine ⟨by dsimp only; rw [e (j := 0) h0', e h1, e h2, e h3]; exact hp, fun q hq => ⟨.inr (.inr ⟨i, by omega, hq⟩), by have := (h4 q hq).2.1; omega, by have := (h4 q hq).2.2.1 g rfl; omega, fun h p e hd => ?_, fun j hj hji => (h4 q hq).2.2.2 j (by omega) hji⟩⟩
        obtain ⟨gk, e2, _, hh⟩ := hcd.2.2.2 hd
        rw [e2] at e; injection e with e; injection e with e _ _; subst e
        have := hh.block.1; have := (h4 q hq).2.1; omega
  · rintro q (⟨h0, e⟩ | ⟨h0, e⟩ | ⟨i, hi, h0⟩)
    · obtain ⟨gk, e2, _, hh⟩ := hcd.2.2.2 h0
      rw [e2] at e; injection e with e; injection e with e _ _; subst e
      obtain ⟨h1, cur, h2⟩ := hh.block
      exact ⟨by omega, (Array.getElem?_eq_some_iff.1 h2).1⟩
    · obtain ⟨h1, h2, _⟩ := hO q h0 e
      exact ⟨h1, Nat.lt_of_lt_of_le h2 hbs⟩
    · obtain ⟨x, hx⟩ := get_lt (l := l) (i := i) hi
      have := (hE i x hx).2 q h0
      exact ⟨this.1, Nat.lt_of_lt_of_le this.2.1 hbs⟩
theorem TxO.keep {lo : Nat} {w w' : World} {K : Option Addr} {d : Nat} {ks : List Bs} (h : TxO lo w K d ks) (hb : ∀ g, lo ≤ g → w'.heap[g]? = w.heap[g]?) : TxO lo w' K d ks := by
  rcases h with h | ⟨g, e, e2, h⟩
  · exact .inl h
  · exact .inr ⟨g, e, e2, own_on h fun k hk => hb k (h.lt k hk).1⟩
theorem vO_set1 {w : World} {g : Nat} {a b c d : Value} (v : Value) (h : w.heap[g]? = some (vO a b c d)) : (w.setCell ⟨g, 1, none⟩ v).heap[g]? = some (vO a v c d) := Go.heap_setCell_same w g 1 _ _ v h
theorem vO_set2 {w : World} {g : Nat} {a b c d : Value} (v : Value) (h : w.heap[g]? = some (vO a b c d)) : (w.setCell ⟨g, 2, none⟩ v).heap[g]? = some (vO a b v d) := Go.heap_setCell_same w g 2 _ _ v h
theorem vO_set3 {w : World} {g : Nat} {a b c d : Value} (v : Value) (h : w.heap[g]? = some (vO a b c d)) : (w.setCell ⟨g, 3, none⟩ v).heap[g]? = some (vO a b c v) := Go.heap_setCell_same w g 3 _ _ v h
theorem keep_other {w : World} {g h : Nat} {k : Nat} {v : Value} {o : Obj} (hg : w.heap[g]? = some o) (hne : g ≠ h) : (w.setCell ⟨h, k, none⟩ v).heap[g]? = some o := (Go.RowKit.Below.heap_setCell _ _ _ _ hne).trans hg
set_option maxHeartbeats 16000000 in
theorem own_any : ∀ (N : Nat) (x : V), wt x ≤ N → N ≤ 1000000 → ∀ (w : World) (v : Value), Vm w v x →
    Calls Tryz.prog 44 #[v] w fun e w' => (∃ u, e = .returned u ∧ CP N w.heap.size w' u x) ∧ Below w.heap.size w w'
  | 0, x, hx, _, _, _, _ => by have := wt_pos x; omega
  | N + 1, .mk k t l ks, hx, hN, w, v, hv => by
    have IH := Lib.hid (fun (i : Nat) (x : V) (v : Value) (w : World) (hi : l[i]? = some x) (h : Vm w v x) => own_any N x (by have := wt_sub (k := k) (t := t) (ks := ks) hi; omega) (by omega) w v h)
    have HVO := Lib.hid (Vk.invo (Vk.to hv (fun g hg _ => hg) : Vk w (fun g => g < w.heap.size) v (.mk k t l ks)))
    obtain ⟨A, B, c, d, rfl, hk, hl, hc, hA, hd, hd2, hB, hK, hV⟩ := hv.inv
    have hn0 : l.length ≤ 1000000 := by have := wtL_len l; rw [wt] at hx; omega
    have hm0 : ks.length ≤ 1000000 := by rw [wt] at hx; omega
    have HTS := Lib.hid (show t.length ≤ 1000000 ∧ ∀ s ∈ ks, s.length ≤ 1000000 from by
      rw [wt] at hx
      refine ⟨by omega, fun s hs => ?_⟩
      obtain ⟨i, hi, e⟩ := List.getElem_of_mem hs
      have h2 := kw_drop (ks := ks) (i := i) (t := s) (by rw [List.getElem?_eq_getElem hi, e])
      have h3 := kw_app (ks.take i) (ks.drop i)
      rw [List.take_append_drop] at h3
      omega)
    have HVR := Lib.hid (show Vro w (fun g => g < w.heap.size) A l from by
      obtain ⟨A', B', c', d', e, _, h, _⟩ := HVO.out
      injection e with e
      have e := congrArg Array.toList e
      simp at e
      obtain ⟨⟨rfl, _, _⟩, _⟩ := e
      exact h)
    have CV := Lib.hid (fun (w' : World) (hb : Below w.heap.size w w') => eachV_any (N := N) (b0 := w.heap.size) (c := c) w' (Vrb.on (Vro.vrb HVR.out (Below.refl _ _)) hb) hb.size rfl hn0 hA hl (fun i x v w2 hi h => IH.out i x v w2 hi h))
    have CT := Lib.hid (fun (w' : World) (hb : Below w.heap.size w w') => eachT_any (c := d) w' (hK.on hb) rfl hm0 hB hd HTS.out.2)
    have HLM := Lib.hid (And.intro hn0 hm0)
    have HK := Lib.hid hk
    obtain ⟨T, hT⟩ : ∃ T, T = txt t := ⟨_, rfl⟩
    have CL := Lib.hid (fun (w' : World) => clone_any (s := T) w' (by rw [hT, txt_size]; exact HTS.out.1))
    obtain ⟨n, HN⟩ : ∃ n, Hid (n = l.length) := ⟨_, Lib.hid rfl⟩
    obtain ⟨m, HM⟩ : ∃ m, Hid (m = ks.length) := ⟨_, Lib.hid rfl⟩
    have HTT := Lib.hid hT
    rw [← HN.out] at CV
    rw [← HM.out] at CT
    rw [← HN.out, ← HM.out, ← hT]
    clear hV hK hv hT hx hN HVO hn0 hm0 hl hc hA hd hd2 hB IH hk
    obtain ⟨W1, hW1⟩ : ∃ W, W = w.alloc (vO (.int .u8 k) (.string T) (.slice A n c) (.slice B m d)) := ⟨_, rfl⟩
    obtain ⟨W2, hW2⟩ : ∃ W, W = W1.alloc (vO (.int .u8 0) (.string ⟨#[]⟩) (.slice none 0 0) (.slice none 0 0)) := ⟨_, rfl⟩
    have hb1 : Below w.heap.size w W1 := by rw [hW1]; exact below_new ..
    have hb2 : Below W1.heap.size W1 W2 := by rw [hW2]; exact below_new ..
    have hsz : W1.heap.size = w.heap.size + 1 := by rw [hW1]; show (w.heap.push _).size = _; rw [Array.size_push]
    have HO := Lib.hid (show W2.heap[w.heap.size]? = some (vO (.int .u8 k) (.string T) (.slice A n c) (.slice B m d)) from (hb2.block _ (by omega)).trans (by rw [hW1]; exact heap_alloc_new ..))
    have HO2 := Lib.hid (show W2.heap[W1.heap.size]? = some (vO (.int .u8 0) (.string ⟨#[]⟩) (.slice none 0 0) (.slice none 0 0)) from by rw [hW2]; exact heap_alloc_new ..)
    have HB2 := Lib.hid (below_tr hb1 hb2)
    have HW1 := Lib.hid hW1
    have HW2 := Lib.hid hW2
    have HSZ := Lib.hid hsz
    clear hW1 hW2 hb1 hb2 hsz
    go_enter Tryz.func44, Tryz.ntmps44
    go_upto_region 1 with fail
    rw [← HW1.out, ← HW2.out]
    obtain ⟨h2, hh2⟩ : ∃ h2, h2 = w.heap.size + 1 := ⟨_, rfl⟩
    have HO2 : Hid (W2.heap[h2]? = some (vO (.int .u8 0) (.string ⟨#[]⟩) (.slice none 0 0) (.slice none 0 0))) := by rw [hh2, ← HSZ.out]; exact HO2
    rw [← hh2]
    obtain ⟨h, hh⟩ : ∃ h, h = w.heap.size := ⟨_, rfl⟩
    rw [← hh] at HO ⊢
    have HHS := Lib.hid (show h = w.heap.size ∧ h2 = w.heap.size + 1 from ⟨hh, hh2⟩)
    have HNE := Lib.hid (show h2 ≠ h by have := HHS.out; omega)
    clear HW1 HW2 hh hh2
    obtain ⟨⟨x0, x1, x2, x3⟩, y0, y1, y2, y3⟩ := vcells HO.out
    go_wp2_with fail
    refine (CL.out _).mono ?_
    rintro e w3 ⟨rfl, hb⟩
    have HB3 := Lib.hid (below_tr HB2.out hb)
    have HO3 := Lib.hid (show w3.heap[h]? = some (vO (.int .u8 k) (.string T) (.slice A n c) (.slice B m d)) from (hb.block h (Array.getElem?_eq_some_iff.1 HO.out).1).trans HO.out)
    have HP3 := Lib.hid (show w3.heap[h2]? = some (vO (.int .u8 0) (.string ⟨#[]⟩) (.slice none 0 0) (.slice none 0 0)) from (hb.block h2 (Array.getElem?_eq_some_iff.1 HO2.out).1).trans HO2.out)
    clear hb x0 x1 x2 x3 y0 y1 y2 y3
    obtain ⟨⟨x0, x1, x2, x3⟩, y0, y1, y2, y3⟩ := vcells HO3.out
    go_upto_region 2 with fail
    obtain ⟨W4, hW4⟩ : ∃ W, W = w3.setCell ⟨h, 1, none⟩ (.string T) := ⟨_, rfl⟩
    rw [← hW4]
    have HO4 := Lib.hid (show W4.heap[h]? = some (vO (.int .u8 k) (.string T) (.slice A n c) (.slice B m d)) from by rw [hW4]; exact vO_set1 _ HO3.out)
    have HP4 := Lib.hid (show W4.heap[h2]? = some (vO (.int .u8 0) (.string ⟨#[]⟩) (.slice none 0 0) (.slice none 0 0)) from by rw [hW4]; exact keep_other HP3.out HNE.out)
    have HB4 := Lib.hid (show Below w.heap.size w W4 from by rw [hW4]; exact HB3.out.setCell (by have := HHS.out.1; show w.heap.size ≤ h; omega) _)
    clear hW4 x0 x1 x2 x3 y0 y1 y2 y3
    obtain ⟨⟨x0, x1, x2, x3⟩, y0, y1, y2, y3⟩ := vcells HO4.out
    go_wp2_with fail
    refine (CV.out _ HB4.out).mono ?_
    rintro e w5 ⟨⟨R, c5, rfl, hR⟩, hb⟩
    have HR := Lib.hid hR
    have HB5 := Lib.hid (below_tr HB4.out hb)
    have HO5 := Lib.hid (show w5.heap[h]? = some (vO (.int .u8 k) (.string T) (.slice A n c) (.slice B m d)) from (hb.block h (Array.getElem?_eq_some_iff.1 HO4.out).1).trans HO4.out)
    have HP5 := Lib.hid (show w5.heap[h2]? = some (vO (.int .u8 0) (.string ⟨#[]⟩) (.slice none 0 0) (.slice none 0 0)) from (hb.block h2 (Array.getElem?_eq_some_iff.1 HP4.out).1).trans HP4.out)
    have HS45 := Lib.hid hb.size
    have HL4 := Lib.hid (show h2 < W4.heap.size from (Array.getElem?_eq_some_iff.1 HP4.out).1)
    clear hb hR x0 x1 x2 x3 y0 y1 y2 y3
    obtain ⟨⟨x0, x1, x2, x3⟩, y0, y1, y2, y3⟩ := vcells HO5.out
    go_upto_region 3 with fail
    obtain ⟨W6, hW6⟩ : ∃ W, W = w5.setCell ⟨h, 2, none⟩ (.slice R n c5) := ⟨_, rfl⟩
    rw [← hW6]
    have HO6 := Lib.hid (show W6.heap[h]? = some (vO (.int .u8 k) (.string T) (.slice R n c5) (.slice B m d)) from by rw [hW6]; exact vO_set2 _ HO5.out)
    have HP6 := Lib.hid (show W6.heap[h2]? = some (vO (.int .u8 0) (.string ⟨#[]⟩) (.slice none 0 0) (.slice none 0 0)) from by rw [hW6]; exact keep_other HP5.out HNE.out)
    have HB6 := Lib.hid (show Below w.heap.size w W6 from by rw [hW6]; exact HB5.out.setCell (by have := HHS.out.1; show w.heap.size ≤ h; omega) _)
    have HG6 := Lib.hid (show w5.heap.size = W6.heap.size ∧ ∀ g, g ≠ h → W6.heap[g]? = w5.heap[g]? from by rw [hW6]; exact ⟨by simp, fun g hg => Go.RowKit.Below.heap_setCell _ _ _ _ hg⟩)
    clear hW6 x0 x1 x2 x3 y0 y1 y2 y3
    obtain ⟨⟨x0, x1, x2, x3⟩, y0, y1, y2, y3⟩ := vcells HO6.out
    go_wp2_with fail
    refine (CT.out _ HB6.out).mono ?_
    rintro e w7 ⟨⟨K, d7, rfl, hK7⟩, hb⟩
    have HK7 := Lib.hid hK7
    have HB7 := Lib.hid (below_tr HB6.out hb)
    have HBB7 := Lib.hid hb
    have HO7 := Lib.hid (show w7.heap[h]? = some (vO (.int .u8 k) (.string T) (.slice R n c5) (.slice B m d)) from (hb.block h (Array.getElem?_eq_some_iff.1 HO6.out).1).trans HO6.out)
    have HP7 := Lib.hid (show w7.heap[h2]? = some (vO (.int .u8 0) (.string ⟨#[]⟩) (.slice none 0 0) (.slice none 0 0)) from (hb.block h2 (Array.getElem?_eq_some_iff.1 HP6.out).1).trans HP6.out)
    clear hb hK7 x0 x1 x2 x3 y0 y1 y2 y3
    obtain ⟨⟨x0, x1, x2, x3⟩, y0, y1, y2, y3⟩ := vcells HO7.out
    go_upto_region 4 with fail
    obtain ⟨W8, hW8⟩ : ∃ W, W = w7.setCell ⟨h, 3, none⟩ (.slice K m d7) := ⟨_, rfl⟩
    rw [← hW8]
    have HO8 := Lib.hid (show W8.heap[h]? = some (vO (.int .u8 k) (.string T) (.slice R n c5) (.slice K m d7)) from by rw [hW8]; exact vO_set3 _ HO7.out)
    have HP8 := Lib.hid (show W8.heap[h2]? = some (vO (.int .u8 0) (.string ⟨#[]⟩) (.slice none 0 0) (.slice none 0 0)) from by rw [hW8]; exact keep_other HP7.out HNE.out)
    have HB8 := Lib.hid (show Below w.heap.size w W8 from by rw [hW8]; exact HB7.out.setCell (by have := HHS.out.1; show w.heap.size ≤ h; omega) _)
    have HG8 := Lib.hid (show w7.heap.size = W8.heap.size ∧ ∀ g, g ≠ h → W8.heap[g]? = w7.heap[g]? from by rw [hW8]; exact ⟨by simp, fun g hg => Go.RowKit.Below.heap_setCell _ _ _ _ hg⟩)
    clear hW8 x0 x1 x2 x3 y0 y1 y2 y3
    obtain ⟨⟨x0, x1, x2, x3⟩, y0, y1, y2, y3⟩ := vcells HO8.out
    obtain ⟨⟨q0, q1, q2, q3⟩, r0, r1, r2, r3⟩ := vcells HP8.out
    go_wp2_with fail
    have hkeep : ∀ g, g ≠ h2 → ((((W8.setCell ⟨h2, 0, none⟩ (.int .u8 k)).setCell ⟨h2, 1, none⟩ (.string T)).setCell ⟨h2, 2, none⟩ (.slice R n c5)).setCell ⟨h2, 3, none⟩ (.slice K m d7)).heap[g]? = W8.heap[g]? := fun g hg => by
      rw [Go.RowKit.Below.heap_setCell _ _ _ _ hg, Go.RowKit.Below.heap_setCell _ _ _ _ hg, Go.RowKit.Below.heap_setCell _ _ _ _ hg, Go.RowKit.Below.heap_setCell _ _ _ _ hg]
    have hsz9 : ((((W8.setCell ⟨h2, 0, none⟩ (.int .u8 k)).setCell ⟨h2, 1, none⟩ (.string T)).setCell ⟨h2, 2, none⟩ (.slice R n c5)).setCell ⟨h2, 3, none⟩ (.slice K m d7)).heap.size = W8.heap.size := by simp
    have hB9 : Below w.heap.size w ((((W8.setCell ⟨h2, 0, none⟩ (.int .u8 k)).setCell ⟨h2, 1, none⟩ (.string T)).setCell ⟨h2, 2, none⟩ (.slice R n c5)).setCell ⟨h2, 3, none⟩ (.slice K m d7)) := by
      have h9 : w.heap.size ≤ h2 := by have := HHS.out; omega
      exact (((HB8.out.setCell h9 _).setCell h9 _).setCell h9 _).setCell h9 _
    refine bodyPost_ret (v := .agg #[.int .u8 k, .string T, .slice R n c5, .slice K m d7]) (by simp [results, Tryz.results44, go_sem, *]) rfl ?_
    refine ⟨⟨_, rfl, ?_⟩, hB9⟩
    have hh := HHS.out
    have hl4 := HL4.out
    have hs5 := HG6.out.1
    have hs7 := HG8.out.1
    have hs67 := HBB7.out.size
    have hs45 := HS45.out
    have := own_value (t := t) (k := k) HK.out HLM.out.1 HLM.out.2 HR.out (w := (((W8.setCell ⟨h2, 0, none⟩ (.int .u8 k)).setCell ⟨h2, 1, none⟩ (.string T)).setCell ⟨h2, 2, none⟩ (.slice R n c5)).setCell ⟨h2, 3, none⟩ (.slice K m d7)) (fun g h1 h3 => by
      rw [hkeep g (by omega), HG8.out.2 g (by omega), HBB7.out.block g (by omega), HG6.out.2 g (by omega)]) (by rw [hsz9]; omega) (lo2 := W6.heap.size) (by omega) (by omega) (HK7.out.keep (fun g h1 => by rw [hkeep g (by omega), HG8.out.2 g (by omega)]))
    rw [← HN.out, ← HM.out, ← HTT.out] at this
    obtain ⟨ok, a1, a2, a3⟩ := this
    exact ⟨ok, a1, a2, fun g hg => ⟨by have := (a3 g hg).1; have := HB4.out.size; omega, (a3 g hg).2⟩⟩
end Va
end Go.Proofs.YtnnlgodgaolkkaaGreatDoor
