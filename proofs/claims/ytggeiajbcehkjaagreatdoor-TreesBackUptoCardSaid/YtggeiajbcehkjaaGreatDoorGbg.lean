/- What landed of values: a copy of a value, in blocks of its own. -/
import Derived.Test.YtggeiajbcehkjaaGreatDoorGbf
import Derived.Test.YtggeiajbcehkjaaGreatDoorGay
import Derived.Test.YtggeiajbcehkjaaGreatDoorRows
import Derived.Test.YtggeiajbcehkjaaGreatDoorGax
import Derived.Deep.Strs
import Derived.ChangeArms
import Derived.DataReads
import Derived.Lib.SmallJoins
namespace Go.Proofs.YtggeiajbcehkjaaGreatDoor
open Go.RowKit
namespace Va
set_option maxRecDepth 100000

theorem RV.block {N base lo : Nat} {w : World} {g n : Nat} {L : List V} (h : RV N base lo w g n L) : base ≤ g ∧ ∃ cur, w.heap[g]? = some (.cells cur 33 (0, 0)) ∧ n ≤ maxLen := by
  obtain ⟨xs, h, _⟩ := h
  rcases h.2 with ⟨e, _⟩ | ⟨g', c, cur, e, h1, h2, _, h4, _⟩
  · cases e
  · injection e with e1 _ e3; injection e1 with e1; injection e1 with e1 _ _; subst e1 e3
    exact ⟨h1, cur, h2, h4⟩
theorem RT.block {base : Nat} {w : World} {g n : Nat} {L : List Bs} (h : RT base w g n L) : base ≤ g ∧ ∃ cur, w.heap[g]? = some (.cells cur 9 (0, 0)) := by
  rcases h.2 with ⟨e, _⟩ | ⟨g', c, cur, e, h1, h2, _⟩
  · cases e
  · injection e with e1 _ _; injection e1 with e1; injection e1 with e1 _ _; subst e1
    exact ⟨h1, cur, h2⟩
/-- A value put together of a row of copies and a row of texts. -/
theorem own_value {N lo lo2 k : Nat} {w1 w : World} {t : Bs} {l : List V} {ks : List Bs} {R K : Option Addr} {c d : Nat} (hk : k < 256) (hn : l.length ≤ 1000000) (hm : ks.length ≤ 1000000) (hR : RVO N lo w1 R c l) (hb : ∀ g, lo ≤ g → g < w1.heap.size → w.heap[g]? = w1.heap[g]?) (hbs : w1.heap.size ≤ w.heap.size) (h12 : w1.heap.size ≤ lo2) (h01 : lo ≤ lo2) (hK : TxO lo2 w K d ks) :
    CP (N + 1) lo w (.agg #[.int .u8 k, .string (txt t), .slice R l.length c, .slice K ks.length d]) (.mk k t l ks) := by
  have hml : maxLen = 9223372036854775807 := rfl
  have hcd : ks.length ≤ d ∧ d ≤ 1000000 ∧ (K = none → d = 0) ∧ (0 < d → ∃ gk, K = some ⟨gk, 0, none⟩ ∧ d = ks.length ∧ RT lo2 w gk ks.length ks) := by
    rcases hK with ⟨rfl, rfl, rfl⟩ | ⟨gk, rfl, rfl, h⟩
    · exact ⟨Nat.le_refl _, Nat.zero_le _, fun _ => rfl, fun h => absurd h (by omega)⟩
    · exact ⟨Nat.le_refl _, hm, (fun h => by cases h), fun _ => ⟨gk, rfl, rfl, h⟩⟩
  have hcc : l.length ≤ c ∧ c ≤ 1000000 ∧ (R = none → c = 0) ∧ (0 < c → ∃ g, R = some ⟨g, 0, none⟩ ∧ c = l.length ∧ RV N lo (g + 1) w1 g l.length l) := by
    rcases hR with ⟨rfl, rfl, rfl⟩ | ⟨g, rfl, rfl, h⟩
    · exact ⟨Nat.le_refl _, Nat.zero_le _, fun _ => rfl, fun h => absurd h (by omega)⟩
    · exact ⟨Nat.le_refl _, hn, (fun h => by cases h), fun _ => ⟨g, rfl, rfl, h⟩⟩
  obtain ⟨xs, OK, hX⟩ : ∃ (xs : List Value) (OK : Nat → Nat → Prop), (∀ i x, l[i]? = some x → (∃ a b c d, xs[i * 4]? = some a ∧ xs[i * 4 + 1]? = some b ∧ xs[i * 4 + 2]? = some c ∧ xs[i * 4 + 3]? = some d ∧ Vk w (OK i) (.agg #[a, b, c, d]) x ∧ Vp N w (OK i) (.agg #[a, b, c, d])) ∧
      ∀ q, OK i q → lo ≤ q ∧ q < w1.heap.size ∧ (∀ g, R = some ⟨g, 0, none⟩ → g < q) ∧ ∀ j, j < l.length → j ≠ i → ¬ OK j q) ∧ ∀ g, 0 < c → R = some ⟨g, 0, none⟩ → lo ≤ g ∧ g < w1.heap.size ∧ w.ownsRow lo 33 4 (.slice (some ⟨g, 0, none⟩) l.length l.length) l.length xs := by
    by_cases hc : 0 < c
    · obtain ⟨g, rfl, _, xs, h1, oks, h2⟩ := hcc.2.2.2 hc
      have hlt := h1.lt g rfl
      refine ⟨xs, oks, fun i x hi => ?_, fun g' _ e => ?_⟩
      · obtain ⟨⟨a, b, c, d, e0, e1, e2, e3, hv, hp⟩, h3⟩ := h2 i x hi
        exact ⟨⟨a, b, c, d, e0, e1, e2, e3, hv.keep (fun q hq hl => hb q (by have := (h3 q hq).1; omega) hl) hbs, hp.keep (fun q hq hl => hb q (by have := (h3 q hq).1; omega) hl) hbs⟩, fun q hq => ⟨by have := (h3 q hq).1; omega, (h3 q hq).2.1, (fun g' e => by injection e with e; injection e with e _ _; subst e; exact (h3 q hq).1), (h3 q hq).2.2⟩⟩
      · injection e with e; injection e with e _ _; subst e
        exact ⟨hlt.1, hlt.2, own_on h1 fun k hk => hb k (h1.lt k hk).1 (h1.lt k hk).2⟩
    · have hl0 : l = [] := List.eq_nil_of_length_eq_zero (by omega)
      refine ⟨[], fun _ _ => False, fun i x hi => by rw [hl0] at hi; simp at hi, fun g h => absurd h hc⟩
  obtain ⟨hE, hO⟩ := hX
  refine ⟨fun q => (0 < d ∧ K = some ⟨q, 0, none⟩) ∨ (0 < c ∧ R = some ⟨q, 0, none⟩) ∨ ∃ i, i < l.length ∧ OK i q, ?_, ?_, ?_⟩
  · refine .mk k t l ks R K c d (fun i j => xs.getD (i * 4 + j) (.int .u8 0)) hk hcc.1 (by omega) hcc.2.2.1 hcd.1 (by omega) hcd.2.2.1 (fun h0 => ?_) (fun h0 => ?_) (fun h0 g o e => ?_) (fun h0 g o e => ?_) (fun i x hi => ?_)
    · obtain ⟨gk, rfl, _, h⟩ := hcd.2.2.2 (by omega)
      obtain ⟨g', e', _, hg', hf⟩ := own_cells h h0
      injection e' with e'; injection e' with e' _ _; subst e'
      exact ⟨gk, 0, rfl, hg', fun i s hi => by rw [Nat.zero_add]; exact hf i _ (by rw [List.getElem?_map, hi]; rfl)⟩
    · obtain ⟨g, rfl, _, _⟩ := hcc.2.2.2 (by omega)
      obtain ⟨_, _, h⟩ := hO g (by omega) rfl
      obtain ⟨g', e', _, hg', hf⟩ := own_cells h h0
      injection e' with e'; injection e' with e' _ _; subst e'
      refine ⟨g, 0, rfl, hg', fun i hi j hj => ?_⟩
      rw [Nat.zero_add]
      have hlt : i * 4 + j < xs.length := by rw [h.1]; omega
      exact hf _ _ (by rw [List.getD_eq_getElem?_getD, List.getElem?_eq_getElem hlt]; rfl)
    · obtain ⟨g', e', _, _⟩ := hcc.2.2.2 (by omega)
      rw [e'] at e; injection e with e; injection e with e _ _; subst e
      exact .inr (.inl ⟨by omega, e'⟩)
    · obtain ⟨g', e', _, _⟩ := hcd.2.2.2 (by omega)
      rw [e'] at e; injection e with e; injection e with e _ _; subst e
      exact .inl ⟨by omega, e'⟩
    · obtain ⟨⟨a, b, c, d, h0, h1, h2, h3, hv, _⟩, _⟩ := hE i x hi
      have e : ∀ {j : Nat} {y : Value}, xs[i * 4 + j]? = some y → xs.getD (i * 4 + j) (.int .u8 0) = y := fun h => by rw [List.getD_eq_getElem?_getD, h]; rfl
      rw [e (j := 0) h0, e h1, e h2, e h3]
      exact hv.to fun q _ h => .inr (.inr ⟨i, (List.getElem?_eq_some_iff.1 hi).1, h⟩)
  · refine ⟨k, txt t, R, K, l.length, c, ks.length, d, rfl, hcc.1, hcd.1, hcc.2.1, hcd.2.1, hcc.2.2.1, hcd.2.2.1, fun h0 => ?_, fun h0 => ?_⟩
    · obtain ⟨gk, rfl, hd, h⟩ := hcd.2.2.2 h0
      obtain ⟨h1, cur, h2⟩ := h.block
      obtain ⟨g', e', _, hg', hf⟩ := own_cells h (by omega)
      injection e' with e'; injection e' with e' _ _; subst e'
      refine ⟨gk, 0, rfl, .inl ⟨h0, rfl⟩, hg', ⟨cur, _, h2⟩, fun i hi => ?_⟩
      obtain ⟨s, hs⟩ := get_lt (l := ks) (i := i) (by omega)
      exact ⟨txt s, by rw [Nat.zero_add]; exact hf i _ (by rw [List.getElem?_map, hs]; rfl)⟩
    · obtain ⟨g, rfl, hcl, hrv⟩ := hcc.2.2.2 h0
      obtain ⟨hl1, hl2, h⟩ := hO g h0 rfl
      obtain ⟨_, cur, hcur, _⟩ := hrv.block
      obtain ⟨g', e', _, hg', hf⟩ := own_cells h (by omega)
      injection e' with e'; injection e' with e' _ _; subst e'
      refine ⟨g, 0, rfl, .inr (.inl ⟨h0, rfl⟩), hg', ⟨cur, _, (hb g hl1 hl2).trans hcur⟩, fun h p e hd => ?_, fun i j => xs.getD (i * 4 + j) (.int .u8 0), OK, fun i hi j hj => ?_, fun i hi => ?_⟩
      · obtain ⟨gk, e2, _, hh⟩ := hcd.2.2.2 hd
        rw [e2] at e; injection e with e; injection e with e _ _; subst e
        have := hh.block.1; omega
      · rw [Nat.zero_add]
        have hlt : i * 4 + j < xs.length := by rw [h.1]; omega
        exact hf _ _ (by show xs[i * 4 + j]? = some (xs.getD (i * 4 + j) (.int .u8 0)); rw [List.getD_eq_getElem?_getD, List.getElem?_eq_getElem hlt]; rfl)
      · obtain ⟨x, hx⟩ := get_lt (l := l) (i := i) (by omega)
        obtain ⟨⟨a, b, c', d', h0', h1, h2, h3, _, hp⟩, h4⟩ := hE i x hx
        have e : ∀ {j : Nat} {y : Value}, xs[i * 4 + j]? = some y → xs.getD (i * 4 + j) (.int .u8 0) = y := fun h => by rw [List.getD_eq_getElem?_getD, h]; rfl
        refine ⟨by dsimp only; rw [e (j := 0) h0', e h1, e h2, e h3]; exact hp, fun q hq => ⟨.inr (.inr ⟨i, by omega, hq⟩), by have := (h4 q hq).2.1; omega, by have := (h4 q hq).2.2.1 g rfl; omega, fun h p e hd => ?_, fun j hj hji => (h4 q hq).2.2.2 j (by omega) hji⟩⟩
        obtain ⟨gk, e2, _, hh⟩ := hcd.2.2.2 hd
        rw [e2] at e; injection e with e; injection e with e _ _; subst e
        have := hh.block.1; have := (h4 q hq).2.1; omega
  · rintro q (⟨h0, e⟩ | ⟨h0, e⟩ | ⟨i, hi, h0⟩)
    · obtain ⟨gk, e2, _, hh⟩ := hcd.2.2.2 h0
      rw [e2] at e; injection e with e; injection e with e _ _; subst e
      obtain ⟨h1, cur, h2⟩ := hh.block
      exact ⟨by omega, (Array.getElem?_eq_some_iff.1 h2).1⟩
    · obtain ⟨h1, h2, _⟩ := hO q h0 e
      exact ⟨h1, Nat.lt_of_lt_of_le h2 hbs⟩
    · obtain ⟨x, hx⟩ := get_lt (l := l) (i := i) hi
      have := (hE i x hx).2 q h0
      exact ⟨this.1, Nat.lt_of_lt_of_le this.2.1 hbs⟩
theorem TxO.keep {lo : Nat} {w w' : World} {K : Option Addr} {d : Nat} {ks : List Bs} (h : TxO lo w K d ks) (hb : ∀ g, lo ≤ g → w'.heap[g]? = w.heap[g]?) : TxO lo w' K d ks := by
  rcases h with h | ⟨g, e, e2, h⟩
  · exact .inl h
  · exact .inr ⟨g, e, e2, own_on h fun k hk => hb k (h.lt k hk).1⟩
end Va
end Go.Proofs.YtggeiajbcehkjaaGreatDoor
/- The law's own: are two values just alike? -/
namespace Go.Proofs.YtggeiajbcehkjaaGreatDoor
open Go.RowKit
namespace Va
set_option maxRecDepth 100000

set_option maxHeartbeats 16000000 in
set_option maxRecDepth 100000 in
theorem like_any : ∀ (N : Nat) (x : V), wt x ≤ N → N ≤ 1000000000000 → ∀ (w : World) (v u : Value), Vm w v x → Vm w u x →
    Calls Tryz.prog 14 #[v, u] w fun e w' => e = .returned (.bool true) ∧ Below w.heap.size w w'
  | 0, x, hx, _, _, _, _, _, _ => by have := wt_pos x; omega
  | N + 1, .mk k t l ks, hx, hN, w, v, u, hv, hu => by
    obtain ⟨A, B, c, d, rfl, hk, hl, hc, hA, hd, hd2, hB, hK, hV⟩ := hv.inv
    obtain ⟨A', B', c', d', rfl, hk', hl', hc', hA', hd', hd2', hB', hK', hV'⟩ := hu.inv
    have IH := Lib.hid (fun (i : Nat) (x : V) (hi : l[i]? = some x) (w : World) (v u : Value) (h : Vm w v x) (h' : Vm w u x) =>
      like_any N x (by have := wt_sub (k := k) (t := t) (ks := ks) hi; omega) (by omega) w v u h h')
    obtain ⟨T, hT⟩ : ∃ T, T = txt t := ⟨_, rfl⟩
    obtain ⟨n, HN⟩ : ∃ n, Hid (n = l.length) := ⟨_, Lib.hid rfl⟩
    obtain ⟨m, HM⟩ : ∃ m, Hid (m = ks.length) := ⟨_, Lib.hid rfl⟩
    rw [← HN.out, ← HM.out, ← hT]
    rw [← HN.out] at hl hl'
    rw [← HM.out] at hd hd'
    have hn5 : n ≤ 1000000000000 := by rw [HN.out]; have := wtL_len l; rw [wt] at hx; omega
    have hm5 : m ≤ 1000000000000 := by rw [HM.out]; rw [wt] at hx; omega
    obtain ⟨W1, hW1⟩ : ∃ W, W = w.alloc (vO (.int .u8 k) (.string T) (.slice A n c) (.slice B m d)) := ⟨_, rfl⟩
    obtain ⟨W2, hW2⟩ : ∃ W, W = W1.alloc (vO (.int .u8 k) (.string T) (.slice A' n c') (.slice B' m d')) := ⟨_, rfl⟩
    have hb1 : Below w.heap.size w W1 := by rw [hW1]; exact below_new ..
    have hb2 : Below W1.heap.size W1 W2 := by rw [hW2]; exact below_new ..
    have HX := Lib.hid (show Bx W2 w.heap.size (.int .u8 k) (.string T) (.slice A n c) (.slice B m d) from (show Bx W1 w.heap.size (.int .u8 k) (.string T) (.slice A n c) (.slice B m d) from by rw [hW1]; exact Bx.new ..).on hb2)
    have HY := Lib.hid (show Bx W2 W1.heap.size (.int .u8 k) (.string T) (.slice A' n c') (.slice B' m d') from by rw [hW2]; exact Bx.new ..)
    have HB2 := Lib.hid (below_tr hb1 hb2)
    have HVW := Lib.hid (hV.on HB2.out)
    have HVW' := Lib.hid (hV'.on HB2.out)
    have HKW := Lib.hid (hK.on HB2.out)
    have HKW' := Lib.hid (hK'.on HB2.out)
    have HSZ := Lib.hid (show w.heap.size + 1 = W1.heap.size from by rw [hW1]; show _ = (w.heap.push _).size; rw [Array.size_push])
    have HW1 := Lib.hid hW1
    have HW2 := Lib.hid hW2
    clear hT hK hV hK' hV' hx hN hv hu hb1 hb2 hW1 hW2
    go_enter Tryz.func14, Tryz.ntmps14
    go_upto_region 1 with fail
    rw [← HW1.out, ← HW2.out]
    obtain ⟨h2, hh2⟩ : ∃ h, h = w.heap.size + 1 := ⟨_, rfl⟩
    rw [← HSZ.out, ← hh2] at HY
    rw [← hh2]
    obtain ⟨h1, hh1⟩ : ∃ h, h = w.heap.size := ⟨_, rfl⟩
    rw [← hh1] at HX ⊢
    clear HW1 HW2 HSZ hh1 hh2
    obtain ⟨x0, x1, x2, x3⟩ : W2.cell? ⟨h1, 0, none⟩ = some (.int .u8 k) ∧ W2.cell? ⟨h1, 1, none⟩ = some (.string T) ∧ W2.cell? ⟨h1, 2, none⟩ = some (.slice A n c) ∧ W2.cell? ⟨h1, 3, none⟩ = some (.slice B m d) := ⟨HX.out.c0, HX.out.c1, HX.out.c2, HX.out.c3⟩
    obtain ⟨y0, y1, y2, y3⟩ : W2.cell? ⟨h2, 0, none⟩ = some (.int .u8 k) ∧ W2.cell? ⟨h2, 1, none⟩ = some (.string T) ∧ W2.cell? ⟨h2, 2, none⟩ = some (.slice A' n c') ∧ W2.cell? ⟨h2, 3, none⟩ = some (.slice B' m d') := ⟨HY.out.c0, HY.out.c1, HY.out.c2, HY.out.c3⟩
    go_wp2_with fail
    clear x0 x1 x2 x3 y0 y1 y2 y3
    go_loopw [5] (fun a wx => Hid (Below W2.heap.size W2 wx) ∧ ∃ i : Nat, i ≤ m ∧ a = .int .i64 i) (fun a _ => m - (intOf a).toNat)
    case atStart => exact ⟨Lib.hid (Below.refl _ _), 0, Nat.zero_le _, rfl⟩
    case round =>
      obtain ⟨HBR, i, hi, rfl⟩ := hrel
      have x3 := (HX.out.on HBR.out).c3
      have y3 := (HY.out.on HBR.out).c3
      by_cases hlt : i < m
      · obtain ⟨s, hs⟩ := get_lt (l := ks) (i := i) (by rw [← HM.out]; exact hlt)
        obtain ⟨g, o, rfl, hg, hf⟩ := HKW.out (by rw [← HM.out]; omega)
        obtain ⟨g', o', rfl, hg', hf'⟩ := HKW'.out (by rw [← HM.out]; omega)
        have c5 := cell_old HBR.out hg (hf i s hs)
        have c6 := cell_old HBR.out hg' (hf' i s hs)
        obtain ⟨S, hS⟩ : ∃ S, S = txt s := ⟨_, rfl⟩
        rw [← hS] at c5 c6
        have K0 := fun s : Kept wr => s.cell x3
        have K1 := fun s : Kept wr => s.cell y3
        have K2 := fun s : Kept wr => s.cell c5
        have K3 := fun s : Kept wr => s.cell c6
        clear hS hs hf hf' hg hg'
        go_upto_region 6 with fail
        clear x3 y3 c5 c6
        refine reg_lit (C := fun wx => ∃ s : Kept wr, wx = s.wx) (by kernel_rfl) (by kernel_rfl) ⟨⟨_, (Below.refl _ _).drew⟩, rfl⟩ ?_
        iterate 11 (go_big_quiet_step (fail))
        refine wpQuiet_nil ?_
        rintro wc ⟨⟨wx, ox0⟩, e⟩
        have HC := Lib.hid (show Below W2.heap.size W2 wc from by rw [e]; exact below_tr HBR.out ox0)
        clear e ox0 K0 K1 K2 K3
        go_wp2_with fail
        go_roundw
        case rel => exact ⟨HC, i + 1, by omega, by go_num⟩
        case measure => simp [intOf]; omega
      · obtain rfl : i = m := by omega
        obtain ⟨wo, hwo⟩ : ∃ wo, wo = wr := ⟨_, rfl⟩
        subst hwo
        go_wp2_with fail
        clear x3 y3
        go_loopw [6] (fun a wx => Hid (Below W2.heap.size W2 wx) ∧ ∃ j : Nat, j ≤ n ∧ a = .int .i64 j) (fun a _ => n - (intOf a).toNat)
        case atStart => exact ⟨HBR, 0, Nat.zero_le _, rfl⟩
        case round =>
          obtain ⟨HBS, j, hj, rfl⟩ := hrel
          have x2 := (HX.out.on HBS.out).c2
          have y2 := (HY.out.on HBS.out).c2
          by_cases hlt : j < n
          · obtain ⟨x, hx⟩ := get_lt (l := l) (i := j) (by rw [← HN.out]; exact hlt)
            obtain ⟨g, o, rfl, hg, hf⟩ := HVW.out (by rw [← HN.out]; omega)
            obtain ⟨g', o', rfl, hg', hf'⟩ := HVW'.out (by rw [← HN.out]; omega)
            obtain ⟨v0, v1, v2, v3, d0, d1, d2, d3, hvm⟩ := hf j x hx
            obtain ⟨u0, u1, u2, u3, q0, q1, q2, q3, hum⟩ := hf' j x hx
            have c0 := cell_old HBS.out hg d0
            have c1 := cell_old HBS.out hg d1
            have c2 := cell_old HBS.out hg d2
            have c3 := cell_old HBS.out hg d3
            have b0 := cell_old HBS.out hg' q0
            have b1 := cell_old HBS.out hg' q1
            have b2 := cell_old HBS.out hg' q2
            have b3 := cell_old HBS.out hg' q3
            have K0 := fun s : Kept wr => s.cell c0
            have K1 := fun s : Kept wr => s.cell c1
            have K2 := fun s : Kept wr => s.cell c2
            have K3 := fun s : Kept wr => s.cell c3
            have L0 := fun s : Kept wr => s.cell b0
            have L1 := fun s : Kept wr => s.cell b1
            have L2 := fun s : Kept wr => s.cell b2
            have L3 := fun s : Kept wr => s.cell b3
            have M2 := fun s : Kept wr => s.cell x2
            have M3 := fun s : Kept wr => s.cell y2
            have CI := Lib.hid (fun s : Kept wr => IH.out j x hx s.wx _ _ (hvm.on (below_tr HBS.out s.held)) (hum.on (below_tr HBS.out s.held)))
            clear c0 c1 c2 c3 b0 b1 b2 b3 d0 d1 d2 d3 q0 q1 q2 q3 hvm hum hf hf' hx
            go_upto_region 11 with fail
            clear x2 y2
            refine reg_lit (C := fun wx => ∃ s : Kept wr, wx = s.wx) (by kernel_rfl) (by kernel_rfl) ⟨⟨_, (Below.refl _ _).drew⟩, rfl⟩ ?_
            iterate 10 (go_big_quiet_step (fail))
            go_big_quiet_want
            go_big_quiet_op
            refine ⟨.bool true, fun s => (CI.out s).mono ?_, ?_⟩
            · rintro e w3 ⟨rfl, hb⟩; exact Kept.out hb
            go_big_quiet_on
            iterate 1 (go_big_quiet_step (fail))
            refine wpQuiet_nil ?_
            rintro wc ⟨⟨wx, ox0⟩, e⟩
            have HC := Lib.hid (show Below W2.heap.size W2 wc from by rw [e]; exact below_tr HBS.out ox0)
            clear e ox0 K0 K1 K2 K3 L0 L1 L2 L3 M2 M3 CI
            go_wp2_with fail
            go_roundw
            case rel => exact ⟨HC, j + 1, by omega, by go_num⟩
            case measure => simp [intOf]; omega
          · obtain rfl : j = n := by omega
            have HF := Lib.hid (below_tr HB2.out HBS.out)
            go_wp2_with fail
            go_ret
            exact ⟨rfl, HF.out⟩
end Va
end Go.Proofs.YtggeiajbcehkjaaGreatDoor
/- A value that came in: it lies in memory, and is no more than what was read of it. -/
namespace Go.Proofs.YtggeiajbcehkjaaGreatDoor
open Go.RowKit Go.ChangeShapes Go.WideShapes
namespace Va
set_option maxRecDepth 100000

theorem list_of {α : Type} [Inhabited α] {P : Nat → α → Prop} {n : Nat} (h : ∀ i, i < n → ∃ x, P i x) : ∃ l : List α, l.length = n ∧ ∀ (i : Nat) (x : α), l[i]? = some x → P i x := by
  induction n with
  | zero => exact ⟨[], rfl, fun i x h => by simp at h⟩
  | succ n ih =>
    obtain ⟨l, hl, hp⟩ := ih fun i hi => h i (by omega)
    obtain ⟨y, hy⟩ := h n (by omega)
    refine ⟨l ++ [y], by simp [hl], fun i x hx => ?_⟩
    rcases Nat.lt_or_ge i n with hi | hi
    · rw [List.getElem?_append_left (by omega)] at hx
      exact hp i x hx
    · have hi2 := (List.getElem?_eq_some_iff.1 hx).1
      rw [List.length_append] at hi2
      simp at hi2
      obtain rfl : i = n := by omega
      rw [List.getElem?_append_right (by omega), hl, Nat.sub_self] at hx
      obtain rfl : y = x := by simpa using hx
      exact hy
theorem wt_bulk {H : Type} : ∀ {l : List V} {es : List (DataW H)}, l.length = es.length → (∀ (i : Nat) (x : V) (d : DataW H), l[i]? = some x → es[i]? = some d → wt x ≤ Rows.uptoBulk d) → wtL l ≤ Rows.uptoBulkAll es
  | [], [], _, _ => by rw [wtL]; exact Nat.zero_le _
  | [], _ :: _, h, _ => by simp at h
  | _ :: _, [], h, _ => by simp at h
  | x :: l, d :: es, h, hp => by
    have h0 := hp 0 x d rfl rfl
    have ih := wt_bulk (l := l) (es := es) (by simpa using h) fun i y e hy he => hp (i + 1) y e (by simpa using hy) (by simpa using he)
    rw [wtL]
    simp only [Rows.uptoBulkAll]
    omega
theorem kw_bulk {H : Type} : ∀ {n : Nat} (f : Nat → List UInt8), kw ((List.range n).map f) + n ≤ Rows.uptoBulkAll ((List.range n).map fun i => DataW.lit (H := H) (.string (f i)))
  | 0, _ => by simp [kw]
  | n + 1, f => by
    have ih := kw_bulk (H := H) (n := n) (fun i => f (i + 1))
    rw [List.range_succ_eq_map, List.map_cons, List.map_cons, List.map_map, List.map_map, kw]
    simp only [Rows.uptoBulkAll, Rows.uptoBulk]
    have e1 : (f ∘ Nat.succ) = fun i => f (i + 1) := rfl
    have e2 : ((fun i => DataW.lit (H := H) (.string (f i))) ∘ Nat.succ) = fun i => DataW.lit (H := H) (.string (f (i + 1))) := rfl
    rw [e1, e2]; omega
theorem as_txt (s : ByteArray) : s = txt s.data.toList := by simp [txt]
section
variable {H : Type} {enc : TypeId × Value → H} {W : World} {base : Nat} {spare : Nat → Bool} {held : Bool}
theorem texts_of {fuel : Nat} {v : Value} {y : DataW H × List MemPlace} (h : DataW.trod enc Tryz.prog W base spare held fuel 31 [v] = some y) :
    ∃ (B : Option Addr) (n d : Nat) (ks : List Bs), v = .slice B n d ∧ n = ks.length ∧ n ≤ d ∧ d ≤ maxLen ∧ (B = none → d = 0) ∧ Tx W B ks ∧ kw ks + n + 1 ≤ Rows.uptoBulk y.1 := by
  rcases Go.Deep.open_strs Tryz.underlying31 Tryz.underlying9 (by kernel_rfl) h with ⟨hcs, rfl⟩ | ⟨x, l, c', m, Sx, hcs, _, hl, hm, hmm, rfl, hcell⟩
  · obtain rfl : v = .slice none 0 0 := by simpa using hcs
    exact ⟨none, 0, 0, [], rfl, rfl, Nat.le_refl _, Nat.zero_le _, fun _ => rfl, fun h => absurd h (by simp), by simp [kw, Rows.uptoBulk]⟩
  · obtain rfl : v = .slice (some x) l c' := by simpa using hcs
    have hlm : l ≤ m := by rw [hmm]; split <;> omega
    refine ⟨some x, l, c', (List.range l).map fun i => (Sx i).data.toList, rfl, by simp, hl, hm, (fun h => by cases h), (fun h0 => ?_), ?_⟩
    · have hl0 : 0 < l := by simpa using h0
      obtain ⟨b, off, spot⟩ := x
      have hspot : spot = none := by simpa [Addr.add] using World.cell?_spot (hcell 0 (by omega)).1
      subst hspot
      refine ⟨b, off, rfl, World.block_lt_of_cell? W _ (hcell 0 (by omega)).1, fun i t hi => ?_⟩
      have hil : i < l := by have := (List.getElem?_eq_some_iff.1 hi).1; simpa using this
      have hk2 := (hcell i (by omega)).1
      rw [addAt] at hk2
      rw [hk2]
      rw [List.getElem?_map, List.getElem?_range hil] at hi
      have hi : (Sx i).data.toList = t := by simpa using hi
      rw [← hi, ← as_txt]
    · have := kw_bulk (H := H) (n := l) (fun i => (Sx i).data.toList)
      simp only [Rows.uptoBulk]
      omega
instance : Inhabited V := ⟨.mk 0 [] [] []⟩
set_option maxRecDepth 100000 in
theorem value_of : ∀ (fuel : Nat) (cs : List Value) (x : DataW H × List MemPlace), DataW.trod enc Tryz.prog W base spare held fuel 33 cs = some x →
    ∃ (a b c d : Value) (v : V), cs = [a, b, c, d] ∧ Vm W (.agg #[a, b, c, d]) v ∧ wt v ≤ Rows.uptoBulk x.1 := by
  intro fuel
  induction fuel using Nat.strongRecOn with
  | _ fuel IH =>
    intro cs x h
    obtain ⟨xs, n, rfl, rfl, hl, hlen, hf⟩ := DataW.trod_struct Tryz.underlying33 h
    have e26 : Tryz.prog.cellsOf 33 = 4 := by kernel_rfl
    have e22 : Tryz.prog.cellsOf 29 = 1 := by kernel_rfl
    have e9 : Tryz.prog.cellsOf 9 = 1 := by kernel_rfl
    have e23 : Tryz.prog.cellsOf 30 = 1 := by kernel_rfl
    have e24 : Tryz.prog.cellsOf 31 = 1 := by kernel_rfl
    rw [e26] at hl
    match cs, hl, xs, hlen with
    | [a, b, c, d], _, [y0, y1, y2, y3], _ =>
      have h0 : DataW.trod enc Tryz.prog W base spare held n 29 (([a, b, c, d].drop 0).take (Tryz.prog.cellsOf 29)) = some y0 := hf 0 _ rfl
      have h1 : DataW.trod enc Tryz.prog W base spare held n 9 (([a, b, c, d].drop 1).take (Tryz.prog.cellsOf 9)) = some y1 := hf 1 _ rfl
      have h2 : DataW.trod enc Tryz.prog W base spare held n 30 (([a, b, c, d].drop 2).take (Tryz.prog.cellsOf 30)) = some y2 := hf 2 _ rfl
      have h3 : DataW.trod enc Tryz.prog W base spare held n 31 (([a, b, c, d].drop 3).take (Tryz.prog.cellsOf 31)) = some y3 := hf 3 _ rfl
      rw [e22] at h0
      rw [e9] at h1
      rw [e23] at h2
      rw [e24] at h3
      have h0 : DataW.trod enc Tryz.prog W base spare held n 29 [a] = some y0 := h0
      have h1 : DataW.trod enc Tryz.prog W base spare held n 9 [b] = some y1 := h1
      have h2 : DataW.trod enc Tryz.prog W base spare held n 30 [c] = some y2 := h2
      have h3 : DataW.trod enc Tryz.prog W base spare held n 31 [d] = some y3 := h3
      obtain ⟨k, hk, rfl, hkw⟩ := DataW.trod_int Tryz.underlying29 h0
      obtain ⟨s, hs, rfl, _⟩ := DataW.trod_string Tryz.underlying9 h1
      obtain ⟨B, m, dd, ks, rfl, rfl, hd, hd2, hB, hK, hkb⟩ := texts_of h3
      obtain rfl : a = .int .u8 k := by simpa using hk
      obtain rfl : b = .string s := by simpa using hs
      have hkr : 0 ≤ k ∧ k ≤ 255 := by simpa [Lit.wf, IntKind.min, IntKind.max, IntKind.signed, IntKind.bits] using hkw
      obtain ⟨k, rfl⟩ := Int.eq_ofNat_of_zero_le hkr.1
      have hk5 : k < 256 := by omega
      have hs2 := as_txt s
      rcases DataW.trod_slice Tryz.underlying30 h2 with ⟨hc, rfl⟩ | ⟨ad, len, cap, elems, rest, n', rfl, hc, rfl, hba, hlc, hcm, hel, hes, _, _⟩
      · obtain rfl : c = .slice none 0 0 := by simpa using hc
        refine ⟨_, _, _, _, .mk k s.data.toList [] ks, rfl, ?_, ?_⟩
        · have := Vk.mk (w := W) (ok := fun _ => True) k s.data.toList [] ks none B 0 dd (fun _ _ => .int .u8 0) hk5 (Nat.le_refl _) (Nat.zero_le _) (fun _ => rfl) hd hd2 hB hK (fun h => absurd h (by simp)) (fun h => absurd h (by simp)) (fun _ _ _ _ => trivial) (fun i x h => by simp at h)
          rw [← hs2] at this; exact this
        · simp only [wt, wtL, Rows.uptoBulk, Rows.uptoBulkAll, List.map_cons, List.map_nil]
          omega
      · obtain rfl : c = .slice (some ad) len cap := by simpa using hc
        rw [e26] at hes
        have each : ∀ i, i < len → ∃ (q : V × (Value × Value × Value × Value)), (∀ j, j < 4 → W.cell? ((ad.add (i * 4)).add j) = [q.2.1, q.2.2.1, q.2.2.2.1, q.2.2.2.2][j]?) ∧ Vm W (.agg #[q.2.1, q.2.2.1, q.2.2.2.1, q.2.2.2.2]) q.1 ∧ ∃ e, elems[i]? = some e ∧ wt q.1 ≤ Rows.uptoBulk e.1 := fun i hi => by
          have h4 := hes i hi
          have hi2 : i < elems.length := by omega
          rw [List.getElem?_eq_getElem hi2] at h4
          obtain ⟨cs4, hc4, ht4⟩ := Option.bind_eq_some_iff.1 h4
          obtain ⟨p, q, r, s, v, rfl, hvm, hwt⟩ := IH n' (by omega) cs4 _ ht4
          exact ⟨⟨v, p, q, r, s⟩, (World.cells?_some hc4).2.2, hvm, _, List.getElem?_eq_getElem hi2, hwt⟩
        have : Inhabited (V × (Value × Value × Value × Value)) := ⟨⟨default, .int .u8 0, .int .u8 0, .int .u8 0, .int .u8 0⟩⟩
        obtain ⟨qs, hql, hq⟩ := list_of each
        obtain ⟨L, hL⟩ : ∃ L, L = qs.map (·.1) := ⟨_, rfl⟩
        have hLl : L.length = len := by rw [hL, List.length_map, hql]
        have hat : ∀ (i : Nat) (x : V), L[i]? = some x → ∃ q, qs[i]? = some q ∧ q.1 = x := fun i x hx => by
          rw [hL, List.getElem?_map] at hx
          exact Option.map_eq_some_iff.1 hx
        refine ⟨_, _, _, _, .mk k s.data.toList L ks, rfl, ?_, ?_⟩
        · have := Vk.mk (w := W) (ok := fun _ => True) k s.data.toList L ks (some ad) B cap dd (fun i j => match qs[i]? with | some q => [q.2.1, q.2.2.1, q.2.2.2.1, q.2.2.2.2].getD j (.int .u8 0) | none => .int .u8 0) hk5 (by rw [hLl]; exact hlc) hcm (fun h => by cases h) hd hd2 hB hK (fun h0 => by
            rw [hLl] at h0
            obtain ⟨bb, off, spot⟩ := ad
            obtain ⟨q0, hq0⟩ : ∃ q, qs[0]? = some q := ⟨qs[0]'(by omega), List.getElem?_eq_getElem (by omega)⟩
            have c0 := (hq 0 q0 hq0).1 0 (by decide)
            have hspot : spot = none := by simpa [Addr.add] using World.cell?_spot c0
            subst hspot
            refine ⟨bb, off, rfl, World.block_lt_of_cell? W _ c0, fun i hi j hj => ?_⟩
            obtain ⟨q, hqi⟩ : ∃ q, qs[i]? = some q := ⟨qs[i]'(by omega), List.getElem?_eq_getElem (by omega)⟩
            have cj := (hq i q hqi).1 j hj
            rw [addAt, addAt] at cj
            rw [cj]
            simp only [hqi]
            rcases (show j = 0 ∨ j = 1 ∨ j = 2 ∨ j = 3 by omega) with rfl | rfl | rfl | rfl <;> rfl) (fun _ _ _ _ => trivial) (fun _ _ _ _ => trivial) (fun i x hx => by
            obtain ⟨q, hqi, rfl⟩ := hat i x hx
            simp only [hqi]
            exact (hq i q hqi).2.1)
          rw [← hs2, hLl] at this; exact this
        · have hb : wtL L ≤ Rows.uptoBulkAll (elems.map (·.1)) := wt_bulk (by rw [hLl, List.length_map, hel]) fun i x dd hx hd => by
            obtain ⟨q, hqi, rfl⟩ := hat i x hx
            obtain ⟨e, he, hwe⟩ := (hq i q hqi).2.2
            rw [List.getElem?_map, he] at hd
            have : e.1 = dd := by simpa using hd
            rw [← this]; exact hwe
          simp only [wt, Rows.uptoBulk, Rows.uptoBulkAll, List.map_cons, List.map_nil]
          omega
end
end Va
end Go.Proofs.YtggeiajbcehkjaaGreatDoor
/- A value as an argument. -/
namespace Go.Proofs.YtggeiajbcehkjaaGreatDoor
open Go.RowKit Go.ChangeShapes Go.WideShapes
namespace Va
set_option maxRecDepth 100000

theorem argv_of {H : Type} {enc : TypeId × Value → H} {W : World} {base b0 : Nat} {spare : Nat → Bool} {held : Bool} {r : Reach} {v : Value} {d : DataW H} {p : List MemPlace} (hv : Value.okWide Tryz.prog W r b0 33 v) (h : DataW.Trod enc Tryz.prog W base spare held 33 v d p) : ∃ x : V, Vm W v x ∧ wt x ≤ Rows.uptoBulk d := by
  obtain ⟨cs, rfl, hsz⟩ := okWide_struct Tryz.underlying33 hv
  obtain ⟨fuel, hf⟩ := h
  obtain ⟨a, b, c, e, x, hcs, hvm, hwt⟩ := value_of fuel _ _ hf
  have hcs : cs.toList = [a, b, c, e] := by simpa [Value.cells] using hcs
  obtain rfl : cs = #[a, b, c, e] := by cases cs; simp_all
  exact ⟨x, hvm, hwt⟩

end Va
end Go.Proofs.YtggeiajbcehkjaaGreatDoor
