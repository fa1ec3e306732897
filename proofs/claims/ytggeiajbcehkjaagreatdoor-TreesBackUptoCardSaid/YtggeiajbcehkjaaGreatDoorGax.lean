/- Values as lists have them, how big they are; values in memory. -/
import Derived.Test.YtggeiajbcehkjaaGreatDoorProg
import Derived.Test.YtggeiajbcehkjaaGreatDoorGaa
import Derived.Deep.DeepCutAuto
import Derived.Deep.CutBlock
import Derived.Deep.CutRange
namespace Go.Proofs.YtggeiajbcehkjaaGreatDoor
open Go.RowKit
namespace Va
abbrev Bs := List UInt8
inductive V where
  | mk (kind : Nat) (text : Bs) (list : List V) (keys : List Bs)
def V.kind : V → Nat | .mk k _ _ _ => k
def V.text : V → Bs | .mk _ t _ _ => t
def V.keys : V → List Bs | .mk _ _ _ ks => ks
def kw : List Bs → Nat
  | [] => 0
  | t :: r => t.length + kw r
mutual
def wt : V → Nat
  | .mk _ t l ks => 1 + t.length + ks.length + kw ks + wtL l
def wtL : List V → Nat
  | [] => 0
  | x :: r => wt x + wtL r
end
theorem wt_pos : ∀ x : V, 0 < wt x
  | .mk k t l ks => by rw [wt]; omega
theorem wtL_get : ∀ {l : List V} {i : Nat} {x : V}, l[i]? = some x → wt x ≤ wtL l
  | [], _, _, h => by simp at h
  | y :: r, 0, x, h => by obtain rfl : y = x := by simpa using h
                          rw [wtL]; omega
  | y :: r, i + 1, x, h => by have := wtL_get (l := r) (i := i) (by simpa using h); rw [wtL]; omega
theorem wt_sub {k : Nat} {t : Bs} {l : List V} {ks : List Bs} {i : Nat} {x : V} (h : l[i]? = some x) : wt x < wt (.mk k t l ks) := by have := wtL_get h; rw [wt]; omega
theorem wtL_len : ∀ l : List V, l.length ≤ wtL l
  | [] => Nat.zero_le _
  | x :: r => by have := wtL_len r; have := wt_pos x; rw [wtL, List.length_cons]; omega
theorem kw_drop {ks : List Bs} {i : Nat} {t : Bs} (h : ks[i]? = some t) : kw (ks.drop i) = t.length + kw (ks.drop (i + 1)) := by
  have hl := (List.getElem?_eq_some_iff.1 h).1
  have e : ks[i] = t := (List.getElem?_eq_some_iff.1 h).2
  rw [List.drop_eq_getElem_cons hl, kw, e]
theorem wtL_drop {l : List V} {i : Nat} {x : V} (h : l[i]? = some x) : wtL (l.drop i) = wt x + wtL (l.drop (i + 1)) := by
  have hl := (List.getElem?_eq_some_iff.1 h).1
  have e : l[i] = x := (List.getElem?_eq_some_iff.1 h).2
  rw [List.drop_eq_getElem_cons hl, wtL, e]
theorem kw_end {ks : List Bs} {i : Nat} (h : ks.length ≤ i) : kw (ks.drop i) = 0 := by rw [List.drop_eq_nil_of_le h]; rfl
theorem wtL_end {l : List V} {i : Nat} (h : l.length ≤ i) : wtL (l.drop i) = 0 := by rw [List.drop_eq_nil_of_le h]; rfl
theorem get_lt {α : Type} {l : List α} {i : Nat} (h : i < l.length) : ∃ x, l[i]? = some x := ⟨l[i], List.getElem?_eq_getElem h⟩
/-- A row of texts in memory. -/
def Tx (w : World) (A : Option Addr) (L : List Bs) : Prop := 0 < L.length → ∃ g o, A = some ⟨g, o, none⟩ ∧ g < w.heap.size ∧ ∀ i t, L[i]? = some t → w.cell? ⟨g, o + i, none⟩ = some (.string (txt t))
/-- A value in memory, in blocks that are fit. -/
inductive Vk (w : World) (ok : Nat → Prop) : Value → V → Prop where
  | mk (k : Nat) (t : Bs) (l : List V) (ks : List Bs) (A B : Option Addr) (c d : Nat) (f : Nat → Nat → Value)
    (hk : k < 256) (hl : l.length ≤ c) (hc : c ≤ maxLen) (hA : A = none → c = 0) (hd : ks.length ≤ d) (hd2 : d ≤ maxLen) (hB : B = none → d = 0) (hK : Tx w B ks)
    (hL : 0 < l.length → ∃ g o, A = some ⟨g, o, none⟩ ∧ g < w.heap.size ∧ ∀ i, i < l.length → ∀ j, j < 4 → w.cell? ⟨g, o + i * 4 + j, none⟩ = some (f i j))
    (ha : 0 < l.length → ∀ g o, A = some ⟨g, o, none⟩ → ok g) (hb : 0 < ks.length → ∀ g o, B = some ⟨g, o, none⟩ → ok g)
    (hV : ∀ i x, l[i]? = some x → Vk w ok (.agg #[f i 0, f i 1, f i 2, f i 3]) x) :
    Vk w ok (.agg #[.int .u8 k, .string (txt t), .slice A l.length c, .slice B ks.length d]) (.mk k t l ks)
/-- A value in memory. -/
def Vm (w : World) (v : Value) (x : V) : Prop := Vk w (fun _ => True) v x
/-- A row of values in memory. -/
def Vr (w : World) (A : Option Addr) (l : List V) : Prop := 0 < l.length → ∃ g o, A = some ⟨g, o, none⟩ ∧ g < w.heap.size ∧ ∀ i x, l[i]? = some x → ∃ v0 v1 v2 v3, w.cell? ⟨g, o + i * 4, none⟩ = some v0 ∧ w.cell? ⟨g, o + i * 4 + 1, none⟩ = some v1 ∧ w.cell? ⟨g, o + i * 4 + 2, none⟩ = some v2 ∧ w.cell? ⟨g, o + i * 4 + 3, none⟩ = some v3 ∧ Vm w (.agg #[v0, v1, v2, v3]) x
theorem Vm.inv {w : World} {v : Value} {k : Nat} {t : Bs} {l : List V} {ks : List Bs} (h : Vm w v (.mk k t l ks)) :
    ∃ A B c d, v = .agg #[.int .u8 k, .string (txt t), .slice A l.length c, .slice B ks.length d] ∧ k < 256 ∧ l.length ≤ c ∧ c ≤ maxLen ∧ (A = none → c = 0) ∧ ks.length ≤ d ∧ d ≤ maxLen ∧ (B = none → d = 0) ∧ Tx w B ks ∧ Vr w A l := by
  cases h with
  | mk _ _ _ _ A B c d f hk hl hc hA hd hd2 hB hK hL _ _ hV =>
    refine ⟨A, B, c, d, rfl, hk, hl, hc, hA, hd, hd2, hB, hK, fun h0 => ?_⟩
    obtain ⟨g, o, e, hg, hf⟩ := hL h0
    exact ⟨g, o, e, hg, fun i x hx => ⟨_, _, _, _, hf i (List.getElem?_eq_some_iff.1 hx).1 0 (by decide), hf i (List.getElem?_eq_some_iff.1 hx).1 1 (by decide), hf i (List.getElem?_eq_some_iff.1 hx).1 2 (by decide), hf i (List.getElem?_eq_some_iff.1 hx).1 3 (by decide), hV i x hx⟩⟩
theorem cell_old {w w' : World} {b k : Nat} {v : Value} (hb : Below w.heap.size w w') (h : b < w.heap.size) (hc : w.cell? ⟨b, k, none⟩ = some v) : w'.cell? ⟨b, k, none⟩ = some v := by rw [hb.cell h]; exact hc
theorem below_tr {W w w' : World} (h : Below W.heap.size W w) (h' : Below w.heap.size w w') : Below W.heap.size W w' := h.trans (h'.mono h.size)
theorem Tx.on {w w' : World} {A : Option Addr} {L : List Bs} (h : Tx w A L) (hb : Below w.heap.size w w') : Tx w' A L := fun h0 => by
  obtain ⟨g, o, e, hg, hf⟩ := h h0
  exact ⟨g, o, e, Nat.lt_of_lt_of_le hg hb.size, fun i t ht => cell_old hb hg (hf i t ht)⟩
theorem cell_eq {w w' : World} {b k : Nat} {v : Value} (h : w'.heap[b]? = w.heap[b]?) (hc : w.cell? ⟨b, k, none⟩ = some v) : w'.cell? ⟨b, k, none⟩ = some v := by
  simp only [World.cell?] at hc ⊢
  rw [h]; exact hc
theorem Vk.keep {w w' : World} {ok : Nat → Prop} {v : Value} {x : V} (h : Vk w ok v x) (hb : ∀ g, ok g → g < w.heap.size → w'.heap[g]? = w.heap[g]?) (hs : w.heap.size ≤ w'.heap.size) : Vk w' ok v x := by
  induction h with
  | mk k t l ks A B c d f hk hl hc hA hd hd2 hB hK hL ha hb' hV ih =>
    refine .mk k t l ks A B c d f hk hl hc hA hd hd2 hB (fun h0 => ?_) (fun h0 => ?_) ha hb' ih
    · obtain ⟨g, o, e, hg, hf⟩ := hK h0
      exact ⟨g, o, e, Nat.lt_of_lt_of_le hg hs, fun i s hi => cell_eq (hb g (hb' h0 g o e) hg) (hf i s hi)⟩
    · obtain ⟨g, o, e, hg, hf⟩ := hL h0
      exact ⟨g, o, e, Nat.lt_of_lt_of_le hg hs, fun i hi j hj => cell_eq (hb g (ha h0 g o e) hg) (hf i hi j hj)⟩
theorem Vk.to {w : World} {ok ok' : Nat → Prop} {v : Value} {x : V} (h : Vk w ok v x) (hi : ∀ g, g < w.heap.size → ok g → ok' g) : Vk w ok' v x := by
  induction h with
  | mk k t l ks A B c d f hk hl hc hA hd hd2 hB hK hL ha hb' hV ih =>
    refine .mk k t l ks A B c d f hk hl hc hA hd hd2 hB hK hL (fun h0 g o e => ?_) (fun h0 g o e => ?_) ih
    · obtain ⟨g', o', e', hg, _⟩ := hL h0
      rw [e'] at e; injection e with e; injection e with e1 _ _; subst e1
      exact hi _ hg (ha h0 _ _ e')
    · obtain ⟨g', o', e', hg, _⟩ := hK h0
      rw [e'] at e; injection e with e; injection e with e1 _ _; subst e1
      exact hi _ hg (hb' h0 _ _ e')
theorem Vk.vm {w : World} {ok : Nat → Prop} {v : Value} {x : V} (h : Vk w ok v x) : Vm w v x := h.to fun _ _ _ => trivial
theorem Vm.on {w w' : World} {v : Value} {x : V} (h : Vm w v x) (hb : Below w.heap.size w w') : Vm w' v x := Vk.keep h (fun g _ hg => hb.block g hg) hb.size
theorem Vk.on {w w' : World} {ok : Nat → Prop} {v : Value} {x : V} (h : Vk w ok v x) (hb : Below w.heap.size w w') : Vk w' ok v x := h.keep (fun g _ hg => hb.block g hg) hb.size
theorem Vr.on {w w' : World} {A : Option Addr} {l : List V} (h : Vr w A l) (hb : Below w.heap.size w w') : Vr w' A l := fun h0 => by
  obtain ⟨g, o, e, hg, hf⟩ := h h0
  exact ⟨g, o, e, Nat.lt_of_lt_of_le hg hb.size, fun i x hx => by
    obtain ⟨v0, v1, v2, v3, h0, h1, h2, h3, hv⟩ := hf i x hx
    exact ⟨v0, v1, v2, v3, cell_old hb hg h0, cell_old hb hg h1, cell_old hb hg h2, cell_old hb hg h3, hv.on hb⟩⟩
/-- A value in a block of its own. -/
abbrev vO (a b c d : Value) : Obj := .cells #[a, b, c, d] 33
structure Bx (wx : World) (h : Nat) (a b c d : Value) : Prop where
  lt : h < wx.heap.size
  c0 : wx.cell? ⟨h, 0, none⟩ = some a
  c1 : wx.cell? ⟨h, 1, none⟩ = some b
  c2 : wx.cell? ⟨h, 2, none⟩ = some c
  c3 : wx.cell? ⟨h, 3, none⟩ = some d
theorem Bx.on {w w' : World} {h : Nat} {a b c d : Value} (H : Bx w h a b c d) (hb : Below w.heap.size w w') : Bx w' h a b c d :=
  ⟨Nat.lt_of_lt_of_le H.lt hb.size, cell_old hb H.lt H.c0, cell_old hb H.lt H.c1, cell_old hb H.lt H.c2, cell_old hb H.lt H.c3⟩
theorem heap_alloc_new (w : World) (o : Obj) : (w.alloc o).heap[w.heap.size]? = some o := by
  show (w.heap.push o)[w.heap.size]? = _
  simp
theorem Bx.new (w : World) (a b c d : Value) : Bx (w.alloc (vO a b c d)) w.heap.size a b c d := by
  have e := heap_alloc_new w (vO a b c d)
  refine ⟨by show _ < (w.heap.push _).size; rw [Array.size_push]; omega, ?_, ?_, ?_, ?_⟩ <;> · simp only [World.cell?, e]; rfl
theorem below_new (w : World) (o : Obj) : Below w.heap.size w (w.alloc o) := (Below.refl _ _).alloc (Nat.le_refl _) _
end Va
end Go.Proofs.YtggeiajbcehkjaaGreatDoor
/- The law's own: how big a value is, as far as it is asked. -/
namespace Go.Proofs.YtggeiajbcehkjaaGreatDoor
open Go.RowKit
namespace Va

set_option maxHeartbeats 4000000 in
set_option maxRecDepth 100000 in
theorem weight_any : ∀ (N : Nat) (x : V), wt x ≤ N → N ≤ 1000000000000 → ∀ (w : World) (v : Value), Vm w v x →
    Calls Tryz.prog 43 #[v] w fun e w' => (∃ n : Nat, e = .returned (.int .i64 n) ∧ n ≤ wt x ∧ (n = wt x ∨ 100000 ≤ n)) ∧ Below w.heap.size w w'
  | 0, x, hx, _, _, _, _ => by have := wt_pos x; omega
  | N + 1, .mk k t l ks, hx, hN, w, v, hv => by
    obtain ⟨A, B, c, d, rfl, hk, hl, hc, hA, hd, hd2, hB, hK, hV⟩ := hv.inv
    have IH := Lib.hid (fun (i : Nat) (x : V) (hi : l[i]? = some x) (w : World) (v : Value) (h : Vm w v x) => weight_any N x (by have := wt_sub (k := k) (t := t) (ks := ks) hi; omega) (by omega) w v h)
    have HWT := Lib.hid (show wt (.mk k t l ks) = 1 + t.length + ks.length + kw ks + wtL l from by rw [wt])
    have hb0 : 1 + t.length + ks.length + kw ks + wtL l ≤ N + 1 := by rw [← HWT.out]; exact hx
    have HB0 := Lib.hid hb0
    have HLN := Lib.hid hN
    have HK := Lib.hid hK
    have HV := Lib.hid hV
    obtain ⟨T, hT⟩ : ∃ T, T = txt t := ⟨_, rfl⟩
    have HTS := Lib.hid (show T.size = t.length by rw [hT, txt_size])
    obtain ⟨n, HN⟩ : ∃ n, Hid (n = l.length) := ⟨_, Lib.hid rfl⟩
    obtain ⟨m, HM⟩ : ∃ m, Hid (m = ks.length) := ⟨_, Lib.hid rfl⟩
    rw [← HN.out, ← HM.out, ← hT]
    rw [← HN.out] at hl
    rw [← HM.out] at hd
    have hT5 : T.size ≤ 1000000000000 := by rw [HTS.out]; omega
    have hn5 : n ≤ 1000000000000 := by rw [HN.out]; have := wtL_len l; omega
    have hm5 : m ≤ 1000000000000 := by rw [HM.out]; omega
    clear hT hK hV hb0 hx hN hv
    go_enter Tryz.func43, Tryz.ntmps43
    go_upto_region 2 with fail
    obtain ⟨W1, hW1⟩ : ∃ W, W = w.alloc (vO (.int .u8 k) (.string T) (.slice A n c) (.slice B m d)) := ⟨_, rfl⟩
    have HX := Lib.hid (show Bx W1 w.heap.size (.int .u8 k) (.string T) (.slice A n c) (.slice B m d) from by rw [hW1]; exact Bx.new ..)
    have HB1 := Lib.hid (show Below w.heap.size w W1 from by rw [hW1]; exact below_new ..)
    rw [← hW1]
    obtain ⟨h, hh⟩ : ∃ h, h = w.heap.size := ⟨_, rfl⟩
    rw [← hh] at HX ⊢
    clear hW1 hh
    obtain ⟨x0, x1, x2, x3⟩ : W1.cell? ⟨h, 0, none⟩ = some (.int .u8 k) ∧ W1.cell? ⟨h, 1, none⟩ = some (.string T) ∧ W1.cell? ⟨h, 2, none⟩ = some (.slice A n c) ∧ W1.cell? ⟨h, 3, none⟩ = some (.slice B m d) := ⟨HX.out.c0, HX.out.c1, HX.out.c2, HX.out.c3⟩
    have HK1 := Lib.hid (HK.out.on HB1.out)
    obtain ⟨C1, HC1⟩ : ∃ C1, Hid (C1 = 1 + T.size + m + kw ks) := ⟨_, Lib.hid rfl⟩
    have HC5 := Lib.hid (show C1 ≤ 1000000000000 by rw [HC1.out, HTS.out, HM.out]; have := HB0.out; have := HLN.out; omega)
    clear x0 x1
    go_upto_block 0 with fail
    go_cut [3, 4] from 14 to 32 (fun a b wx => W1 = wx ∧ ∃ q i : Nat, q ≤ 1000000000000 ∧ a = .int .i64 q ∧ b = .int .i64 i ∧ Hid (q ≤ C1 ∧ (q = C1 ∨ 100000 ≤ q)))
    case first =>
      go_wp2_with fail
      go_loopw [3, 4] (fun a b wx => W1 = wx ∧ ∃ q i : Nat, i ≤ m ∧ q ≤ 1000000000000 ∧ a = .int .i64 q ∧ b = .int .i64 i ∧ Hid (q + kw (ks.drop i) = C1)) (fun _ b _ => m - (intOf b).toNat)
      case atStart => exact ⟨rfl, 1 + T.size + m, 0, Nat.zero_le _, by have := HC1.out; have := HC5.out; omega, by go_num, rfl, Lib.hid (by rw [HC1.out, List.drop_zero])⟩
      case round =>
        obtain ⟨rfl, q, i, hi, hq, rfl, rfl, HQ⟩ := hrel
        by_cases hlt : i < m
        · by_cases h5 : (q : Int) < 100000
          · obtain ⟨s, hs⟩ := get_lt (l := ks) (i := i) (by rw [← HM.out]; exact hlt)
            obtain ⟨g, o, rfl, hg, hf⟩ := HK1.out (by rw [← HM.out]; omega)
            have c5 := hf i s hs
            obtain ⟨S, hS⟩ : ∃ S, S = txt s := ⟨_, rfl⟩
            rw [← hS] at c5
            have e1 : q + S.size + kw (ks.drop (i + 1)) = C1 := by rw [hS, txt_size, ← HQ.out, kw_drop hs]; omega
            have h6 : q + S.size ≤ 1000000000000 := by have := HC5.out; omega
            have HE := Lib.hid e1
            clear e1 hS hs hf
            go_wp2_with fail
            go_roundw
            case rel => exact ⟨by first | rfl | trivial, q + S.size, i + 1, by omega, h6, by go_num, by go_num, HE⟩
            case measure => simp [intOf]; omega
          · have HE := Lib.hid (show q ≤ C1 ∧ (q = C1 ∨ 100000 ≤ q) from ⟨by have := HQ.out; omega, by right; omega⟩)
            go_wp2_with fail
            go_meet
            exact ⟨by first | rfl | trivial, q, i, hq, rfl, rfl, HE⟩
        · have HE := Lib.hid (show q ≤ C1 ∧ (q = C1 ∨ 100000 ≤ q) from ⟨by have := HQ.out; omega, by have e := HQ.out; rw [kw_end (by rw [← HM.out]; omega)] at e; left; omega⟩)
          go_wp2_with fail
          go_meet
          exact ⟨by first | rfl | trivial, q, i, hq, rfl, rfl, HE⟩
    case rest =>
      obtain ⟨rfl, q0, i0, hq0, rfl, rfl, HQ0⟩ := hcut
      obtain ⟨C2, HC2⟩ : ∃ C2, Hid (C2 = C1 + wtL l) := ⟨_, Lib.hid rfl⟩
      have HC25 := Lib.hid (show C2 ≤ 1000000000000 by rw [HC2.out, HC1.out, HTS.out, HM.out]; have := HB0.out; have := HLN.out; omega)
      have HFIN := Lib.hid (show C2 = wt (.mk k t l ks) by rw [HC2.out, HC1.out, HWT.out, HTS.out, HM.out])
      have HV1 := Lib.hid (HV.out.on HB1.out)
      clear x2 x3
      go_wp2_with fail
      go_loopw [3, 5] (fun a b wx => Hid (Below W1.heap.size W1 wx) ∧ ∃ q i : Nat, i ≤ n ∧ q ≤ 1000000000000 ∧ a = .int .i64 q ∧ b = .int .i64 i ∧ Hid (q + wtL (l.drop i) ≤ C2 ∧ (q + wtL (l.drop i) = C2 ∨ 100000 ≤ q))) (fun _ b _ => n - (intOf b).toNat)
      case atStart => exact ⟨Lib.hid (Below.refl _ _), q0, 0, Nat.zero_le _, hq0, rfl, rfl, Lib.hid (by rw [HC2.out, List.drop_zero]; have := HQ0.out; omega)⟩
      case round =>
        obtain ⟨HBR, q, i, hi, hq, rfl, rfl, HQ⟩ := hrel
        have X := HX.out.on HBR.out
        have x2 := X.c2
        clear X
        by_cases hlt : i < n
        · by_cases h5 : (q : Int) < 100000
          · obtain ⟨y, hy⟩ := get_lt (l := l) (i := i) (by rw [← HN.out]; exact hlt)
            obtain ⟨g, o, rfl, hg, hf⟩ := HV1.out (by rw [← HN.out]; omega)
            obtain ⟨v0, v1, v2, v3, d0, d1, d2, d3, hvm⟩ := hf i y hy
            have c0 := cell_old HBR.out hg d0
            have c1 := cell_old HBR.out hg d1
            have c2 := cell_old HBR.out hg d2
            have c3 := cell_old HBR.out hg d3
            have CI := Lib.hid (IH.out i y hy wr _ (hvm.on HBR.out))
            have e1 := wtL_drop hy
            have HE := Lib.hid (show ∀ r : Nat, r ≤ wt y → (r = wt y ∨ 100000 ≤ r) → q + r + wtL (l.drop (i + 1)) ≤ C2 ∧ (q + r + wtL (l.drop (i + 1)) = C2 ∨ 100000 ≤ q + r) from fun r h1 h2 => by have := HQ.out; rw [e1] at this; omega)
            clear e1 d0 d1 d2 d3 hvm hf
            go_wp2_with fail
            refine CI.out.mono ?_
            rintro e w2 ⟨⟨r, rfl, h1, h2⟩, hb2⟩
            have HE2 := Lib.hid (HE.out r h1 h2)
            have hqr : q + r ≤ 1000000000000 := by have := HE2.out; have := HC25.out; omega
            have HB2 := Lib.hid (below_tr HBR.out hb2)
            clear h1 h2 hb2 HE c0 c1 c2 c3
            go_wp2_with fail
            go_roundw
            case rel => exact ⟨HB2, q + r, i + 1, by omega, hqr, by go_num, by go_num, HE2⟩
            case measure => simp [intOf]; omega
          · have HE := Lib.hid (show q ≤ C2 ∧ (q = C2 ∨ 100000 ≤ q) from ⟨by have := HQ.out; omega, by right; omega⟩)
            have HBF := Lib.hid (below_tr HB1.out HBR.out)
            go_wp2_with fail
            go_ret
            exact ⟨⟨q, rfl, by rw [← HFIN.out]; exact HE.out.1, by rw [← HFIN.out]; exact HE.out.2⟩, HBF.out⟩
        · have HE := Lib.hid (show q ≤ C2 ∧ (q = C2 ∨ 100000 ≤ q) from by have e := HQ.out; rw [wtL_end (by rw [← HN.out]; omega)] at e; omega)
          have HBF := Lib.hid (below_tr HB1.out HBR.out)
          go_wp2_with fail
          go_ret
          exact ⟨⟨q, rfl, by rw [← HFIN.out]; exact HE.out.1, by rw [← HFIN.out]; exact HE.out.2⟩, HBF.out⟩
theorem great_any {x : V} {v : Value} (w : World) (hx : wt x ≤ 1000000000000) (hv : Vm w v x) :
    Calls Tryz.prog 19 #[v] w fun e w' => e = .returned (.bool (decide (1500 < wt x))) ∧ Below w.heap.size w w' := by
  have CW := Lib.hid (fun (w' : World) (hb : Below w.heap.size w w') => weight_any 1000000000000 x hx (Nat.le_refl _) w' v (hv.on hb))
  obtain ⟨k, t, l, ks⟩ := x
  obtain ⟨A, B, c, d, rfl, hk, hl, hc, hA, hd, hd2, hB, hK, hV⟩ := hv.inv
  obtain ⟨T, hT⟩ : ∃ T, T = txt t := ⟨_, rfl⟩
  rw [← hT] at CW ⊢
  clear hV hK hv hT hx
  go_enter Tryz.func19, Tryz.ntmps19
  go_wp2_with fail
  refine (CW.out _ (below_new ..)).mono ?_
  rintro e w2 ⟨⟨q, rfl, h1, h2⟩, hb⟩
  have HB := Lib.hid (below_tr (below_new ..) hb)
  have HE := Lib.hid (show decide ((1500 : Int) < (q : Int)) = decide (1500 < wt (.mk k t l ks)) from decide_eq_decide.2 (by omega))
  clear h1 h2 hb
  go_wp2_with fail
  go_ret
  exact ⟨ret_bool HE.out, HB.out⟩
end Va
end Go.Proofs.YtggeiajbcehkjaaGreatDoor
/- Values as lists: how deep, whether one may be, where a key is. -/
namespace Go.Proofs.YtggeiajbcehkjaaGreatDoor
open Go.RowKit
namespace Va

mutual
def dp : V → Nat
  | .mk k _ l _ => if k = 7 ∨ k = 8 then dpL l + 1 else 0
def dpL : List V → Nat
  | [] => 0
  | x :: r => max (dp x) (dpL r)
end
/-- Where a key is first. -/
def fnd : List Bs → Bs → Option Nat
  | [], _ => none
  | t :: r, s => if t = s then some 0 else (fnd r s).map (· + 1)
/-- What a value's own parts must be. -/
def tx (k : Nat) (t : Bs) : Prop := if k = 0 ∨ k = 7 ∨ k = 8 then t = [] else if k = 1 then t = [116, 114, 117, 101] ∨ t = [102, 97, 108, 115, 101] else if k = 3 then True else t ≠ []
instance (k : Nat) (t : Bs) : Decidable (tx k t) := by unfold tx; infer_instance
def plH (k : Nat) (t : Bs) (n : Nat) (ks : List Bs) : Bool := decide (k ≤ 8 ∧ (k = 8 ∨ ks = []) ∧ (7 ≤ k ∨ n = 0) ∧ tx k t ∧ (k = 8 → ks.length = n) ∧ ks.Nodup)
mutual
def pl : V → Bool
  | .mk k t l ks => plH k t l.length ks && plL l
def plL : List V → Bool
  | [] => true
  | x :: r => pl x && plL r
end
theorem plL_get : ∀ {l : List V} {i : Nat} {x : V}, plL l = true → l[i]? = some x → pl x = true
  | [], _, _, _, h => by simp at h
  | y :: r, 0, x, hp, h => by
    obtain rfl : y = x := by simpa using h
    rw [plL, Bool.and_eq_true] at hp; exact hp.1
  | y :: r, i + 1, x, hp, h => by
    rw [plL, Bool.and_eq_true] at hp
    exact plL_get (l := r) (i := i) hp.2 (by simpa using h)
theorem dpL_get : ∀ {l : List V} {i : Nat} {x : V}, l[i]? = some x → dp x ≤ dpL l
  | [], _, _, h => by simp at h
  | y :: r, 0, x, h => by
    obtain rfl : y = x := by simpa using h
    rw [dpL]; omega
  | y :: r, i + 1, x, h => by have := dpL_get (l := r) (i := i) (by simpa using h); rw [dpL]; omega
def may (x : V) : Bool := decide (dp x ≤ 256) && pl x
/-- Each part of a value that may be may be. -/
theorem may_sub {k : Nat} {t : Bs} {l : List V} {ks : List Bs} {i : Nat} {x : V} (h : may (.mk k t l ks) = true) (hi : l[i]? = some x) : may x = true := by
  unfold may at h ⊢
  rw [Bool.and_eq_true] at h ⊢
  obtain ⟨h1, h2⟩ := h
  have h1 := of_decide_eq_true h1
  rw [pl, Bool.and_eq_true] at h2
  refine ⟨decide_eq_true ?_, plL_get h2.2 hi⟩
  have hh := of_decide_eq_true h2.1
  have hk : k = 7 ∨ k = 8 := by
    have := (List.getElem?_eq_some_iff.1 hi).1
    omega
  rw [dp, if_pos hk] at h1
  have := dpL_get hi
  omega
end Va
end Go.Proofs.YtggeiajbcehkjaaGreatDoor
/- The order of texts; the places of a map's entries by their keys. -/
namespace Go.Proofs.YtggeiajbcehkjaaGreatDoor
open Go.RowKit
namespace Va

abbrev bl := Op.bytesLess
theorem bl_cons {a b : UInt8} {x y : Bs} : bl (a :: x) (b :: y) = true ↔ a < b ∨ a = b ∧ bl x y = true := by simp [bl, Op.bytesLess]
theorem bl_nil (a : Bs) : bl a [] = false := by cases a <;> rfl
theorem bl_irr : ∀ a : Bs, bl a a = false
  | [] => rfl
  | c :: a => by
    cases h : bl (c :: a) (c :: a) with
    | false => rfl
    | true =>
      rcases bl_cons.1 h with h | ⟨_, h⟩
      · exact absurd h (by rw [UInt8.lt_iff_toNat_lt]; omega)
      · rw [bl_irr a] at h; cases h
theorem bl_tr : ∀ {a b c : Bs}, bl a b = true → bl b c = true → bl a c = true
  | _, _, [], _, h => by rw [bl_nil] at h; cases h
  | _, [], _ :: _, h, _ => by rw [bl_nil] at h; cases h
  | [], _ :: _, _ :: _, _, _ => rfl
  | p :: a, q :: b, r :: c, h1, h2 => by
    rcases bl_cons.1 h1 with h3 | ⟨e3, h3⟩
    · rcases bl_cons.1 h2 with h4 | ⟨e4, _⟩
      · exact bl_cons.2 (.inl (by rw [UInt8.lt_iff_toNat_lt] at *; omega))
      · exact bl_cons.2 (.inl (e4 ▸ h3))
    · rcases bl_cons.1 h2 with h4 | ⟨e4, h4⟩
      · exact bl_cons.2 (.inl (e3 ▸ h4))
      · exact bl_cons.2 (.inr ⟨e3.trans e4, bl_tr h3 h4⟩)
theorem bl_asy {a b : Bs} (h : bl a b = true) : bl b a = false := by
  cases h2 : bl b a with
  | false => rfl
  | true => have := bl_tr h h2; rw [bl_irr] at this; cases this
theorem bl_tot : ∀ {a b : Bs}, bl a b = false → bl b a = false → a = b
  | [], [], _, _ => rfl
  | [], _ :: _, h, _ => by cases h
  | _ :: _, [], _, h => by cases h
  | p :: a, q :: b, h1, h2 => by
    have n1 : ¬ (p < q ∨ p = q ∧ bl a b = true) := fun e => by rw [bl_cons.2 e] at h1; cases h1
    have n2 : ¬ (q < p ∨ q = p ∧ bl b a = true) := fun e => by rw [bl_cons.2 e] at h2; cases h2
    have e : p = q := by
      apply UInt8.toNat_inj.1
      have a1 : ¬ p < q := fun e => n1 (.inl e)
      have a2 : ¬ q < p := fun e => n2 (.inl e)
      rw [UInt8.lt_iff_toNat_lt] at a1 a2
      omega
    subst e
    rw [bl_tot (a := a) (b := b) (by cases h : bl a b with | false => rfl | true => exact absurd (.inr ⟨rfl, h⟩) n1) (by cases h : bl b a with | false => rfl | true => exact absurd (.inr ⟨rfl, h⟩) n2)]
/-- A place put in where its key stands. -/
def ins (ks : List Bs) (i : Nat) : List Nat → List Nat
  | [] => [i]
  | j :: r => if bl (ks.getD j []) (ks.getD i []) = true then j :: ins ks i r else i :: j :: r
def ord (ks : List Bs) : Nat → List Nat
  | 0 => []
  | n + 1 => ins ks n (ord ks n)
theorem ins_len (ks : List Bs) (i : Nat) : ∀ l, (ins ks i l).length = l.length + 1
  | [] => rfl
  | j :: r => by
    rw [ins]
    split
    · rw [List.length_cons, ins_len ks i r, List.length_cons]
    · rfl
theorem ord_len (ks : List Bs) : ∀ n, (ord ks n).length = n
  | 0 => rfl
  | n + 1 => by rw [ord, ins_len, ord_len ks n]
theorem ins_mem {ks : List Bs} {i x : Nat} : ∀ {l}, x ∈ ins ks i l ↔ x = i ∨ x ∈ l
  | [] => by simp [ins]
  | j :: r => by
    rw [ins]
    split
    · rw [List.mem_cons, ins_mem, List.mem_cons]
      constructor
      · rintro (h | h | h)
        · exact .inr (.inl h)
        · exact .inl h
        · exact .inr (.inr h)
      · rintro (h | h | h)
        · exact .inr (.inl h)
        · exact .inl h
        · exact .inr (.inr h)
    · rw [List.mem_cons]
theorem ord_mem {ks : List Bs} {x : Nat} : ∀ {n}, x ∈ ord ks n ↔ x < n
  | 0 => by simp [ord]
  | n + 1 => by rw [ord, ins_mem, ord_mem]; omega
/-- Keys rise. -/
def Up (ks : List Bs) (l : List Nat) : Prop := l.Pairwise fun a b => bl (ks.getD a []) (ks.getD b []) = true
theorem ins_up {ks : List Bs} {i : Nat} : ∀ {l : List Nat}, Up ks l → (∀ j ∈ l, ks.getD j [] ≠ ks.getD i []) → Up ks (ins ks i l)
  | [], _, _ => List.pairwise_singleton ..
  | j :: r, h, hn => by
    have h' := List.pairwise_cons.1 h
    rw [ins]
    split
    · rename_i hb
      refine List.pairwise_cons.2 ⟨fun x hx => ?_, ins_up h'.2 fun x hx => hn x (List.mem_cons_of_mem _ hx)⟩
      rcases ins_mem.1 hx with rfl | hx
      · exact hb
      · exact h'.1 x hx
    · rename_i hb
      have hb2 : bl (ks.getD i []) (ks.getD j []) = true := by
        cases h2 : bl (ks.getD i []) (ks.getD j []) with
        | true => rfl
        | false => exact absurd (bl_tot (by simpa using hb) h2) (hn j (List.mem_cons_self ..))
      refine List.pairwise_cons.2 ⟨fun x hx => ?_, h⟩
      rcases List.mem_cons.1 hx with rfl | hx
      · exact hb2
      · exact bl_tr hb2 (h'.1 x hx)
theorem key_inj {ks : List Bs} (hd : ks.Nodup) {i j : Nat} (hi : i < ks.length) (hj : j < ks.length) (h : ks.getD i [] = ks.getD j []) : i = j := by
  rw [List.getD_eq_getElem?_getD, List.getD_eq_getElem?_getD, List.getElem?_eq_getElem hi, List.getElem?_eq_getElem hj] at h
  have h : ks[i] = ks[j] := h
  rcases Nat.lt_trichotomy i j with e | e | e
  · exact absurd h (List.pairwise_iff_getElem.1 hd i j hi hj e)
  · exact e
  · exact absurd h.symm (List.pairwise_iff_getElem.1 hd j i hj hi e)
theorem ord_up {ks : List Bs} (hd : ks.Nodup) : ∀ {n}, n ≤ ks.length → Up ks (ord ks n)
  | 0, _ => List.Pairwise.nil
  | n + 1, hn => by
    refine ins_up (ord_up hd (by omega)) fun j hj e => ?_
    have := ord_mem.1 hj
    have := key_inj hd (i := j) (j := n) (by omega) (by omega) e
    omega
/-- Rising lists of the same texts are the same. -/
theorem up_uniq : ∀ {a b : List Bs}, a.Pairwise (fun x y => bl x y = true) → b.Pairwise (fun x y => bl x y = true) → (∀ x, x ∈ a ↔ x ∈ b) → a = b
  | [], [], _, _, _ => rfl
  | [], y :: b, _, _, h => by have := (h y).2 (List.mem_cons_self ..); cases this
  | x :: a, [], _, _, h => by have := (h x).1 (List.mem_cons_self ..); cases this
  | x :: a, y :: b, ha, hb, h => by
    have ha' := List.pairwise_cons.1 ha
    have hb' := List.pairwise_cons.1 hb
    have e : x = y := by
      have h1 := (h x).1 (List.mem_cons_self ..)
      have h2 := (h y).2 (List.mem_cons_self ..)
      rcases List.mem_cons.1 h1 with e | h1
      · exact e
      · rcases List.mem_cons.1 h2 with e | h2
        · exact e.symm
        · have p := hb'.1 x h1
          have q := ha'.1 y h2
          rw [bl_asy p] at q; cases q
    subst e
    rw [up_uniq ha'.2 hb'.2 fun z => ?_]
    constructor
    · intro hz
      rcases List.mem_cons.1 ((h z).1 (List.mem_cons_of_mem _ hz)) with e | hz2
      · subst e; have := ha'.1 z hz; rw [bl_irr] at this; cases this
      · exact hz2
    · intro hz
      rcases List.mem_cons.1 ((h z).2 (List.mem_cons_of_mem _ hz)) with e | hz2
      · subst e; have := hb'.1 z hz; rw [bl_irr] at this; cases this
      · exact hz2
def bcmp (a b : Bs) : Ordering := if bl a b = true then .lt else if bl b a = true then .gt else .eq
theorem bcmp_self (a : Bs) : bcmp a a = .eq := by rw [bcmp, bl_irr]; rfl
theorem bcmp_eq {a b : Bs} (h : bcmp a b = .eq) : a = b := by
  unfold bcmp at h
  split at h
  · cases h
  · split at h
    · cases h
    · rename_i h1 h2
      exact bl_tot (by simpa using h1) (by simpa using h2)
theorem bcmp_swap (a b : Bs) : bcmp b a = (bcmp a b).swap := by
  unfold bcmp
  cases h : bl a b with
  | true => rw [bl_asy h]; rfl
  | false => cases h2 : bl b a <;> rfl
theorem bcmp_lt {a b : Bs} : bcmp a b = .lt ↔ bl a b = true := by
  unfold bcmp
  cases h : bl a b with
  | true => simp
  | false => cases h2 : bl b a <;> simp
end Va
end Go.Proofs.YtggeiajbcehkjaaGreatDoor
/- The order of values, on values whose maps' keys stand in order. -/
namespace Go.Proofs.YtggeiajbcehkjaaGreatDoor
open Go.RowKit
namespace Va

def ncmp (i j : Nat) : Ordering := if i < j then .lt else if j < i then .gt else .eq
mutual
def cmpV : V → V → Ordering
  | .mk k t l ks, .mk k' t' l' ks' => (ncmp k k').then ((bcmp t t').then (cmpL l ks l' ks'))
def cmpL : List V → List Bs → List V → List Bs → Ordering
  | [], _, [], _ => .eq
  | [], _, _ :: _, _ => .lt
  | _ :: _, _, [], _ => .gt
  | x :: r, ks, y :: s, ks' => (bcmp (ks.headD []) (ks'.headD [])).then ((cmpV x y).then (cmpL r ks.tail s ks'.tail))
end
theorem ncmp_self (i : Nat) : ncmp i i = .eq := by unfold ncmp; simp
theorem ncmp_eq {i j : Nat} (h : ncmp i j = .eq) : i = j := by
  unfold ncmp at h
  split at h
  · cases h
  · split at h
    · cases h
    · omega
mutual
theorem cmpV_self : ∀ x : V, cmpV x x = .eq
  | .mk k t l ks => by rw [cmpV, ncmp_self, bcmp_self, cmpL_self l ks]; rfl
theorem cmpL_self : ∀ (l : List V) (ks : List Bs), cmpL l ks l ks = .eq
  | [], _ => by rw [cmpL]
  | x :: r, ks => by rw [cmpL, bcmp_self, cmpV_self x, cmpL_self r ks.tail]; rfl
end
theorem then_eq {a b : Ordering} (h : a.then b = .eq) : a = .eq ∧ b = .eq := by cases a <;> first | exact ⟨rfl, h⟩ | cases h
end Va
end Go.Proofs.YtggeiajbcehkjaaGreatDoor
