/- What landed of values: a value's size, and how deep it is. -/
import Derived.Test.YtggeiajbcehkjaaGreatDoorGaz
import Derived.Test.YtggeiajbcehkjaaGreatDoorGay
import Derived.Lib.Bytealg
import Derived.Lib.Strings
import Derived.Test.YtggeiajbcehkjaaGreatDoorGak
import Derived.Sort.Grow
namespace Go.Proofs.YtggeiajbcehkjaaGreatDoor
open Go.RowKit
namespace Va
set_option maxRecDepth 100000

theorem fold_sz : ∀ (l : List V) (b : Nat), l.foldl (fun b x => b + sz x) b = b + szL l
  | [], b => by simp [szL]
  | x :: r, b => by rw [List.foldl_cons, fold_sz r, szL]; omega
set_option maxHeartbeats 4000000 in
theorem sizeF_any {x : V} {v : Value} {b r : Nat} (w : World) (hv : Vm w v x) (hb0 : b + r ≤ 1000000)
    (CM : ∀ w' : World, Below w.heap.size w w' → Calls Tryz.prog 49 #[v] w' fun e w'' => e = .returned (.int .i64 (r : Nat)) ∧ Below w'.heap.size w' w'') :
    Calls Tryz.prog 72 #[.int .i64 (b : Nat), v] w fun e w' => e = .returned (.int .i64 ((b + r : Nat) : Int)) ∧ Below w.heap.size w w' := by
  obtain ⟨k, t, l, ks⟩ := x
  obtain ⟨A, B, c, d, rfl, _⟩ := hv.inv
  obtain ⟨T, hT⟩ : ∃ T, T = txt t := ⟨_, rfl⟩
  rw [← hT] at CM ⊢
  have HC := Lib.hid CM
  clear hv hT CM
  go_enter Tryz.func72, Tryz.ntmps72
  go_wp2_with fail
  refine (HC.out _ (below_new ..)).mono ?_
  rintro e w2 ⟨rfl, hb⟩
  have HB := Lib.hid (below_tr (below_new ..) hb)
  clear hb
  go_wp2_with fail
  go_ret
  exact ⟨ret_int (by go_num), HB.out⟩
set_option maxHeartbeats 4000000 in
theorem size_any : ∀ (N : Nat) (x : V), wt x ≤ N → N ≤ 1000000 → ∀ (w : World) (v : Value), Vm w v x →
    Calls Tryz.prog 49 #[v] w fun e w' => e = .returned (.int .i64 (sz x : Nat)) ∧ Below w.heap.size w w'
  | 0, x, hx, _, _, _, _ => by have := wt_pos x; omega
  | N + 1, .mk k t l ks, hx, hN, w, v, hv => by
    have IH := Lib.hid (fun (i : Nat) (x : V) (hi : l[i]? = some x) (w : World) (v : Value) (h : Vm w v x) => size_any N x (by have := wt_sub (k := k) (t := t) (ks := ks) hi; omega) (by omega) w v h)
    have hs := Lib.hid (show sz (.mk k t l ks) ≤ 1000000 by have := sz_le (.mk k t l ks); omega)
    have HS := Lib.hid (show sz (.mk k t l ks) = 1 + szL l by rw [sz])
    obtain ⟨S, hS⟩ : ∃ S, S = sz (.mk k t l ks) := ⟨_, rfl⟩
    rw [← hS] at hs HS ⊢
    obtain ⟨A, B, c, d, rfl, hk, hl, hc, hA, hd, hd2, hB, hK, hV⟩ := hv.inv
    have hn0 : l.length ≤ 1000000 := by have := wtL_len l; rw [wt] at hx; omega
    have CO := Lib.hid (fun (w' : World) (hb : Below w.heap.size w w') => overS_any (l := l) (A := A) (c := c) (b0 := 1) (fun b x => b + sz x) (fun i b => b + szL (l.drop i) ≤ 1000000) w' (hV.on hb) hn0 (by rw [List.drop_zero, ← HS.out]; exact hs.out)
      (fun i x b hi h => by have := szL_drop hi; show b + sz x + _ ≤ _; omega)
      (fun i x v w2 b hi h hv hb2 => sizeF_any w2 hv (by have := szL_drop hi; omega) (fun w3 hb3 => IH.out i x hi w3 v (hv.on hb3))))
    rw [fold_sz, ← HS.out] at CO
    obtain ⟨T, hT⟩ : ∃ T, T = txt t := ⟨_, rfl⟩
    obtain ⟨n, HN⟩ : ∃ n, Hid (n = l.length) := ⟨_, Lib.hid rfl⟩
    obtain ⟨m, HM⟩ : ∃ m, Hid (m = ks.length) := ⟨_, Lib.hid rfl⟩
    rw [← HN.out] at CO
    rw [← HN.out, ← HM.out, ← hT]
    clear hV hK hv hT hx hN hn0 hS IH
    go_enter Tryz.func49, Tryz.ntmps49
    go_wp2_with fail
    refine (CO.out _ (below_new ..)).mono ?_
    rintro e w2 ⟨rfl, hb⟩
    have HB := Lib.hid (below_tr (below_new ..) hb)
    clear hb
    go_wp2_with fail
    go_ret
    exact ⟨by first | rfl | trivial, HB.out⟩
end Va
end Go.Proofs.YtggeiajbcehkjaaGreatDoor
/- What landed of values: texts' order as a number; the first of two answers that is not nought. -/
namespace Go.Proofs.YtggeiajbcehkjaaGreatDoor
open Go.RowKit
namespace Va
set_option maxRecDepth 100000

theorem cmpBytes : ∀ a b : Bs, Lib.compareBytes a b = oN (bcmp a b)
  | [], [] => by rw [Lib.compareBytes, bcmp_self]; rfl
  | [], b :: s => by
    rw [Lib.compareBytes, show bcmp [] (b :: s) = .lt from by rw [bcmp_lt]; rfl]; rfl
  | a :: r, [] => by
    rw [Lib.compareBytes, show bcmp (a :: r) [] = .gt from by rw [bcmp_swap, show bcmp [] (a :: r) = .lt from by rw [bcmp_lt]; rfl]; rfl]; rfl
  | a :: r, b :: s => by
    rw [Lib.compareBytes]
    by_cases h : a < b
    · rw [if_pos h, bcmp_lt.2 (bl_cons.2 (.inl h))]; rfl
    · by_cases h2 : b < a
      · rw [if_neg h, if_pos h2, bcmp_swap, bcmp_lt.2 (bl_cons.2 (.inl h2))]; rfl
      · rw [if_neg h, if_neg h2, cmpBytes r s]
        have e : a = b := by
          apply UInt8.toNat_inj.1
          rw [UInt8.lt_iff_toNat_lt] at h h2
          omega
        subst e
        have e1 : ∀ x y : Bs, bl (a :: x) (a :: y) = bl x y := fun x y => by
          cases h3 : bl x y with
          | true => exact bl_cons.2 (.inr ⟨rfl, h3⟩)
          | false =>
            cases h4 : bl (a :: x) (a :: y) with
            | false => rfl
            | true =>
              rcases bl_cons.1 h4 with h5 | ⟨_, h5⟩
              · exact absurd h5 h
              · rw [h5] at h3; cases h3
        unfold bcmp
        rw [e1, e1]
theorem tx_data {a : ByteArray} {l : Bs} (h : a = txt l) : a.data.toList = l := by rw [h]; simp [txt]
theorem oN_lt {x : Ordering} : oN x < 0 ↔ x = .lt := by cases x <;> simp [oN]
set_option maxHeartbeats 4000000 in
theorem or_any (x y : Ordering) {g c : Nat} (w : World) (h0 : w.cell? ⟨g, 0, none⟩ = some (.int .i64 (oN x))) (h1 : w.cell? ⟨g, 1, none⟩ = some (.int .i64 (oN y))) :
    Calls Tryz.prog 82 #[.slice (some ⟨g, 0, none⟩) 2 c] w fun e w' => e = .returned (.int .i64 (oN (x.then y))) ∧ w = w' := by
  cases x with
  | lt =>
    have h0 : w.cell? ⟨g, 0, none⟩ = some (.int .i64 (-1)) := h0
    go_enter Tryz.func82, Tryz.ntmps82
    go_wp2_with fail
    go_loopw [5, 8] (fun _ i wx => w = wx ∧ i = .int .i64 0) (fun _ _ _ => 0)
    case atStart => exact ⟨rfl, rfl⟩
    case round =>
      obtain ⟨rfl, rfl⟩ := hrel
      go_wp2_with fail
      go_ret
      exact ⟨rfl, rfl⟩
  | gt =>
    have h0 : w.cell? ⟨g, 0, none⟩ = some (.int .i64 1) := h0
    go_enter Tryz.func82, Tryz.ntmps82
    go_wp2_with fail
    go_loopw [5, 8] (fun _ i wx => w = wx ∧ i = .int .i64 0) (fun _ _ _ => 0)
    case atStart => exact ⟨rfl, rfl⟩
    case round =>
      obtain ⟨rfl, rfl⟩ := hrel
      go_wp2_with fail
      go_ret
      exact ⟨rfl, rfl⟩
  | eq =>
    have h0 : w.cell? ⟨g, 0, none⟩ = some (.int .i64 0) := h0
    obtain ⟨Y, hY⟩ : ∃ Y, Y = oN y := ⟨_, rfl⟩
    rw [show Ordering.eq.then y = y from rfl, ← hY]
    rw [← hY] at h1
    clear hY
    go_enter Tryz.func82, Tryz.ntmps82
    go_wp2_with fail
    go_loopw [5, 8] (fun _ i wx => w = wx ∧ ∃ k : Nat, k ≤ 2 ∧ i = .int .i64 k ∧ Hid (k = 2 → Y = 0)) (fun _ i _ => 2 - (intOf i).toNat)
    case atStart => exact ⟨rfl, 0, by omega, rfl, Lib.hid (fun h => absurd h (by omega))⟩
    case round =>
      obtain ⟨rfl, k, hk, rfl, HK⟩ := hrel
      have h3 : k = 0 ∨ k = 1 ∨ k = 2 := by omega
      rcases h3 with rfl | rfl | rfl
      · go_wp2_with fail
        go_roundw
        case rel => exact ⟨by first | rfl | trivial, 1, by omega, by first | rfl | trivial, Lib.hid (fun h => absurd h (by omega))⟩
        case measure => simp [intOf]
      · by_cases hy : Y = 0
        · subst hy
          go_wp2_with fail
          go_roundw
          case rel => exact ⟨by first | rfl | trivial, 2, by omega, by first | rfl | trivial, Lib.hid (fun _ => by first | rfl | trivial)⟩
          case measure => simp [intOf]
        · have hy2 : (Y != 0) = true := bne_iff_ne.2 hy
          clear hy
          go_wp2_with fail
          go_ret
          exact ⟨rfl, rfl⟩
      · have hy := HK.out rfl
        clear HK
        go_wp2_with fail
        go_ret
        exact ⟨by rw [hy]; rfl, rfl⟩
end Va
end Go.Proofs.YtggeiajbcehkjaaGreatDoor
/- What landed of values: two rows held against one another, part by part. -/
namespace Go.Proofs.YtggeiajbcehkjaaGreatDoor
open Go.RowKit
namespace Va
set_option maxRecDepth 100000

def cmpG {α : Type} (f : α → α → Ordering) : List α → List α → Ordering
  | [], [] => .eq
  | [], _ :: _ => .lt
  | _ :: _, [] => .gt
  | a :: r, b :: s => (f a b).then (cmpG f r s)
theorem cmpG_drop {α : Type} {f : α → α → Ordering} {l l' : List α} {i : Nat} {x y : α} (hx : l[i]? = some x) (hy : l'[i]? = some y) : cmpG f (l.drop i) (l'.drop i) = (f x y).then (cmpG f (l.drop (i + 1)) (l'.drop (i + 1))) := by
  have h1 := (List.getElem?_eq_some_iff.1 hx)
  have h2 := (List.getElem?_eq_some_iff.1 hy)
  rw [List.drop_eq_getElem_cons h1.1, List.drop_eq_getElem_cons h2.1, cmpG, h1.2, h2.2]
theorem cmpG_gt {α : Type} {f : α → α → Ordering} {l l' : List α} {i : Nat} (h : i < l.length) (h' : l'.length ≤ i) : cmpG f (l.drop i) (l'.drop i) = .gt := by
  rw [List.drop_eq_nil_of_le h', List.drop_eq_getElem_cons h, cmpG]
theorem cmpG_end {α : Type} {f : α → α → Ordering} {l l' : List α} {i : Nat} (h : l.length ≤ i) : cmpG f (l.drop i) (l'.drop i) = if i < l'.length then .lt else .eq := by
  rw [List.drop_eq_nil_of_le h]
  by_cases h' : i < l'.length
  · rw [if_pos h', List.drop_eq_getElem_cons h', cmpG]
  · rw [if_neg h', List.drop_eq_nil_of_le (by omega), cmpG]
/-- An entry of a map in memory: its key, and its value. -/
structure En where
  key : Bs
  kd : Nat
  tx : ByteArray
  A : Option Addr
  n : Nat
  c : Nat
  B : Option Addr
  m : Nat
  d : Nat
instance : Inhabited En := ⟨⟨[], 0, ⟨#[]⟩, none, 0, 0, none, 0, 0⟩⟩
def En.val (e : En) : Value := .agg #[.int .u8 e.kd, .string e.tx, .slice e.A e.n e.c, .slice e.B e.m e.d]
def En.enc (e : En) : List Value := [.string (txt e.key), .int .u8 e.kd, .string e.tx, .slice e.A e.n e.c, .slice e.B e.m e.d]
/-- A row of entries in memory. -/
def Er (w : World) (ok : Nat → Prop) (A : Option Addr) (E : List (Bs × V)) : Prop := 0 < E.length → ∃ g o, A = some ⟨g, o, none⟩ ∧ (∃ cur, w.heap[g]? = some (.cells cur 127 (0, 0))) ∧ ∀ i s x, E[i]? = some (s, x) → ∃ e : En, e.key = s ∧ Vk w ok e.val x ∧ ∀ j u, e.enc[j]? = some u → w.cell? ⟨g, o + i * 5 + j, none⟩ = some u
theorem lt_of_row {w : World} {g : Nat} {t : TypeId} (h : ∃ cur, w.heap[g]? = some (.cells cur t (0, 0))) : g < w.heap.size := by obtain ⟨cur, h⟩ := h; exact (Array.getElem?_eq_some_iff.1 h).1
theorem Er.on {w w' : World} {ok : Nat → Prop} {A : Option Addr} {E : List (Bs × V)} (h : Er w ok A E) (hb : Below w.heap.size w w') : Er w' ok A E := fun h0 => by
  obtain ⟨g, o, e, hg, hf⟩ := h h0
  have hlt := lt_of_row hg
  exact ⟨g, o, e, by obtain ⟨cur, hg⟩ := hg; exact ⟨cur, (hb.block g hlt).trans hg⟩, fun i s x hx => by
    obtain ⟨e, h1, h2, h3⟩ := hf i s x hx
    exact ⟨e, h1, h2.on hb, fun j u hj => cell_old hb hlt (h3 j u hj)⟩⟩
/-- A row of values, and where they lie. -/
def Vro (w : World) (ok : Nat → Prop) (A : Option Addr) (l : List V) : Prop := 0 < l.length → ∃ g o, A = some ⟨g, o, none⟩ ∧ g < w.heap.size ∧ ok g ∧ ∀ i x, l[i]? = some x → ∃ v0 v1 v2 v3, w.cell? ⟨g, o + i * 4, none⟩ = some v0 ∧ w.cell? ⟨g, o + i * 4 + 1, none⟩ = some v1 ∧ w.cell? ⟨g, o + i * 4 + 2, none⟩ = some v2 ∧ w.cell? ⟨g, o + i * 4 + 3, none⟩ = some v3 ∧ Vk w ok (.agg #[v0, v1, v2, v3]) x
theorem Vk.invo {w : World} {ok : Nat → Prop} {v : Value} {k : Nat} {t : Bs} {l : List V} {ks : List Bs} (h : Vk w ok v (.mk k t l ks)) : ∃ A B c d, v = .agg #[.int .u8 k, .string (txt t), .slice A l.length c, .slice B ks.length d] ∧ k < 256 ∧ Vro w ok A l ∧ Tx w B ks := by
  cases h with
  | mk _ _ _ _ A B c d f hk hl hc hA hd hd2 hB hK hL ha _ hV =>
    refine ⟨A, B, c, d, rfl, hk, fun h0 => ?_, hK⟩
    obtain ⟨g, o, e, hg, hf⟩ := hL h0
    exact ⟨g, o, e, hg, ha h0 g o e, fun i x hx => ⟨_, _, _, _, hf i (List.getElem?_eq_some_iff.1 hx).1 0 (by decide), hf i (List.getElem?_eq_some_iff.1 hx).1 1 (by decide), hf i (List.getElem?_eq_some_iff.1 hx).1 2 (by decide), hf i (List.getElem?_eq_some_iff.1 hx).1 3 (by decide), hV i x hx⟩⟩
/-- An entry in a block of its own. -/
abbrev eO (a b c d e : Value) : Obj := .cells #[a, b, c, d, e] 127
theorem strc_any {a b : Bs} {S T : ByteArray} (hS : S = txt a) (hT : T = txt b) (w : World) : Calls Tryz.prog 84 #[.string S, .string T] w fun e w' => e = .returned (.int .i64 (oN (bcmp a b))) ∧ w = w' := by
  have := Tryz.strings_Compare S T w
  rw [tx_data hS, tx_data hT, cmpBytes] at this
  exact this.mono fun e w' ⟨h1, h2⟩ => ⟨h1, h2.symm⟩
set_option maxHeartbeats 4000000 in
theorem cmpF_any {l l' : List V} {A A' : Option Addr} {c c' : Nat} (f : V → V → Ordering) (w : World) (hV : Vr w A l) (hV' : Vr w A' l') (hn : l.length ≤ 1000000) (hn' : l'.length ≤ 1000000)
    (H : ∀ (i : Nat) (x y : V) (v u : Value) (w' : World), l[i]? = some x → l'[i]? = some y → Vm w' v x → Vm w' u y → Below w.heap.size w w' → Calls Tryz.prog 53 #[v, u] w' fun e w'' => e = .returned (.int .i64 (oN (f x y))) ∧ Below w'.heap.size w' w'') :
    Calls Tryz.prog 88 #[.slice A l.length c, .slice A' l'.length c', .func (.func 53) #[] #[]] w fun e w' => e = .returned (.int .i64 (oN (cmpG f l l'))) ∧ Below w.heap.size w w' := by
  obtain ⟨R, hR⟩ : ∃ R, R = oN (cmpG f l l') := ⟨_, rfl⟩
  rw [← hR]
  obtain ⟨n, HN⟩ : ∃ n, Hid (n = l.length) := ⟨_, Lib.hid rfl⟩
  obtain ⟨n', HN'⟩ : ∃ n, Hid (n = l'.length) := ⟨_, Lib.hid rfl⟩
  rw [← HN.out] at hn ⊢
  rw [← HN'.out] at hn' ⊢
  have HV := Lib.hid hV
  have HV' := Lib.hid hV'
  have HH := Lib.hid H
  have HR := Lib.hid hR
  clear hV hV' H hR
  go_enter Tryz.func88, Tryz.ntmps88
  go_wp2_with fail
  go_loopw [7, 8, 9, 10, 13] (fun _ _ _ _ i wx => Hid (Below w.heap.size w wx) ∧ ∃ k : Nat, k ≤ n ∧ i = .int .i64 k ∧ Hid (oN (cmpG f (l.drop k) (l'.drop k)) = R)) (fun _ _ _ _ i _ => n - (intOf i).toNat)
  case atStart => exact ⟨Lib.hid (Below.refl _ _), 0, Nat.zero_le _, rfl, Lib.hid (by rw [HR.out, List.drop_zero, List.drop_zero])⟩
  case round =>
    obtain ⟨HB, k, hk, rfl, HQ⟩ := hrel
    by_cases hlt : k < n
    · obtain ⟨x, hx⟩ := get_lt (l := l) (i := k) (by rw [← HN.out]; exact hlt)
      obtain ⟨g, o, rfl, hg, hf⟩ := HV.out (by rw [← HN.out]; omega)
      obtain ⟨v0, v1, v2, v3, d0, d1, d2, d3, hvm⟩ := hf k x hx
      have c0 := cell_old HB.out hg d0
      have c1 := cell_old HB.out hg d1
      have c2 := cell_old HB.out hg d2
      have c3 := cell_old HB.out hg d3
      obtain ⟨uk, ut, uA, uB, un, uc, um, ud, rfl, rfl, rfl, rfl⟩ := vshp hvm
      by_cases hlt' : k < n'
      · obtain ⟨y, hy⟩ := get_lt (l := l') (i := k) (by rw [← HN'.out]; exact hlt')
        obtain ⟨g', o', rfl, hg', hf'⟩ := HV'.out (by rw [← HN'.out]; omega)
        obtain ⟨v0', v1', v2', v3', d0', d1', d2', d3', hvm'⟩ := hf' k y hy
        obtain ⟨uk', ut', uA', uB', un', uc', um', ud', rfl, rfl, rfl, rfl⟩ := vshp hvm'
        have HB1 := Lib.hid (below_tr HB.out (below_new wr (vO (.int .u8 uk) (.string ut) (.slice uA un uc) (.slice uB um ud))))
        have c0' := cell_old HB1.out hg' d0'
        have c1' := cell_old HB1.out hg' d1'
        have c2' := cell_old HB1.out hg' d2'
        have c3' := cell_old HB1.out hg' d3'
        have HE := Lib.hid (cmpG_drop (f := f) hx hy)
        have CH := Lib.hid (fun (w' : World) (hb : Below w.heap.size w w') => HH.out k x y _ _ w' hx hy (hvm.on hb) (hvm'.on hb) hb)
        obtain ⟨z, HZ⟩ : ∃ z, Hid (z = f x y) := ⟨_, Lib.hid rfl⟩
        rw [← HZ.out] at HE CH
        clear d0 d1 d2 d3 hvm hf hx d0' d1' d2' d3' hvm' hf' hy HZ
        go_wp2_with fail
        refine (CH.out _ (below_tr HB1.out (below_new ..))).mono ?_
        rintro e w2 ⟨rfl, hb2⟩
        have HB2 := Lib.hid (below_tr (below_tr HB1.out (below_new ..)) hb2)
        clear hb2 c0 c1 c2 c3 c0' c1' c2' c3'
        cases z with
        | lt =>
          have HF := Lib.hid (show R = -1 from by rw [← HQ.out, HE.out]; rfl)
          clear HQ HE
          show _
          simp only [oN]
          go_wp2_with fail
          go_ret
          exact ⟨ret_int HF.out.symm, HB2.out⟩
        | gt =>
          have HF := Lib.hid (show R = 1 from by rw [← HQ.out, HE.out]; rfl)
          clear HQ HE
          simp only [oN]
          go_wp2_with fail
          go_ret
          exact ⟨ret_int HF.out.symm, HB2.out⟩
        | eq =>
          have HF := Lib.hid (show oN (cmpG f (l.drop (k + 1)) (l'.drop (k + 1))) = R from by rw [← HQ.out, HE.out]; rfl)
          clear HQ HE
          simp only [oN]
          go_wp2_with fail
          go_roundw
          case rel => exact ⟨HB2, k + 1, by omega, by go_num, HF⟩
          case measure => simp [intOf]; omega
      · have HF := Lib.hid (show R = 1 from by rw [← HQ.out, cmpG_gt (by rw [← HN.out]; exact hlt) (by rw [← HN'.out]; omega)]; rfl)
        have HB1 := Lib.hid (below_tr HB.out (below_new wr (vO (.int .u8 uk) (.string ut) (.slice uA un uc) (.slice uB um ud))))
        clear d0 d1 d2 d3 hvm hf hx HQ
        go_wp2_with fail
        go_ret
        exact ⟨ret_int HF.out.symm, HB1.out⟩
    · have e := cmpG_end (f := f) (l' := l') (show l.length ≤ k by rw [← HN.out]; omega)
      rw [← HN'.out] at e
      obtain rfl : k = n := by omega
      by_cases h9 : k < n'
      · have HF := Lib.hid (show R = -1 from by rw [← HQ.out, e, if_pos h9]; rfl)
        have h8 : (k : Int) < (n' : Int) := by omega
        clear HQ e
        go_wp2_with fail
        go_ret
        exact ⟨ret_int HF.out.symm, HB.out⟩
      · have HF := Lib.hid (show R = 0 from by rw [← HQ.out, e, if_neg h9]; rfl)
        have h8 : ¬ (k : Int) < (n' : Int) := by omega
        clear HQ e
        go_wp2_with fail
        go_ret
        exact ⟨ret_int HF.out.symm, HB.out⟩
end Va
end Go.Proofs.YtggeiajbcehkjaaGreatDoor
/- What landed of values: entries held against one another; rows of entries. -/
namespace Go.Proofs.YtggeiajbcehkjaaGreatDoor
open Go.RowKit
namespace Va
set_option maxRecDepth 100000

theorem En.five {w : World} {g o : Nat} {e : En} (h : ∀ j u, e.enc[j]? = some u → w.cell? ⟨g, o + j, none⟩ = some u) : w.cell? ⟨g, o, none⟩ = some (.string (txt e.key)) ∧ w.cell? ⟨g, o + 1, none⟩ = some (.int .u8 e.kd) ∧ w.cell? ⟨g, o + 2, none⟩ = some (.string e.tx) ∧ w.cell? ⟨g, o + 3, none⟩ = some (.slice e.A e.n e.c) ∧ w.cell? ⟨g, o + 4, none⟩ = some (.slice e.B e.m e.d) :=
  ⟨h 0 _ rfl, h 1 _ rfl, h 2 _ rfl, h 3 _ rfl, h 4 _ rfl⟩
theorem five_new (w : World) (a b c d e : Value) : (w.alloc (eO a b c d e)).cell? ⟨w.heap.size, 0, none⟩ = some a ∧ (w.alloc (eO a b c d e)).cell? ⟨w.heap.size, 1, none⟩ = some b ∧ (w.alloc (eO a b c d e)).cell? ⟨w.heap.size, 2, none⟩ = some c ∧ (w.alloc (eO a b c d e)).cell? ⟨w.heap.size, 3, none⟩ = some d ∧ (w.alloc (eO a b c d e)).cell? ⟨w.heap.size, 4, none⟩ = some e := by
  have h := heap_alloc_new w (eO a b c d e)
  refine ⟨?_, ?_, ?_, ?_, ?_⟩ <;> · simp only [World.cell?, h]; rfl
set_option maxHeartbeats 4000000 in
/-- How two entries stand by their keys: two blocks are laid. -/
theorem byKey_any (e f : En) (w : World) : Calls Tryz.prog 113 #[.agg e.enc.toArray, .agg f.enc.toArray] w fun r w' => r = .returned (.int .i64 (oN (bcmp e.key f.key))) ∧ ∃ q os', w' = Sort.grow (w.drewN q) os' := by
  obtain ⟨k1, n1, t1, A1, a1, b1, B1, c1, d1⟩ := e
  obtain ⟨k2, n2, t2, A2, a2, b2, B2, c2, d2⟩ := f
  obtain ⟨S, hS⟩ : ∃ S, S = txt k1 := ⟨_, rfl⟩
  obtain ⟨T, hT⟩ : ∃ T, T = txt k2 := ⟨_, rfl⟩
  have CS := Lib.hid (strc_any hS hT)
  show Calls Tryz.prog 113 #[.agg #[.string (txt k1), .int .u8 n1, .string t1, .slice A1 a1 b1, .slice B1 c1 d1], .agg #[.string (txt k2), .int .u8 n2, .string t2, .slice A2 a2 b2, .slice B2 c2 d2]] w _
  rw [← hS, ← hT]
  obtain ⟨R, hR⟩ : ∃ R, R = oN (bcmp k1 k2) := ⟨_, rfl⟩
  show Calls _ _ _ _ fun r w' => r = .returned (.int .i64 (oN (bcmp k1 k2))) ∧ _
  rw [← hR] at CS ⊢
  clear hS hT hR
  go_enter Tryz.func113, Tryz.ntmps113
  go_wp2_with fail
  refine (CS.out _).mono ?_
  rintro e w2 ⟨rfl, rfl⟩
  go_wp2_with fail
  go_ret
  exact ⟨rfl, 0, _, by rw [Sort.alloc_eq_grow, Sort.alloc_eq_grow, Sort.grow_grow]; rfl⟩
theorem below_grow (w : World) (q : Nat) (os : Array Obj) : Below w.heap.size w (Sort.grow (w.drewN q) os) :=
  ⟨rfl, rfl, rfl, by simp [Sort.grow], fun g hg => by simp [Sort.grow, Array.getElem?_append, hg]⟩
theorem byKeyB (e f : En) (w : World) : Calls Tryz.prog 113 #[.agg e.enc.toArray, .agg f.enc.toArray] w fun r w' => r = .returned (.int .i64 (oN (bcmp e.key f.key))) ∧ Below w.heap.size w w' :=
  (byKey_any e f w).mono fun _r _w ⟨h, q, os, hw⟩ => ⟨h, hw ▸ below_grow w q os⟩
set_option maxHeartbeats 4000000 in
/-- How two entries stand: by their keys, then by their values. -/
theorem entO_any {e f : En} {x y : V} {z : Ordering} (w : World) (_hx : Vm w e.val x) (_hy : Vm w f.val y)
    (H : ∀ w' : World, Below w.heap.size w w' → Calls Tryz.prog 53 #[e.val, f.val] w' fun r w'' => r = .returned (.int .i64 (oN z)) ∧ Below w'.heap.size w' w'') :
    Calls Tryz.prog 87 #[.agg e.enc.toArray, .agg f.enc.toArray] w fun r w' => r = .returned (.int .i64 (oN ((bcmp e.key f.key).then z))) ∧ Below w.heap.size w w' := by
  have CB := Lib.hid (byKeyB e f)
  have HH := Lib.hid H
  clear H _hx _hy
  obtain ⟨k1, n1, t1, A1, a1, b1, B1, c1, d1⟩ := e
  obtain ⟨k2, n2, t2, A2, a2, b2, B2, c2, d2⟩ := f
  obtain ⟨S, hS⟩ : ∃ S, S = txt k1 := ⟨_, rfl⟩
  obtain ⟨T, hT⟩ : ∃ T, T = txt k2 := ⟨_, rfl⟩
  have CB : Hid (∀ w : World, Calls Tryz.prog 113 #[.agg #[.string S, .int .u8 n1, .string t1, .slice A1 a1 b1, .slice B1 c1 d1], .agg #[.string T, .int .u8 n2, .string t2, .slice A2 a2 b2, .slice B2 c2 d2]] w fun r w' => r = .returned (.int .i64 (oN (bcmp k1 k2))) ∧ Below w.heap.size w w') := by rw [hS, hT]; exact CB
  have HH : Hid (∀ w' : World, Below w.heap.size w w' → Calls Tryz.prog 53 #[.agg #[.int .u8 n1, .string t1, .slice A1 a1 b1, .slice B1 c1 d1], .agg #[.int .u8 n2, .string t2, .slice A2 a2 b2, .slice B2 c2 d2]] w' fun r w'' => r = .returned (.int .i64 (oN z)) ∧ Below w'.heap.size w' w'') := HH
  show Calls Tryz.prog 87 #[.agg #[.string (txt k1), .int .u8 n1, .string t1, .slice A1 a1 b1, .slice B1 c1 d1], .agg #[.string (txt k2), .int .u8 n2, .string t2, .slice A2 a2 b2, .slice B2 c2 d2]] w fun r w' => r = .returned (.int .i64 (oN ((bcmp k1 k2).then z))) ∧ Below w.heap.size w w'
  rw [← hS, ← hT]
  obtain ⟨b, hb⟩ : ∃ b, b = bcmp k1 k2 := ⟨_, rfl⟩
  rw [← hb] at CB ⊢
  clear hS hT hb
  obtain ⟨W1, hW1⟩ : ∃ W, W = w.alloc (eO (.string S) (.int .u8 n1) (.string t1) (.slice A1 a1 b1) (.slice B1 c1 d1)) := ⟨_, rfl⟩
  obtain ⟨W2, hW2⟩ : ∃ W, W = W1.alloc (eO (.string T) (.int .u8 n2) (.string t2) (.slice A2 a2 b2) (.slice B2 c2 d2)) := ⟨_, rfl⟩
  have hb1 : Below w.heap.size w W1 := by rw [hW1]; exact below_new ..
  have hb2 : Below W1.heap.size W1 W2 := by rw [hW2]; exact below_new ..
  have hl1 : w.heap.size < W1.heap.size := by rw [hW1]; show _ < (w.heap.push _).size; rw [Array.size_push]; omega
  have hl2 : W1.heap.size < W2.heap.size := by rw [hW2]; show _ < (W1.heap.push _).size; rw [Array.size_push]; omega
  have F1 := five_new w (.string S) (.int .u8 n1) (.string t1) (.slice A1 a1 b1) (.slice B1 c1 d1)
  rw [← hW1] at F1
  have F2 := five_new W1 (.string T) (.int .u8 n2) (.string t2) (.slice A2 a2 b2) (.slice B2 c2 d2)
  rw [← hW2] at F2
  have hsz : w.heap.size + 1 = W1.heap.size := by rw [hW1]; show _ = (w.heap.push _).size; rw [Array.size_push]
  obtain ⟨p0, p1, p2, p3, p4⟩ := F1
  obtain ⟨q0, q1, q2, q3, q4⟩ := F2
  have r0 := cell_old hb2 hl1 p0
  have r1 := cell_old hb2 hl1 p1
  have r2 := cell_old hb2 hl1 p2
  have r3 := cell_old hb2 hl1 p3
  have r4 := cell_old hb2 hl1 p4
  have HB2 := Lib.hid (below_tr hb1 hb2)
  have HL1 := Lib.hid (show w.heap.size < W2.heap.size by omega)
  have HL2 := Lib.hid hl2
  have HW1 := Lib.hid hW1
  have HW2 := Lib.hid hW2
  clear hb1 hb2 p0 p1 p2 p3 p4 hW1 hW2 hl1 hl2
  go_enter Tryz.func87, Tryz.ntmps87
  go_upto_region 1 with fail
  rw [← HW1.out, ← HW2.out]
  obtain ⟨h2, hh2⟩ : ∃ h2, h2 = W1.heap.size := ⟨_, rfl⟩
  rw [← hh2] at q0 q1 q2 q3 q4 HL2
  try rw [← hh2]
  obtain ⟨h, hh⟩ : ∃ h, h = w.heap.size := ⟨_, rfl⟩
  rw [← hh] at r0 r1 r2 r3 r4 HL1
  try rw [← hh]
  clear HW1 HW2 hh hsz hh2
  go_wp2_with fail
  refine (CB.out _).mono ?_
  rintro e w3 ⟨rfl, hb⟩
  have HB3 := Lib.hid (below_tr HB2.out hb)
  have s1 := cell_old hb HL1.out r1
  have s2 := cell_old hb HL1.out r2
  have s3 := cell_old hb HL1.out r3
  have s4 := cell_old hb HL1.out r4
  have u1 := cell_old hb HL2.out q1
  have u2 := cell_old hb HL2.out q2
  have u3 := cell_old hb HL2.out q3
  have u4 := cell_old hb HL2.out q4
  clear hb r0 r1 r2 r3 r4 q0 q1 q2 q3 q4
  cases b with
  | lt =>
    simp only [oN]
    go_wp2_with fail
    go_ret
    exact ⟨by first | rfl | trivial, HB3.out⟩
  | gt =>
    simp only [oN]
    go_wp2_with fail
    go_ret
    exact ⟨by first | rfl | trivial, HB3.out⟩
  | eq =>
    simp only [oN]
    go_wp2_with fail
    refine (HH.out _ HB3.out).mono ?_
    rintro e w4 ⟨rfl, hb⟩
    have HB4 := Lib.hid (below_tr HB3.out hb)
    clear hb
    go_wp2_with fail
    go_ret
    exact ⟨by cases z <;> rfl, HB4.out⟩
end Va
end Go.Proofs.YtggeiajbcehkjaaGreatDoor
