/- What landed of values: texts, their parts behind one another. -/
import Derived.Test.YtnnlgodgaolkkaaGreatDoorLpm
import Derived.Test.YtnnlgodgaolkkaaGreatDoorLhm
import Derived.Test.YtnnlgodgaolkkaaGreatDoorHl
import Derived.Test.YtnnlgodgaolkkaaGreatDoorUam
namespace Go.Proofs.YtnnlgodgaolkkaaGreatDoor
open Go.RowKit
namespace Va
set_option maxRecDepth 100000

/-- Texts, a comma behind each. -/
def cmt : List Bs → Bs
  | [] => []
  | t :: r => t ++ 44 :: cmt r
theorem cmt_cms : ∀ L : List Bs, 44 :: cmt L = cms L ++ [44]
  | [] => rfl
  | t :: r => by
    have := cmt_cms r
    rw [cmt, cms, this]; simp
theorem cmt_shut {L : List Bs} (a b : UInt8) (h : L ≠ []) : (a :: cmt L).dropLast ++ [b] = a :: ((cms L).drop 1 ++ [b]) := by
  have e := cmt_cms L
  have h1 : cmt L = (cms L).drop 1 ++ [44] := by
    have e2 := congrArg (List.drop 1) e
    rw [List.drop_one, List.tail_cons] at e2
    rw [e2, List.drop_append_of_le_length]
    cases L with
    | nil => exact absurd rfl h
    | cons t r => rw [cms]; simp
  rw [h1, ← List.cons_append, List.dropLast_concat, List.cons_append]
theorem cmt_end {L : List Bs} (h : L ≠ []) : cmt L = (cms L).drop 1 ++ [44] := by
  have e2 := congrArg (List.drop 1) (cmt_cms L)
  rw [List.drop_one, List.tail_cons] at e2
  rw [e2, List.drop_append_of_le_length]
  cases L with
  | nil => exact absurd rfl h
  | cons t r => rw [cms]; simp
theorem cmt_len : ∀ L : List Bs, (cmt L).length = L.length + kw L
  | [] => rfl
  | t :: r => by rw [cmt, List.length_append, List.length_cons, cmt_len r, List.length_cons, kw]; omega
theorem cmt_drop {L : List Bs} {i : Nat} {t : Bs} (h : L[i]? = some t) : cmt (L.drop i) = t ++ 44 :: cmt (L.drop (i + 1)) := by
  have hl := (List.getElem?_eq_some_iff.1 h).1
  have e : L[i] = t := (List.getElem?_eq_some_iff.1 h).2
  rw [List.drop_eq_getElem_cons hl, cmt, e]
mutual
/-- A value's text, over what is told of what is no list, and no map. -/
def teW (f : Nat → Bs → Bs) : V → Bs
  | .mk k t l ks => if k = 7 then 91 :: ((cms (teWL f l)).drop 1 ++ [93]) else if k = 8 then 123 :: ((cms ((ord ks ks.length).map fun j => ent (ks.getD j []) ((teWL f l).getD j []))).drop 1 ++ [125]) else f k t
def teWL (f : Nat → Bs → Bs) : List V → List Bs
  | [] => []
  | x :: r => teW f x :: teWL f r
end
theorem teWL_map (f : Nat → Bs → Bs) : ∀ l : List V, teWL f l = l.map (teW f)
  | [] => by rw [teWL]; rfl
  | x :: r => by rw [teWL, teWL_map f r]; rfl
/-- An entry's text. -/
def enW (f : Nat → Bs → Bs) (p : Bs × V) : Bs := ent p.1 (teW f p.2)
theorem enW_list (f : Nat → Bs → Bs) {l : List V} {ks : List Bs} (h : ks.length = l.length) : ((ord ks ks.length).map fun j => ent (ks.getD j []) ((teWL f l).getD j [])) = (entL l ks).map (enW f) := by
  rw [entL, List.map_map]
  apply List.map_congr_left
  intro j hj
  have hj := ord_mem.1 hj
  obtain ⟨x, hx⟩ := get_lt (l := l) (i := j) (by rw [← h]; exact hj)
  show _ = ent (ks.getD j []) (teW f (l.getD j v0))
  rw [teWL_map, List.getD_eq_getElem?_getD (l := l.map _), List.getElem?_map, List.getD_eq_getElem?_getD (l := l), hx]; rfl
/-- The tables that texts stand on lie ahead of the call's own. -/
def TB (base : Nat) (w : World) : Prop := Shorts w ∧ 1 < base ∧ base ≤ w.heap.size
theorem TB.on {base : Nat} {w w' : World} (h : TB base w) (hb : Below base w w') : TB base w' := by
  obtain ⟨⟨h0, h1, h2, h3, h4, h5, h6, h7, h8, h9, h10, h11, h12, h13, h14, h15⟩, hz, hs⟩ := h
  have e : ∀ (i : Nat) (v : Value), w.cell? ⟨1, i, none⟩ = some v → w'.cell? ⟨1, i, none⟩ = some v := fun i v hv => (hb.cell (p := ⟨1, i, none⟩) hz).trans hv
  exact ⟨⟨e _ _ h0, e _ _ h1, e _ _ h2, e _ _ h3, e _ _ h4, e _ _ h5, e _ _ h6, e _ _ h7, e _ _ h8, e _ _ h9, e _ _ h10, e _ _ h11, e _ _ h12, e _ _ h13, e _ _ h14, e _ _ h15⟩, hz, Nat.le_trans hs hb.size⟩
/-- A value that lies ahead of the call's own. -/
abbrev Vb (base : Nat) (w : World) (v : Value) (x : V) : Prop := Vk w (fun g => g < base) v x
theorem Vb.on {base : Nat} {w w' : World} {v : Value} {x : V} (h : Vb base w v x) (hb : Below base w w') : Vb base w' v x := h.keep (fun g hg _ => hb.block g hg) hb.size
/-- A row of values, and one of entries, that lie so. -/
def Vrb (base : Nat) (w : World) (A : Option Addr) (l : List V) : Prop := 0 < l.length → ∃ g o, A = some ⟨g, o, none⟩ ∧ g < base ∧ ∀ i x, l[i]? = some x → ∃ v0 v1 v2 v3, w.cell? ⟨g, o + i * 4, none⟩ = some v0 ∧ w.cell? ⟨g, o + i * 4 + 1, none⟩ = some v1 ∧ w.cell? ⟨g, o + i * 4 + 2, none⟩ = some v2 ∧ w.cell? ⟨g, o + i * 4 + 3, none⟩ = some v3 ∧ Vb base w (.agg #[v0, v1, v2, v3]) x
theorem Vb.inv {base : Nat} {w : World} {v : Value} {k : Nat} {t : Bs} {l : List V} {ks : List Bs} (h : Vb base w v (.mk k t l ks)) : ∃ A B c d, v = .agg #[.int .u8 k, .string (txt t), .slice A l.length c, .slice B ks.length d] ∧ k < 256 ∧ Vrb base w A l := by
  cases h with
  | mk _ _ _ _ A B c d f hk hl hc hA hd hd2 hB hK hL ha _ hV =>
    refine ⟨A, B, c, d, rfl, hk, fun h0 => ?_⟩
    obtain ⟨g, o, e, hg, hf⟩ := hL h0
    exact ⟨g, o, e, ha h0 g o e, fun i x hx => ⟨_, _, _, _, hf i (List.getElem?_eq_some_iff.1 hx).1 0 (by decide), hf i (List.getElem?_eq_some_iff.1 hx).1 1 (by decide), hf i (List.getElem?_eq_some_iff.1 hx).1 2 (by decide), hf i (List.getElem?_eq_some_iff.1 hx).1 3 (by decide), hV i x hx⟩⟩
theorem Vro.vrb {base : Nat} {w w' : World} {A : Option Addr} {l : List V} (h : Vro w (fun g => g < base) A l) (hb : Below base w w') : Vrb base w' A l := fun h0 => by
  obtain ⟨g, o, e, _, hg, hf⟩ := h h0
  exact ⟨g, o, e, hg, fun i x hx => by
    obtain ⟨v0, v1, v2, v3, h0, h1, h2, h3, hv⟩ := hf i x hx
    have e9 : ∀ {k : Nat} {v : Value}, w.cell? ⟨g, k, none⟩ = some v → w'.cell? ⟨g, k, none⟩ = some v := fun h => (hb.cell (p := ⟨g, _, none⟩) hg).trans h
    exact ⟨v0, v1, v2, v3, e9 h0, e9 h1, e9 h2, e9 h3, hv.keep (fun g hg _ => hb.block g hg) hb.size⟩⟩
theorem Vrb.on {base : Nat} {w w' : World} {A : Option Addr} {l : List V} (h : Vrb base w A l) (hb : Below base w w') : Vrb base w' A l := fun h0 => by
  obtain ⟨g, o, e, hg, hf⟩ := h h0
  exact ⟨g, o, e, hg, fun i x hx => by
    obtain ⟨v0, v1, v2, v3, h0, h1, h2, h3, hv⟩ := hf i x hx
    have e9 : ∀ {k : Nat} {v : Value}, w.cell? ⟨g, k, none⟩ = some v → w'.cell? ⟨g, k, none⟩ = some v := fun h => (hb.cell (p := ⟨g, _, none⟩) hg).trans h
    exact ⟨v0, v1, v2, v3, e9 h0, e9 h1, e9 h2, e9 h3, hv.keep (fun g hg _ => hb.block g hg) hb.size⟩⟩
theorem cell_b {base : Nat} {w w' : World} {g k : Nat} {v : Value} (hb : Below base w w') (h : g < base) (hc : w.cell? ⟨g, k, none⟩ = some v) : w'.cell? ⟨g, k, none⟩ = some v := (hb.cell (p := ⟨g, k, none⟩) h).trans hc
theorem below_b {base : Nat} {w w' : World} (h : Below w.heap.size w w') (hs : base ≤ w.heap.size) : Below base w w' := h.mono hs
set_option maxHeartbeats 4000000 in
theorem overP_any {l : List V} {A : Option Addr} {c base : Nat} {W b0 : Value} {t0 R : Bs} (f : Nat → Bs → Bs) (w : World) (hV : Vrb base w A l) (hn : l.length ≤ 1000000) (hb0 : BW base w b0 t0) (hR : t0 ++ cmt (l.map (teW f)) = R) (hlen : R.length ≤ 900000000)
    (H : ∀ (i : Nat) (x : V), l[i]? = some x → ∀ (w' : World) (v b : Value) (t : Bs), Below base w w' → Vb base w' v x → BW base w' b t → t.length + (teW f x).length + 1 ≤ 900000000 → Calls Tryz.prog 78 #[W, b, v] w' fun e w'' => ∃ b', e = .returned b' ∧ BW base w'' b' (t ++ teW f x ++ [44]) ∧ BG w' w'' b b') :
    Calls Tryz.prog 77 #[.slice A l.length c, b0, .func (.func 78) #[W] #[]] w fun e w' => ∃ b', e = .returned b' ∧ BW base w' b' R ∧ BG w w' b0 b' := by
  obtain ⟨n, HN⟩ : ∃ n, Hid (n = l.length) := ⟨_, Lib.hid rfl⟩
  rw [← HN.out] at hn ⊢
  have HV := Lib.hid hV
  have HH := Lib.hid H
  have HR := Lib.hid hR
  have HB0 := Lib.hid hb0
  have HLEN := Lib.hid hlen
  clear hV H hR hb0 hlen
  go_enter Tryz.func77, Tryz.ntmps77
  go_wp2_with fail
  go_loopw [1, 8, 11] (fun a _ i wx => ∃ (k : Nat) (t : Bs), k ≤ n ∧ i = .int .i64 k ∧ Hid (BW base wx a t ∧ BG w wx b0 a ∧ t ++ cmt ((l.drop k).map (teW f)) = R)) (fun _ _ i _ => n - (intOf i).toNat)
  case atStart => exact ⟨0, t0, Nat.zero_le _, rfl, Lib.hid ⟨HB0.out, BG.refl _ _, by rw [List.drop_zero]; exact HR.out⟩⟩
  case round =>
    obtain ⟨k, t, hk, rfl, HQ⟩ := hrel
    have HB := Lib.hid (HB0.out.below HQ.out.2.1)
    by_cases hlt : k < n
    · obtain ⟨x, hx⟩ := get_lt (l := l) (i := k) (by rw [← HN.out]; exact hlt)
      obtain ⟨g', o, rfl, hg, hf⟩ := HV.out (by rw [← HN.out]; omega)
      obtain ⟨v0, v1, v2, v3, d0, d1, d2, d3, hvm⟩ := hf k x hx
      have c0 := cell_b HB.out hg d0
      have c1 := cell_b HB.out hg d1
      have c2 := cell_b HB.out hg d2
      have c3 := cell_b HB.out hg d3
      obtain ⟨uk, ut, uA, uB, un, uc, um, ud, rfl, rfl, rfl, rfl⟩ := vshp hvm.vm
      have e1 : t ++ (teW f x ++ 44 :: cmt ((l.drop (k + 1)).map (teW f))) = R := by
        rw [← HQ.out.2.2]
        have := cmt_drop (L := l.map (teW f)) (i := k) (t := teW f x) (by rw [List.getElem?_map, hx]; rfl)
        rw [← List.map_drop, ← List.map_drop] at this
        rw [this]
      have HW1 := Lib.hid (below_new wr (vO (.int .u8 uk) (.string ut) (.slice uA un uc) (.slice uB um ud)))
      have HB1 := Lib.hid (HB.out.trans (below_b HW1.out HQ.out.1.2))
      have CH := Lib.hid (HH.out k x hx _ _ u1 t HB1.out (hvm.on HB1.out) (HQ.out.1.on HW1.out) (by
        have h1 := congrArg List.length e1
        have := HLEN.out
        rw [List.length_append, List.length_append, List.length_cons] at h1
        omega))
      have HE := Lib.hid (show (t ++ teW f x ++ [44]) ++ cmt ((l.drop (k + 1)).map (teW f)) = R from by rw [← e1]; simp)
      have HG := Lib.hid (HQ.out.2.1.trans (BG.call u1 HW1.out))
      clear d0 d1 d2 d3 hvm hf hx e1
      go_wp2_with fail
      refine CH.out.mono ?_
      rintro e w2 ⟨b', rfl, h1, h2⟩
      have HQ2 := Lib.hid (And.intro h1 (And.intro (HG.out.trans h2) HE.out))
      clear h1 h2 c0 c1 c2 c3 CH HQ
      go_wp2_with fail
      go_roundw
      case rel => exact ⟨k + 1, _, by omega, by go_num, HQ2⟩
      case measure => simp [intOf]; omega
    · have HE := Lib.hid (show t = R from by have := HQ.out.2.2; rw [List.drop_eq_nil_of_le (by rw [← HN.out]; omega)] at this; simpa [cmt] using this)
      go_wp2_with fail
      go_ret
      exact ⟨_, rfl, by rw [← HE.out]; exact HQ.out.1, HQ.out.2.1⟩
end Va
end Go.Proofs.YtnnlgodgaolkkaaGreatDoor
