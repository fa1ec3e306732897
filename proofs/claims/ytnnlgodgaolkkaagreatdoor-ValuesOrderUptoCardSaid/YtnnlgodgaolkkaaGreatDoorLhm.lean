/- What landed of values: two rows held against one another, part by part. -/
import Derived.Test.YtnnlgodgaolkkaaGreatDoorHi
import Derived.Test.YtnnlgodgaolkkaaGreatDoorLgm
import Derived.Test.YtnnlgodgaolkkaaGreatDoorShelfm
namespace Go.Proofs.YtnnlgodgaolkkaaGreatDoor
open Go.RowKit
namespace Va
set_option maxRecDepth 100000

def cmpG {α : Type} (f : α → α → Ordering) : List α → List α → Ordering
  | [], [] => .eq
  | [], _ :: _ => .lt
  | _ :: _, [] => .gt
  | a :: r, b :: s => (f a b).then (cmpG f r s)
theorem cmpG_drop {α : Type} {f : α → α → Ordering} {l l' : List α} {i : Nat} {x y : α} (hx : l[i]? = some x) (hy : l'[i]? = some y) : cmpG f (l.drop i) (l'.drop i) = (f x y).then (cmpG f (l.drop (i + 1)) (l'.drop (i + 1))) := by
  have h1 := (List.getElem?_eq_some_iff.1 hx)
  have h2 := (List.getElem?_eq_some_iff.1 hy)
  rw [List.drop_eq_getElem_cons h1.1, List.drop_eq_getElem_cons h2.1, cmpG, h1.2, h2.2]
theorem cmpG_gt {α : Type} {f : α → α → Ordering} {l l' : List α} {i : Nat} (h : i < l.length) (h' : l'.length ≤ i) : cmpG f (l.drop i) (l'.drop i) = .gt := by
  rw [List.drop_eq_nil_of_le h', List.drop_eq_getElem_cons h, cmpG]
theorem cmpG_end {α : Type} {f : α → α → Ordering} {l l' : List α} {i : Nat} (h : l.length ≤ i) : cmpG f (l.drop i) (l'.drop i) = if i < l'.length then .lt else .eq := by
  rw [List.drop_eq_nil_of_le h]
  by_cases h' : i < l'.length
  · rw [if_pos h', List.drop_eq_getElem_cons h', cmpG]
  · rw [if_neg h', List.drop_eq_nil_of_le (by omega), cmpG]
/-- An entry of a map in memory: its key, and its value. -/
structure En where
  key : Bs
  kd : Nat
  tx : ByteArray
  A : Option Addr
  n : Nat
  c : Nat
  B : Option Addr
  m : Nat
  d : Nat
instance : Inhabited En := ⟨⟨[], 0, ⟨#[]⟩, none, 0, 0, none, 0, 0⟩⟩
def En.val (e : En) : Value := .agg #[.int .u8 e.kd, .string e.tx, .slice e.A e.n e.c, .slice e.B e.m e.d]
def En.enc (e : En) : List Value := [.string (txt e.key), .int .u8 e.kd, .string e.tx, .slice e.A e.n e.c, .slice e.B e.m e.d]
/-- A row of entries in memory. -/
def Er (w : World) (ok : Nat → Prop) (A : Option Addr) (E : List (Bs × V)) : Prop := 0 < E.length → ∃ g o, A = some ⟨g, o, none⟩ ∧ (∃ cur, w.heap[g]? = some (.cells cur 56 (0, 0))) ∧ ∀ i s x, E[i]? = some (s, x) → ∃ e : En, e.key = s ∧ Vk w ok e.val x ∧ ∀ j u, e.enc[j]? = some u → w.cell? ⟨g, o + i * 5 + j, none⟩ = some u
theorem lt_of_row {w : World} {g : Nat} {t : TypeId} (h : ∃ cur, w.heap[g]? = some (.cells cur t (0, 0))) : g < w.heap.size := by obtain ⟨cur, h⟩ := h; exact (Array.getElem?_eq_some_iff.1 h).1
theorem Er.on {w w' : World} {ok : Nat → Prop} {A : Option Addr} {E : List (Bs × V)} (h : Er w ok A E) (hb : Below w.heap.size w w') : Er w' ok A E := fun h0 => by
  obtain ⟨g, o, e, hg, hf⟩ := h h0
  have hlt := lt_of_row hg
  exact ⟨g, o, e, by obtain ⟨cur, hg⟩ := hg; exact ⟨cur, (hb.block g hlt).trans hg⟩, fun i s x hx => by
    obtain ⟨e, h1, h2, h3⟩ := hf i s x hx
    exact ⟨e, h1, h2.on hb, fun j u hj => cell_old hb hlt (h3 j u hj)⟩⟩
/-- A row of values, and where they lie. -/
def Vro (w : World) (ok : Nat → Prop) (A : Option Addr) (l : List V) : Prop := 0 < l.length → ∃ g o, A = some ⟨g, o, none⟩ ∧ g < w.heap.size ∧ ok g ∧ ∀ i x, l[i]? = some x → ∃ v0 v1 v2 v3, w.cell? ⟨g, o + i * 4, none⟩ = some v0 ∧ w.cell? ⟨g, o + i * 4 + 1, none⟩ = some v1 ∧ w.cell? ⟨g, o + i * 4 + 2, none⟩ = some v2 ∧ w.cell? ⟨g, o + i * 4 + 3, none⟩ = some v3 ∧ Vk w ok (.agg #[v0, v1, v2, v3]) x
theorem Vk.invo {w : World} {ok : Nat → Prop} {v : Value} {k : Nat} {t : Bs} {l : List V} {ks : List Bs} (h : Vk w ok v (.mk k t l ks)) : ∃ A B c d, v = .agg #[.int .u8 k, .string (txt t), .slice A l.length c, .slice B ks.length d] ∧ k < 256 ∧ Vro w ok A l ∧ Tx w B ks := by
  cases h with
  | mk _ _ _ _ A B c d f hk hl hc hA hd hd2 hB hK hL ha _ hV =>
    refine ⟨A, B, c, d, rfl, hk, fun h0 => ?_, hK⟩
    obtain ⟨g, o, e, hg, hf⟩ := hL h0
    exact ⟨g, o, e, hg, ha h0 g o e, fun i x hx => ⟨_, _, _, _, hf i (List.getElem?_eq_some_iff.1 hx).1 0 (by decide), hf i (List.getElem?_eq_some_iff.1 hx).1 1 (by decide), hf i (List.getElem?_eq_some_iff.1 hx).1 2 (by decide), hf i (List.getElem?_eq_some_iff.1 hx).1 3 (by decide), hV i x hx⟩⟩
/-- An entry in a block of its own. -/
abbrev eO (a b c d e : Value) : Obj := .cells #[a, b, c, d, e] 56
theorem strc_any {a b : Bs} {S T : ByteArray} (hS : S = txt a) (hT : T = txt b) (w : World) : Calls Tryz.prog 53 #[.string S, .string T] w fun e w' => e = .returned (.int .i64 (oN (bcmp a b))) ∧ w = w' := by
  have := Tryz.strings_Compare S T w
  rw [tx_data hS, tx_data hT, cmpBytes] at this
  exact this.mono fun e w' ⟨h1, h2⟩ => ⟨h1, h2.symm⟩
set_option maxHeartbeats 4000000 in
theorem cmpF_any {l l' : List V} {A A' : Option Addr} {c c' : Nat} (f : V → V → Ordering) (w : World) (hV : Vr w A l) (hV' : Vr w A' l') (hn : l.length ≤ 1000000) (hn' : l'.length ≤ 1000000)
    (H : ∀ (i : Nat) (x y : V) (v u : Value) (w' : World), l[i]? = some x → l'[i]? = some y → Vm w' v x → Vm w' u y → Below w.heap.size w w' → Calls Tryz.prog 32 #[v, u] w' fun e w'' => e = .returned (.int .i64 (oN (f x y))) ∧ Below w'.heap.size w' w'') :
    Calls Tryz.prog 57 #[.slice A l.length c, .slice A' l'.length c', .func (.func 32) #[] #[]] w fun e w' => e = .returned (.int .i64 (oN (cmpG f l l'))) ∧ Below w.heap.size w w' := by
  obtain ⟨R, hR⟩ : ∃ R, R = oN (cmpG f l l') := ⟨_, rfl⟩
  rw [← hR]
  obtain ⟨n, HN⟩ : ∃ n, Hid (n = l.length) := ⟨_, Lib.hid rfl⟩
  obtain ⟨n', HN'⟩ : ∃ n, Hid (n = l'.length) := ⟨_, Lib.hid rfl⟩
  rw [← HN.out] at hn ⊢
  rw [← HN'.out] at hn' ⊢
  have HV := Lib.hid hV
  have HV' := Lib.hid hV'
  have HH := Lib.hid H
  have HR := Lib.hid hR
  clear hV hV' H hR
  go_enter Tryz.func57, Tryz.ntmps57
  go_wp2_with fail
  go_loopw [7, 8, 9, 10, 13] (fun _ _ _ _ i wx => Hid (Below w.heap.size w wx) ∧ ∃ k : Nat, k ≤ n ∧ i = .int .i64 k ∧ Hid (oN (cmpG f (l.drop k) (l'.drop k)) = R)) (fun _ _ _ _ i _ => n - (intOf i).toNat)
  case atStart => exact ⟨Lib.hid (Below.refl _ _), 0, Nat.zero_le _, rfl, Lib.hid (by rw [HR.out, List.drop_zero, List.drop_zero])⟩
  case round =>
    obtain ⟨HB, k, hk, rfl, HQ⟩ := hrel
    by_cases hlt : k < n
    · obtain ⟨x, hx⟩ := get_lt (l := l) (i := k) (by rw [← HN.out]; exact hlt)
      obtain ⟨g, o, rfl, hg, hf⟩ := HV.out (by rw [← HN.out]; omega)
      obtain ⟨v0, v1, v2, v3, d0, d1, d2, d3, hvm⟩ := hf k x hx
      have c0 := cell_old HB.out hg d0
      have c1 := cell_old HB.out hg d1
      have c2 := cell_old HB.out hg d2
      have c3 := cell_old HB.out hg d3
      obtain ⟨uk, ut, uA, uB, un, uc, um, ud, rfl, rfl, rfl, rfl⟩ := vshp hvm
      by_cases hlt' : k < n'
      · obtain ⟨y, hy⟩ := get_lt (l := l') (i := k) (by rw [← HN'.out]; exact hlt')
        obtain ⟨g', o', rfl, hg', hf'⟩ := HV'.out (by rw [← HN'.out]; omega)
        obtain ⟨v0', v1', v2', v3', d0', d1', d2', d3', hvm'⟩ := hf' k y hy
        obtain ⟨uk', ut', uA', uB', un', uc', um', ud', rfl, rfl, rfl, rfl⟩ := vshp hvm'
        have HB1 := Lib.hid (below_tr HB.out (below_new wr (vO (.int .u8 uk) (.string ut) (.slice uA un uc) (.slice uB um ud))))
        have c0' := cell_old HB1.out hg' d0'
        have c1' := cell_old HB1.out hg' d1'
        have c2' := cell_old HB1.out hg' d2'
        have c3' := cell_old HB1.out hg' d3'
        have HE := Lib.hid (cmpG_drop (f := f) hx hy)
        have CH := Lib.hid (fun (w' : World) (hb : Below w.heap.size w w') => HH.out k x y _ _ w' hx hy (hvm.on hb) (hvm'.on hb) hb)
        obtain ⟨z, HZ⟩ : ∃ z, Hid (z = f x y) := ⟨_, Lib.hid rfl⟩
        rw [← HZ.out] at HE CH
        clear d0 d1 d2 d3 hvm hf hx d0' d1' d2' d3' hvm' hf' hy HZ
        go_wp2_with fail
        refine (CH.out _ (below_tr HB1.out (below_new ..))).mono ?_
        rintro e w2 ⟨rfl, hb2⟩
        have HB2 := Lib.hid (below_tr (below_tr HB1.out (below_new ..)) hb2)
        clear hb2 c0 c1 c2 c3 c0' c1' c2' c3'
        cases z with
        | lt =>
          have HF := Lib.hid (show R = -1 from by rw [← HQ.out, HE.out]; rfl)
          clear HQ HE
          show _
          simp only [oN]
          go_wp2_with fail
          go_ret
          exact ⟨ret_int HF.out.symm, HB2.out⟩
        | gt =>
          have HF := Lib.hid (show R = 1 from by rw [← HQ.out, HE.out]; rfl)
          clear HQ HE
          simp only [oN]
          go_wp2_with fail
          go_ret
          exact ⟨ret_int HF.out.symm, HB2.out⟩
        | eq =>
          have HF := Lib.hid (show oN (cmpG f (l.drop (k + 1)) (l'.drop (k + 1))) = R from by rw [← HQ.out, HE.out]; rfl)
          clear HQ HE
          simp only [oN]
          go_wp2_with fail
          go_roundw
          case rel => exact ⟨HB2, k + 1, by omega, by go_num, HF⟩
          case measure => simp [intOf]; omega
      · have HF := Lib.hid (show R = 1 from by rw [← HQ.out, cmpG_gt (by rw [← HN.out]; exact hlt) (by rw [← HN'.out]; omega)]; rfl)
        have HB1 := Lib.hid (below_tr HB.out (below_new wr (vO (.int .u8 uk) (.string ut) (.slice uA un uc) (.slice uB um ud))))
        clear d0 d1 d2 d3 hvm hf hx HQ
        go_wp2_with fail
        go_ret
        exact ⟨ret_int HF.out.symm, HB1.out⟩
    · have e := cmpG_end (f := f) (l' := l') (show l.length ≤ k by rw [← HN.out]; omega)
      rw [← HN'.out] at e
      obtain rfl : k = n := by omega
      by_cases h9 : k < n'
      · have HF := Lib.hid (show R = -1 from by rw [← HQ.out, e, if_pos h9]; rfl)
        have h8 : (k : Int) < (n' : Int) := by omega
        clear HQ e
        go_wp2_with fail
        go_ret
        exact ⟨ret_int HF.out.symm, HB.out⟩
      · have HF := Lib.hid (show R = 0 from by rw [← HQ.out, e, if_neg h9]; rfl)
        have h8 : ¬ (k : Int) < (n' : Int) := by omega
        clear HQ e
        go_wp2_with fail
        go_ret
        exact ⟨ret_int HF.out.symm, HB.out⟩
end Va
end Go.Proofs.YtnnlgodgaolkkaaGreatDoor
