/- The document's Get. -/
import Derived.Test.YtnnlgodgaolkkaaDoorHf
import Derived.Test.YtnnlgodgaolkkaaDoorHd
import Derived.Test.YtnnlgodgaolkkaaDoorStm
namespace Go.Proofs.YtnnlgodgaolkkaaDoor
open Go.RowKit
namespace Va

def gt : V → Bs → Option V
  | .mk k t l ks, key => if k = 8 ∧ may (.mk k t l ks) = true then (fnd ks key).bind fun i => l[i]? else none
theorem vm_zero (w : World) : Vm w (.agg #[.int .u8 0, .string ⟨#[]⟩, .slice none 0 0, .slice none 0 0]) (.mk 0 [] [] []) := by
  have := Vk.mk (w := w) (ok := fun _ => True) 0 [] [] [] none none 0 0 (fun _ _ => .int .u8 0) (by decide) (Nat.le_refl _) (Nat.zero_le _) (fun _ => rfl) (Nat.le_refl _) (Nat.zero_le _) (fun _ => rfl) (fun h => absurd h (by simp)) (fun h => absurd h (by simp)) (fun h => absurd h (by simp)) (fun _ _ _ _ => trivial) (fun i x h => by simp at h)
  exact this
theorem vshape {w : World} {u : Value} {x : V} (h : Vm w u x) : ∃ (k : Nat) (t : ByteArray) (A B : Option Addr) (n c m d : Nat), u = .agg #[.int .u8 k, .string t, .slice A n c, .slice B m d] := by
  cases h with
  | mk k t l ks A B c d f => exact ⟨k, _, A, B, _, _, _, _, rfl⟩
theorem vcells {w : World} {g : Nat} {a b c d : Value} (e : w.heap[g]? = some (vO a b c d)) : (w.cell? ⟨g, 0, none⟩ = some a ∧ w.cell? ⟨g, 1, none⟩ = some b ∧ w.cell? ⟨g, 2, none⟩ = some c ∧ w.cell? ⟨g, 3, none⟩ = some d) ∧ w.frozen? ⟨g, 0, none⟩ = false ∧ w.frozen? ⟨g, 1, none⟩ = false ∧ w.frozen? ⟨g, 2, none⟩ = false ∧ w.frozen? ⟨g, 3, none⟩ = false := by
  simp [World.cell?, World.frozen?, e]
end Va
end Go.Proofs.YtnnlgodgaolkkaaDoor
/- A twin in memory: a value, each of whose rows has room behind, and a mark in it. -/
namespace Go.Proofs.YtnnlgodgaolkkaaDoor
open Go.RowKit
namespace Va
set_option maxRecDepth 100000

/-- The mark. -/
def mrk : Bs := [109, 97, 114, 107]
/-- A twin, in blocks that are fit. -/
inductive Vt (w : World) (ok : Nat → Prop) : Value → V → Prop where
  | mk (k : Nat) (t : Bs) (l : List V) (ks : List Bs) (g o h p c d : Nat) (f : Nat → Nat → Value)
    (hk : k < 256) (hl : l.length < c) (hc : c ≤ maxLen) (hd : ks.length < d) (hd2 : d ≤ maxLen)
    (hg : g < w.heap.size) (hh : h < w.heap.size) (og : ok g) (oh : ok h)
    (hK : ∀ i s, ks[i]? = some s → w.cell? ⟨h, p + i, none⟩ = some (.string (txt s))) (mK : w.cell? ⟨h, p + ks.length, none⟩ = some (.string (txt mrk)))
    (hL : ∀ i, i < l.length → ∀ j, j < 4 → w.cell? ⟨g, o + i * 4 + j, none⟩ = some (f i j)) (mL : w.cell? ⟨g, o + l.length * 4 + 1, none⟩ = some (.string (txt mrk)))
    (hV : ∀ i x, l[i]? = some x → Vt w ok (.agg #[f i 0, f i 1, f i 2, f i 3]) x) :
    Vt w ok (.agg #[.int .u8 k, .string (txt t), .slice (some ⟨g, o, none⟩) l.length c, .slice (some ⟨h, p, none⟩) ks.length d]) (.mk k t l ks)
theorem Vt.vk {w : World} {ok : Nat → Prop} {v : Value} {x : V} (h : Vt w ok v x) : Vk w ok v x := by
  induction h with
  | mk k t l ks g o h p c d f hk hl hc hd hd2 hg hh og oh hK mK hL mL hV ih =>
    exact .mk k t l ks _ _ c d f hk (Nat.le_of_lt hl) hc (fun e => by cases e) (Nat.le_of_lt hd) hd2 (fun e => by cases e) (fun _ => ⟨h, p, rfl, hh, hK⟩) (fun _ => ⟨g, o, rfl, hg, hL⟩)
      (fun _ g' o' e => by injection e with e; injection e with e1 _ _; subst e1; exact og) (fun _ g' o' e => by injection e with e; injection e with e1 _ _; subst e1; exact oh) ih
theorem Vt.vm {w : World} {ok : Nat → Prop} {v : Value} {x : V} (h : Vt w ok v x) : Vm w v x := h.vk.vm
theorem Vt.keep {w w' : World} {ok : Nat → Prop} {v : Value} {x : V} (h : Vt w ok v x) (hb : ∀ g, ok g → g < w.heap.size → w'.heap[g]? = w.heap[g]?) (hs : w.heap.size ≤ w'.heap.size) : Vt w' ok v x := by
  induction h with
  | mk k t l ks g o h p c d f hk hl hc hd hd2 hg hh og oh hK mK hL mL hV ih =>
    exact .mk k t l ks g o h p c d f hk hl hc hd hd2 (Nat.lt_of_lt_of_le hg hs) (Nat.lt_of_lt_of_le hh hs) og oh (fun i s hi => cell_eq (hb h oh hh) (hK i s hi)) (cell_eq (hb h oh hh) mK)
      (fun i hi j hj => cell_eq (hb g og hg) (hL i hi j hj)) (cell_eq (hb g og hg) mL) ih
theorem Vt.on {w w' : World} {ok : Nat → Prop} {v : Value} {x : V} (h : Vt w ok v x) (hb : Below w.heap.size w w') : Vt w' ok v x := h.keep (fun g _ hg => hb.block g hg) hb.size
theorem Vt.to {w : World} {ok ok' : Nat → Prop} {v : Value} {x : V} (h : Vt w ok v x) (hi : ∀ g, g < w.heap.size → ok g → ok' g) : Vt w ok' v x := by
  induction h with
  | mk k t l ks g o h p c d f hk hl hc hd hd2 hg hh og oh hK mK hL mL hV ih =>
    exact .mk k t l ks g o h p c d f hk hl hc hd hd2 hg hh (hi g hg og) (hi h hh oh) hK mK hL mL ih
/-- A twin's parts. -/
theorem Vt.inv {w : World} {ok : Nat → Prop} {v : Value} {k : Nat} {t : Bs} {l : List V} {ks : List Bs} (h : Vt w ok v (.mk k t l ks)) :
    ∃ g o h p c d, v = .agg #[.int .u8 k, .string (txt t), .slice (some ⟨g, o, none⟩) l.length c, .slice (some ⟨h, p, none⟩) ks.length d] ∧ k < 256 ∧ l.length < c ∧ c ≤ maxLen ∧ ks.length < d ∧ d ≤ maxLen ∧ g < w.heap.size ∧ h < w.heap.size ∧ ok g ∧ ok h ∧
      (∀ i s, ks[i]? = some s → w.cell? ⟨h, p + i, none⟩ = some (.string (txt s))) ∧ w.cell? ⟨h, p + ks.length, none⟩ = some (.string (txt mrk)) ∧ w.cell? ⟨g, o + l.length * 4 + 1, none⟩ = some (.string (txt mrk)) ∧
      ∀ i x, l[i]? = some x → ∃ v0 v1 v2 v3, w.cell? ⟨g, o + i * 4, none⟩ = some v0 ∧ w.cell? ⟨g, o + i * 4 + 1, none⟩ = some v1 ∧ w.cell? ⟨g, o + i * 4 + 2, none⟩ = some v2 ∧ w.cell? ⟨g, o + i * 4 + 3, none⟩ = some v3 ∧ Vt w ok (.agg #[v0, v1, v2, v3]) x := by
  cases h with
  | mk _ _ _ _ g o h p c d f hk hl hc hd hd2 hg hh og oh hK mK hL mL hV =>
    refine ⟨g, o, h, p, c, d, rfl, hk, hl, hc, hd, hd2, hg, hh, og, oh, hK, mK, mL, fun i x hx => ?_⟩
    have hi := (List.getElem?_eq_some_iff.1 hx).1
    exact ⟨_, _, _, _, hL i hi 0 (by decide), hL i hi 1 (by decide), hL i hi 2 (by decide), hL i hi 3 (by decide), hV i x hx⟩
end Va
end Go.Proofs.YtnnlgodgaolkkaaDoor
/- The law's own example, made. -/
namespace Go.Proofs.YtnnlgodgaolkkaaDoor
open Go.RowKit
namespace Va

def sV : V := .mk 8 [] [.mk 7 [] [.mk 2 [49, 101, 48] [] [], .mk 0 [] [] []] [], .mk 3 [120] [] []] [[98], [97]]
theorem al_size (W : World) (o : Obj) : (W.alloc o).heap.size = W.heap.size + 1 := by show (W.heap.push o).size = _; rw [Array.size_push]
theorem al_old {W : World} {o : Obj} {g : Nat} (h : g < W.heap.size) : (W.alloc o).heap[g]? = W.heap[g]? := by
  show (W.heap.push o)[g]? = _
  rw [Array.getElem?_push_lt h, Array.getElem?_eq_getElem h]
theorem al_new {W : World} {o : Obj} {g : Nat} (h : g = W.heap.size) : (W.alloc o).heap[g]? = some o := by subst h; exact heap_alloc_new W o
/-- A value without parts. -/
theorem leaf_vk (w : World) (ok : Nat → Prop) {k : Nat} {t : Bs} (hk : k < 256) {s : ByteArray} (hs : s = txt t) {z : Int} (hz : z = (k : Nat)) : Vk w ok (.agg #[.int .u8 z, .string s, .slice none 0 0, .slice none 0 0]) (.mk k t [] []) := by
  subst hs hz
  exact .mk k t [] [] none none 0 0 (fun _ _ => .int .u8 0) hk (Nat.le_refl _) (Nat.zero_le _) (fun _ => rfl) (Nat.le_refl _) (Nat.zero_le _) (fun _ => rfl) (fun h => absurd h (by simp)) (fun h => absurd h (by simp)) (fun h => absurd h (by simp)) (fun h => absurd h (by simp)) (fun i x h => by simp at h)
/-- A list of two. -/
theorem two_vk (w : World) (ok : Nat → Prop) {k g : Nat} (hk : k < 256) {z : Int} (hz : z = (k : Nat)) {x y : V} {a b c d p q r s : Value} {T : TypeId} (hg : w.heap[g]? = some (.cells #[a, b, c, d, p, q, r, s] T)) (ho : ok g) (hx : Vk w ok (.agg #[a, b, c, d]) x) (hy : Vk w ok (.agg #[p, q, r, s]) y)
    {B : Option Addr} {ks : List Bs} {n dd : Nat} (hn : n = ks.length) (hd : n ≤ dd) (hd2 : dd ≤ maxLen) (hB : B = none → dd = 0) (hK : Tx w B ks) (hb : 0 < ks.length → ∀ g o, B = some ⟨g, o, none⟩ → ok g) :
    Vk w ok (.agg #[.int .u8 z, .string ⟨#[]⟩, .slice (some ⟨g, 0, none⟩) 2 2, .slice B n dd]) (.mk k [] [x, y] ks) := by
  subst hz hn
  have hlt : g < w.heap.size := (Array.getElem?_eq_some_iff.1 hg).1
  refine .mk k [] [x, y] ks (some ⟨g, 0, none⟩) B 2 dd (fun i j => (#[a, b, c, d, p, q, r, s] : Array Value).getD (i * 4 + j) (.int .u8 0)) hk (Nat.le_refl _) (by unfold maxLen; omega) (fun h => by cases h) hd hd2 hB hK (fun _ => ⟨g, 0, rfl, hlt, fun i hi j hj => ?_⟩) (fun _ g' o e => by injection e with e; injection e with e1 _ _; rw [← e1]; exact ho) hb (fun i v h => ?_)
  · rw [Nat.zero_add]
    simp only [World.cell?, hg]
    have hi : i < 2 := hi
    rcases (show i = 0 ∨ i = 1 by omega) with rfl | rfl <;> rcases (show j = 0 ∨ j = 1 ∨ j = 2 ∨ j = 3 by omega) with rfl | rfl | rfl | rfl <;> rfl
  · rcases i with _ | _ | i
    · obtain rfl : x = v := by simpa using h
      exact hx
    · obtain rfl : y = v := by simpa using h
      exact hy
    · simp at h
set_option maxHeartbeats 4000000 in
set_option maxRecDepth 100000 in
theorem small_any (w : World) : Calls Tryd.prog 20 #[] w fun e w' => (∃ u, e = .returned u ∧ Vk w' (fun g => w.heap.size ≤ g) u sV) ∧ Below w.heap.size w w' := by
  go_enter Tryd.func20, Tryd.ntmps20
  go_wp2_with fail
  refine bodyPost_ret (v := .agg #[.int .u8 8, .string ⟨#[]⟩, .slice (some ⟨w.heap.size + 1 + 1 + 1 + 1, 0, none⟩) 2 2, .slice (some ⟨w.heap.size + 1 + 1 + 1, 0, none⟩) 2 2]) (by simp [results, Tryd.results20, go_sem, *]) rfl ?_
  refine ⟨⟨_, rfl, ?_⟩, ((((((Below.refl _ _).alloc (Nat.le_refl _) _).alloc (by simp) _).alloc (by simp; omega) _).alloc (by simp; omega) _).alloc (by simp; omega) _)⟩
  refine two_vk _ _ (k := 8) (by omega) rfl (x := .mk 7 [] [.mk 2 [49, 101, 48] [] [], .mk 0 [] [] []] []) (y := .mk 3 [120] [] []) (T := 26) (a := .int .u8 7) (b := .string ⟨#[]⟩) (c := .slice (some ⟨w.heap.size + 1, 0, none⟩) 2 2) (d := .slice none 0 0) (p := .int .u8 3) (q := .string ⟨#[120]⟩) (r := .slice none 0 0) (s := .slice none 0 0) ?_ (by omega) ?_ (leaf_vk _ _ (by omega) rfl rfl) rfl (Nat.le_refl _) (by unfold maxLen; omega) (fun h => by cases h) (fun _ => ⟨w.heap.size + 1 + 1 + 1, 0, rfl, ?_, fun i t h => ?_⟩) (fun _ g o e => by injection e with e; injection e with e1 _ _; omega)
  · exact al_new (by simp only [al_size])
  · refine two_vk _ _ (k := 7) (by omega) rfl (x := .mk 2 [49, 101, 48] [] []) (y := .mk 0 [] [] []) (T := 26) (a := .int .u8 2) (b := .string ⟨#[49, 101, 48]⟩) (c := .slice none 0 0) (d := .slice none 0 0) (p := .int .u8 0) (q := .string ⟨#[]⟩) (r := .slice none 0 0) (s := .slice none 0 0) ?_ (by omega) (leaf_vk _ _ (by omega) rfl rfl) (leaf_vk _ _ (by omega) rfl rfl) rfl (Nat.le_refl _) (Nat.zero_le _) (fun _ => rfl) (fun h => absurd h (by simp)) (fun h => absurd h (by simp))
    rw [al_old (by simp only [al_size]; omega), al_old (by simp only [al_size]; omega), al_old (by simp only [al_size]; omega)]
    exact al_new (by simp only [al_size])
  · simp only [al_size]; omega
  · rw [World.cell?_alloc_lt _ _ _ (by show w.heap.size + 1 + 1 + 1 < _; simp only [al_size]; omega), World.cell?_alloc_at _ _ _ _ (by simp only [al_size])]
    rcases i with _ | _ | i
    · obtain rfl : [98] = t := by simpa using h
      rfl
    · obtain rfl : [97] = t := by simpa using h
      rfl
    · simp at h
end Va
end Go.Proofs.YtnnlgodgaolkkaaDoor
