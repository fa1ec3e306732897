/- What landed of paths: a copy of a step, of a row of steps; with a step more. -/
import Derived.Test.YtoebhnhiljlljaaDoorPh
import Derived.Laws.MakeOwn
import Derived.Deep.DeepAppendRoom
import Derived.Lib.AppendZerosOnto
import Derived.OwnWalk
import Derived.Laws.OwnMore
namespace Go.Proofs.YtoebhnhiljlljaaDoor
open Go.RowKit
namespace Pa
set_option maxRecDepth 100000

/-- Steps as cells. -/
def cel (L : List St) : List Value := L.flatMap stC
theorem cel_len (L : List St) : (cel L).length = L.length * 4 := by
  induction L with
  | nil => rfl
  | cons s r ih =>
    have e : cel (s :: r) = stC s ++ cel r := by simp [cel]
    rw [e, List.length_append, ih, List.length_cons]; simp; omega
theorem cel_app (L M : List St) : cel (L ++ M) = cel L ++ cel M := by simp [cel]
theorem cel_one (s : St) : cel [s] = stC s := by simp [cel]
theorem cel_at : ∀ {L : List St} {i : Nat} {s : St}, L[i]? = some s → ∀ j, j < 4 → (cel L)[i * 4 + j]? = (stC s)[j]?
  | [], _, _, h, _, _ => by simp at h
  | x :: r, 0, s, h, j, hj => by
    obtain rfl : x = s := by simpa using h
    have e : cel (x :: r) = stC x ++ cel r := by simp [cel]
    rw [e, List.getElem?_append_left (by simp; omega)]; simp
  | x :: r, i + 1, s, h, j, hj => by
    have e : cel (x :: r) = stC x ++ cel r := by simp [cel]
    have ih := cel_at (L := r) (i := i) (by simpa using h) j hj
    rw [e, List.getElem?_append_right (by simp; omega), ← ih]
    congr 1
    simp; omega
theorem cel_cells {w : World} {ad : Addr} {g o : Nat} (e : ad = ⟨g, o, none⟩) {L : List St} (h : ∀ i s, L[i]? = some s → w.cell? ⟨g, o + i * 4, none⟩ = some (.int .u8 s.kind) ∧ w.cell? ⟨g, o + i * 4 + 1, none⟩ = some (.string (txt s.text)) ∧ w.cell? ⟨g, o + i * 4 + 2, none⟩ = some (.string (txt s.id)) ∧ w.cell? ⟨g, o + i * 4 + 3, none⟩ = some (.int .i64 s.pos)) :
    ∀ j u, (cel L)[j]? = some u → w.cell? (ad.add j) = some u := by
  subst e
  intro j u hu
  have hj := (List.getElem?_eq_some_iff.1 hu).1
  rw [cel_len] at hj
  have hs : L[j / 4]? = some (L[j / 4]'(by omega)) := List.getElem?_eq_getElem (by omega)
  obtain ⟨h0, h1, h2, h3⟩ := h _ _ hs
  have hc := cel_at hs (j % 4) (by omega)
  rw [show j / 4 * 4 + j % 4 = j by omega, hu] at hc
  rw [addAt]
  have h4 : j % 4 = 0 ∨ j % 4 = 1 ∨ j % 4 = 2 ∨ j % 4 = 3 := by omega
  rcases h4 with h4 | h4 | h4 | h4
  · rw [h4] at hc; rw [show o + j = o + j / 4 * 4 by omega, h0]; exact hc.symm
  · rw [h4] at hc; rw [show o + j = o + j / 4 * 4 + 1 by omega, h1]; exact hc.symm
  · rw [h4] at hc; rw [show o + j = o + j / 4 * 4 + 2 by omega, h2]; exact hc.symm
  · rw [h4] at hc; rw [show o + j = o + j / 4 * 4 + 3 by omega, h3]; exact hc.symm
theorem cel_ones {L : List St} : ∀ u ∈ cel L, u.oneCell' = true := by
  intro u hu
  obtain ⟨s, _, hs⟩ := List.mem_flatMap.1 hu
  simp at hs
  rcases hs with rfl | rfl | rfl | rfl <;> rfl
/-- A row of steps of one's own. -/
def OS (base : Nat) (w : World) (g n : Nat) (L : List St) : Prop := w.ownsRow base 32 4 (.slice (some ⟨g, 0, none⟩) L.length n) L.length (cel L)
theorem own_on {w w' : World} {base : Nat} {e : TypeId} {s : Nat} {v : Value} {n : Nat} {xs : List Value} (h : w.ownsRow base e s v n xs) (hb : ∀ k, v.ownBlock = some k → w'.heap[k]? = w.heap[k]?) : w'.ownsRow base e s v n xs := by
  refine ⟨h.1, ?_⟩
  rcases h.2 with e | ⟨g, c, cur, rfl, h1, hg, h2⟩
  · exact .inl e
  · exact .inr ⟨g, c, cur, rfl, h1, by rw [hb g rfl]; exact hg, h2⟩
theorem OS.on {base : Nat} {w w' : World} {g n : Nat} {L : List St} (h : OS base w g n L) (hb : Below w.heap.size w w') : OS base w' g n L := own_on h fun k hk => hb.block k (h.lt k hk).2
theorem OS.lt {base : Nat} {w : World} {g n : Nat} {L : List St} (h : OS base w g n L) : base ≤ g ∧ g < w.heap.size := World.ownsRow.lt h g rfl
theorem OS.cap {base : Nat} {w : World} {g n : Nat} {L : List St} (h : OS base w g n L) : L.length ≤ n ∧ n ≤ maxLen := by
  rcases h.2 with ⟨e, _⟩ | ⟨g', c, cur, e, _, _, h1, h2, _⟩
  · cases e
  · injection e with _ _ e; subst e; exact ⟨h1, h2⟩
theorem OS.sm {base : Nat} {w : World} {g n : Nat} {L : List St} (h : OS base w g n L) (hok : ∀ s ∈ L, s.Ok) : Sm w (some ⟨g, 0, none⟩) L.length n L := by
  refine ⟨rfl, h.cap, (fun e => by cases e), fun h0 => ⟨g, 0, rfl, h.lt.2, fun i s hs => ?_⟩, hok⟩
  have hi := (List.getElem?_eq_some_iff.1 hs).1
  have hc := fun j (hj : j < 4) => (World.ownsRow.cellAt h (i * 4 + j) (by omega)).trans (cel_at hs j hj)
  exact ⟨by rw [Nat.zero_add]; exact hc 0 (by omega), by rw [Nat.zero_add]; exact hc 1 (by omega), by rw [Nat.zero_add]; exact hc 2 (by omega), by rw [Nat.zero_add]; exact hc 3 (by omega)⟩
theorem vcells {w : World} {h : Nat} {p q r s : Value} {t : TypeId} (hh : w.heap[h]? = some (.cells #[p, q, r, s] t (0, 0))) : (w.cell? ⟨h, 0, none⟩ = some p ∧ w.cell? ⟨h, 1, none⟩ = some q ∧ w.cell? ⟨h, 2, none⟩ = some r ∧ w.cell? ⟨h, 3, none⟩ = some s) ∧ w.frozen? ⟨h, 0, none⟩ = false ∧ w.frozen? ⟨h, 1, none⟩ = false ∧ w.frozen? ⟨h, 2, none⟩ = false ∧ w.frozen? ⟨h, 3, none⟩ = false := by
  refine ⟨⟨?_, ?_, ?_, ?_⟩, ?_, ?_, ?_, ?_⟩ <;> first | (simp only [World.cell?, hh]; rfl) | simp [World.frozen?, hh]
theorem heap_alloc_new (w : World) (o : Obj) : (w.alloc o).heap[w.heap.size]? = some o := by
  show (w.heap.push o)[w.heap.size]? = _
  simp
theorem keep_other {w : World} {g h : Nat} {k : Nat} {v : Value} {o : Obj} (hg : w.heap[g]? = some o) (hne : g ≠ h) : (w.setCell ⟨h, k, none⟩ v).heap[g]? = some o := (Go.RowKit.Below.heap_setCell _ _ _ _ hne).trans hg
theorem clone_any {s : ByteArray} (w : World) (h : s.size ≤ 1000000000000) : Calls Tryd.prog 47 #[.string s] w fun e w' => e = .returned (.string s) ∧ Below w.heap.size w w' := by
  have C := Lib.hid (Tryd.stringslite_Clone s w (by omega))
  go_enter Tryd.func47, Tryd.ntmps47
  go_wp2_with fail
  refine C.out.mono ?_
  rintro e w2 ⟨rfl, hb⟩
  go_wp2_with fail
  go_ret
  exact ⟨rfl, hb⟩
set_option maxHeartbeats 4000000 in
theorem step_any {s : St} (w : World) (h : sw s ≤ 1000000000000) : Calls Tryd.prog 32 #[stV s] w fun e w' => e = .returned (stV s) ∧ Below w.heap.size w w' := by
  obtain ⟨T, hT⟩ : ∃ T, T = txt s.text := ⟨_, rfl⟩
  obtain ⟨U, hU⟩ : ∃ U, U = txt s.id := ⟨_, rfl⟩
  have CT := Lib.hid (fun w' => clone_any (s := T) w' (by rw [hT, txt_size]; unfold sw at h; omega))
  have CU := Lib.hid (fun w' => clone_any (s := U) w' (by rw [hU, txt_size]; unfold sw at h; omega))
  unfold stV
  rw [← hT, ← hU]
  obtain ⟨k, hk⟩ : ∃ k : Int, k = s.kind := ⟨_, rfl⟩
  obtain ⟨p, hp⟩ : ∃ p : Int, p = s.pos := ⟨_, rfl⟩
  rw [← hk, ← hp]
  clear hT hU hk hp h
  obtain ⟨W1, hW1⟩ : ∃ W, W = w.alloc (.cells #[.int .u8 k, .string T, .string U, .int .i64 p] 32) := ⟨_, rfl⟩
  obtain ⟨W2, hW2⟩ : ∃ W, W = W1.alloc (.cells #[.int .u8 0, .string ⟨#[]⟩, .string ⟨#[]⟩, .int .i64 0] 32) := ⟨_, rfl⟩
  have hb1 : Below w.heap.size w W1 := by rw [hW1]; exact below_new ..
  have hb2 : Below W1.heap.size W1 W2 := by rw [hW2]; exact below_new ..
  have hsz : W1.heap.size = w.heap.size + 1 := by rw [hW1]; show (w.heap.push _).size = _; rw [Array.size_push]
  have HO := Lib.hid (show W2.heap[w.heap.size]? = some (.cells #[.int .u8 k, .string T, .string U, .int .i64 p] 32 (0, 0)) from (hb2.block _ (by omega)).trans (by rw [hW1]; exact heap_alloc_new ..))
  have HO2 := Lib.hid (show W2.heap[W1.heap.size]? = some (.cells #[.int .u8 0, .string ⟨#[]⟩, .string ⟨#[]⟩, .int .i64 0] 32 (0, 0)) from by rw [hW2]; exact heap_alloc_new ..)
  have HB2 := Lib.hid (below_tr hb1 hb2)
  have HW1 := Lib.hid hW1
  have HW2 := Lib.hid hW2
  have HSZ := Lib.hid hsz
  clear hW1 hW2 hb1 hb2 hsz
  go_enter Tryd.func32, Tryd.ntmps32
  go_upto_region 1 with fail
  rw [← HW1.out, ← HW2.out]
  obtain ⟨h2, hh2⟩ : ∃ h2, h2 = w.heap.size + 1 := ⟨_, rfl⟩
  have HO2 : Hid (W2.heap[h2]? = some (.cells #[.int .u8 0, .string ⟨#[]⟩, .string ⟨#[]⟩, .int .i64 0] 32 (0, 0))) := by rw [hh2, ← HSZ.out]; exact HO2
  rw [← hh2]
  obtain ⟨h, hh⟩ : ∃ h, h = w.heap.size := ⟨_, rfl⟩
  rw [← hh] at HO ⊢
  have HHS := Lib.hid (show h = w.heap.size ∧ h2 = w.heap.size + 1 from ⟨hh, hh2⟩)
  have HNE := Lib.hid (show h2 ≠ h by have := HHS.out; omega)
  clear HW1 HW2 hh hh2
  obtain ⟨⟨x0, x1, x2, x3⟩, y0, y1, y2, y3⟩ := vcells HO.out
  go_wp2_with fail
  refine (CT.out _).mono ?_
  rintro e w3 ⟨rfl, hb⟩
  have HB3 := Lib.hid (below_tr HB2.out hb)
  have HO3 := Lib.hid ((hb.block h (Array.getElem?_eq_some_iff.1 HO.out).1).trans HO.out)
  have HP3 := Lib.hid ((hb.block h2 (Array.getElem?_eq_some_iff.1 HO2.out).1).trans HO2.out)
  clear hb x0 x1 x2 x3 y0 y1 y2 y3
  obtain ⟨⟨x0, x1, x2, x3⟩, y0, y1, y2, y3⟩ := vcells HO3.out
  go_upto_region 2 with fail
  obtain ⟨W4, hW4⟩ : ∃ W, W = w3.setCell ⟨h, 1, none⟩ (.string T) := ⟨_, rfl⟩
  rw [← hW4]
  have HO4 := Lib.hid (show W4.heap[h]? = some (.cells #[.int .u8 k, .string T, .string U, .int .i64 p] 32 (0, 0)) from by rw [hW4]; exact Go.heap_setCell_same w3 h 1 _ _ _ HO3.out)
  have HP4 := Lib.hid (show W4.heap[h2]? = some (.cells #[.int .u8 0, .string ⟨#[]⟩, .string ⟨#[]⟩, .int .i64 0] 32 (0, 0)) from by rw [hW4]; exact keep_other HP3.out HNE.out)
  have HB4 := Lib.hid (show Below w.heap.size w W4 from by rw [hW4]; exact HB3.out.setCell (by have := HHS.out.1; show w.heap.size ≤ h; omega) _)
  clear hW4 x0 x1 x2 x3 y0 y1 y2 y3
  obtain ⟨⟨x0, x1, x2, x3⟩, y0, y1, y2, y3⟩ := vcells HO4.out
  go_wp2_with fail
  refine (CU.out _).mono ?_
  rintro e w5 ⟨rfl, hb⟩
  have HB5 := Lib.hid (below_tr HB4.out hb)
  have HO5 := Lib.hid ((hb.block h (Array.getElem?_eq_some_iff.1 HO4.out).1).trans HO4.out)
  have HP5 := Lib.hid ((hb.block h2 (Array.getElem?_eq_some_iff.1 HP4.out).1).trans HP4.out)
  clear hb x0 x1 x2 x3 y0 y1 y2 y3
  obtain ⟨⟨x0, x1, x2, x3⟩, y0, y1, y2, y3⟩ := vcells HO5.out
  go_upto_region 3 with fail
  obtain ⟨W6, hW6⟩ : ∃ W, W = w5.setCell ⟨h, 2, none⟩ (.string U) := ⟨_, rfl⟩
  rw [← hW6]
  have HO6 := Lib.hid (show W6.heap[h]? = some (.cells #[.int .u8 k, .string T, .string U, .int .i64 p] 32 (0, 0)) from by rw [hW6]; exact Go.heap_setCell_same w5 h 2 _ _ _ HO5.out)
  have HP6 := Lib.hid (show W6.heap[h2]? = some (.cells #[.int .u8 0, .string ⟨#[]⟩, .string ⟨#[]⟩, .int .i64 0] 32 (0, 0)) from by rw [hW6]; exact keep_other HP5.out HNE.out)
  have HB6 := Lib.hid (show Below w.heap.size w W6 from by rw [hW6]; exact HB5.out.setCell (by have := HHS.out.1; show w.heap.size ≤ h; omega) _)
  clear hW6 x0 x1 x2 x3 y0 y1 y2 y3
  obtain ⟨⟨x0, x1, x2, x3⟩, y0, y1, y2, y3⟩ := vcells HO6.out
  obtain ⟨⟨q0, q1, q2, q3⟩, r0, r1, r2, r3⟩ := vcells HP6.out
  go_wp2_with fail
  refine bodyPost_ret (v := .agg #[.int .u8 k, .string T, .string U, .int .i64 p]) (by simp [results, Tryd.results32, go_sem, *]) rfl ?_
  have h9 : w.heap.size ≤ h2 := by have := HHS.out; omega
  exact ⟨rfl, (((HB6.out.setCell h9 _).setCell h9 _).setCell h9 _).setCell h9 _⟩
end Pa
end Go.Proofs.YtoebhnhiljlljaaDoor
