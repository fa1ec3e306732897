/- The law's own: its examples, a twin of a path, whether it is left as it was. -/
import Derived.Test.YtoebhnhiljlljaaDoorPr
import Derived.Test.YtoebhnhiljlljaaDoorPm
namespace Go.Proofs.YtoebhnhiljlljaaDoor
open Go.RowKit
namespace Pa
set_option maxRecDepth 100000

theorem os_new (w : World) (L : List St) (hL : L.length ≤ 1000000) : OS w.heap.size (w.alloc (.cells (cel L).toArray 32)) w.heap.size L.length L := by
  have h := World.ownsRow_lit (base := w.heap.size) (e := 32) (size := 4) w (cel L).toArray L.length (Nat.le_refl _) (by unfold maxLen; omega) (by simp [cel_len])
  unfold OS
  simpa using h
theorem i64_small {z : Int} (h0 : 0 ≤ z) (h1 : z ≤ 1000) : i64 z := ⟨by omega, by omega⟩
/-- The examples' paths. -/
def ex1 : List St := [⟨0, [97], 0, []⟩, ⟨1, [], 3, []⟩, ⟨2, [120], 0, [34, 121, 34]⟩]
def ex2 : List St := [⟨0, [97, 47, 98], 0, []⟩]
theorem ex1_t : pT ex1 = [47, 97, 91, 51, 93, 91, 120, 61, 34, 121, 34, 93] := by decide +kernel
theorem ex2_t : pT ex2 = [47, 97, 37, 50, 102, 98] := by decide +kernel
theorem ex1_ok : ∀ s ∈ ex1, s.Ok ∧ sw s ≤ 10000000 := by
  intro s hs
  simp [ex1] at hs
  rcases hs with rfl | rfl | rfl <;> exact ⟨⟨by decide, i64_small (by decide) (by decide)⟩, by decide⟩
theorem ex2_ok : ∀ s ∈ ex2, s.Ok ∧ sw s ≤ 10000000 := by
  intro s hs
  simp [ex2] at hs
  subst hs
  exact ⟨⟨by decide, i64_small (by decide) (by decide)⟩, by decide⟩
theorem lives_any (w : World) (hT : P10 w) : Calls Tryd.prog 7 #[] w fun e w' => e = .returned (.bool true) ∧ Below w.heap.size w w' := by
  have HT := Lib.hid hT
  obtain ⟨W1, hW1⟩ : ∃ W, W = w.alloc (.cells #[.int .u8 0, .string ⟨#[97]⟩, .string ⟨#[]⟩, .int .i64 0, .int .u8 1, .string ⟨#[]⟩, .string ⟨#[]⟩, .int .i64 3, .int .u8 2, .string ⟨#[120]⟩, .string ⟨#[34, 121, 34]⟩, .int .i64 0] 32) := ⟨_, rfl⟩
  have HB1 := Lib.hid (show Below w.heap.size w W1 from by rw [hW1]; exact below_new ..)
  have C1 := Lib.hid (show Calls Tryd.prog 13 #[.slice (some ⟨w.heap.size, 0, none⟩) 3 3] W1 fun e w' => e = .returned (.string ⟨#[47, 97, 91, 51, 93, 91, 120, 61, 34, 121, 34, 93]⟩) ∧ Below W1.heap.size W1 w' from by
    have h := text_any W1 (show Sm W1 (some ⟨w.heap.size, 0, none⟩) 3 3 ex1 from by rw [hW1]; exact (os_new w ex1 (by decide)).sm fun s hs => (ex1_ok s hs).1) (fun s hs => (ex1_ok s hs).2) (hT.up HB1.out)
    rw [ex1_t] at h; exact h)
  have C2 := Lib.hid (fun (w2 : World) (h2 : Below w.heap.size w w2) => show Calls Tryd.prog 13 #[.slice (some ⟨w2.heap.size, 0, none⟩) 1 1] (w2.alloc (.cells #[.int .u8 0, .string ⟨#[97, 47, 98]⟩, .string ⟨#[]⟩, .int .i64 0] 32)) fun e w' => e = .returned (.string ⟨#[47, 97, 37, 50, 102, 98]⟩) ∧ Below (w2.alloc (.cells #[.int .u8 0, .string ⟨#[97, 47, 98]⟩, .string ⟨#[]⟩, .int .i64 0] 32)).heap.size (w2.alloc (.cells #[.int .u8 0, .string ⟨#[97, 47, 98]⟩, .string ⟨#[]⟩, .int .i64 0] 32)) w' from by
    have h := text_any (w2.alloc (.cells #[.int .u8 0, .string ⟨#[97, 47, 98]⟩, .string ⟨#[]⟩, .int .i64 0] 32)) (show Sm _ (some ⟨w2.heap.size, 0, none⟩) 1 1 ex2 from (os_new w2 ex2 (by decide)).sm fun s hs => (ex2_ok s hs).1) (fun s hs => (ex2_ok s hs).2) (hT.up (below_tr h2 (below_new ..)))
    rw [ex2_t] at h; exact h)
  have C3 := Lib.hid (fun (w2 : World) (h2 : Below w.heap.size w w2) => show Calls Tryd.prog 13 #[.slice none 0 0] w2 fun e w' => e = .returned (.string ⟨#[46]⟩) ∧ Below w2.heap.size w2 w' from by
    have h := text_any w2 (show Sm w2 none 0 0 [] from ⟨rfl, ⟨Nat.le_refl _, Nat.zero_le _⟩, fun _ => rfl, fun h => absurd h (by simp), fun s hs => by cases hs⟩) (fun s hs => by cases hs) (hT.up h2)
    rw [pT_nil] at h; exact h)
  clear hT
  go_enter Tryd.func7, Tryd.ntmps7
  go_upto_region 2 with fail
  rw [← hW1]
  obtain ⟨h, hh⟩ : ∃ h, h = w.heap.size := ⟨_, rfl⟩
  rw [← hh] at C1
  have HH := Lib.hid hh
  rw [← hh]
  clear hW1 hh
  go_wp2_with fail
  refine C1.out.mono ?_
  rintro e w2 ⟨rfl, hb⟩
  have HB2 := Lib.hid (below_tr HB1.out hb)
  clear hb
  go_wp2_with fail
  refine (C2.out w2 HB2.out).mono ?_
  rintro e w3 ⟨rfl, hb⟩
  have HB3 := Lib.hid (below_tr (below_tr HB2.out (below_new ..)) hb)
  clear hb
  go_wp2_with fail
  refine (C3.out w3 HB3.out).mono ?_
  rintro e w4 ⟨rfl, hb⟩
  have HB4 := Lib.hid (below_tr HB3.out hb)
  clear hb
  go_wp2_with fail
  go_ret
  exact ⟨rfl, HB4.out⟩
/-- The mark. -/
def mk : St := ⟨0, [109, 97, 114, 107], 0, []⟩
theorem mk_ok : mk.Ok := ⟨by decide, i64_small (by decide) (by decide)⟩
set_option maxHeartbeats 4000000 in
theorem twin_any {A : Option Addr} {n c : Nat} {L : List St} (w : World) (h : Sm w A n c L) (hn : n ≤ 1000000) :
    Calls Tryd.prog 8 #[.slice A n c] w fun e w' => (∃ g, e = .returned (.slice (some ⟨g, 0, none⟩) n (n + 1 : Nat)) ∧ OS w.heap.size w' g (n + 1) (L ++ [mk])) ∧ Below w.heap.size w w' := by
  obtain ⟨i0, hi, hz0, hz1, hz2⟩ := step_info
  have HS := Lib.hid h
  have HN := Lib.hid h.len
  clear h
  go_enter Tryd.func8, Tryd.ntmps8
  go_wp2_with (first
    | (at_make; refine wpList_make_own _ rfl _ _ 22 rfl w.heap.size 32 i0 _ 4 Tryd.underlying22 hi hz0 hz1 .i64 .i64 _ (n + 1) rfl rfl rfl (by rw [hz2]; omega) (by unfold maxLen; omega) (Nat.le_refl _) ?_; intro w1 hown1 hg1; have HB1 := Lib.hid (show Below w.heap.size w w1 from (Below.refl _ _).grown hg1 (Nat.le_refl _) (fun _ h => by cases h)); have HO1 := Lib.hid (show OS w.heap.size w1 w.heap.size (n + 1) [] from hown1); clear hown1 hg1)
    | (at_builtin; refine wpSt _ rfl (.tmp 6) (.tmp 7) rfl w.heap.size w.heap.size (n + 1) n 0 [] HO1.out rfl rfl A c L rfl (HS.out.on HB1.out) (by omega) ?_; intro w2 hO2 hg2; have HO2 := Lib.hid (show OS w.heap.size w2 w.heap.size (n + 1) L from hO2); have HB2 := Lib.hid (show Below w.heap.size w w2 from HB1.out.grown hg2 HB1.out.size (fun _ e => by cases e; exact Nat.le_refl _)); clear hO2 hg2)
    | (at_builtin; refine wpSt _ rfl (.tmp 8) (.tmp 10) rfl w.heap.size w.heap.size (n + 1) 1 n L (HO2.out.on (below_new ..)) HN.out.symm rfl (some ⟨w2.heap.size, 0, none⟩) 1 [mk] rfl ((os_new w2 [mk] (by decide)).sm (fun s hs => by obtain rfl : s = mk := (by simpa using hs); exact mk_ok)) (by omega) ?_; intro w3 hO3 hg3; have HO3 := Lib.hid hO3; have HB3 := Lib.hid (show Below w.heap.size w w3 from (HB2.out.alloc HB2.out.size _).grown hg3 (by have := HB2.out.size; simp; omega) (fun _ e => by cases e; exact Nat.le_refl _)); clear hO3 hg3))
  go_ret
  exact ⟨⟨w.heap.size, rfl, HO3.out⟩, HB3.out⟩
set_option maxHeartbeats 4000000 in
theorem left_any {A : Option Addr} {n c g B : Nat} {L : List St} (w : World) (hO : OS B w g (n + 1) (L ++ [mk])) (h : Sm w A n c L) :
    Calls Tryd.prog 16 #[.slice (some ⟨g, 0, none⟩) n (n + 1 : Nat), .slice A n c] w fun e w' => e = .returned (.bool true) ∧ Below w.heap.size w w' := by
  have hl := h.len
  have hx : Sm w (some ⟨g, 0, none⟩) n (n + 1) L := by
    have hs := hO.sm (fun s hs => by
      rcases List.mem_append.1 hs with hs | hs
      · exact h.ok s hs
      · obtain rfl : s = mk := (by simpa using hs); exact mk_ok)
    have ht := hs.row.take n
    rw [List.take_left' hl.symm] at ht
    exact ⟨hl, ⟨by omega, hs.cap.2⟩, (fun e => by cases e), ht, h.ok⟩
  have CS := Lib.hid (same_any w hx h)
  rw [show decide (L = L) = true from by simp] at CS
  have hn5 : n + 1 ≤ 9223372036854775807 := by have := hx.cap; unfold maxLen at this; omega
  have HC := Lib.hid (show g < w.heap.size ∧ w.cell? ⟨g, n * 4, none⟩ = some (.int .u8 0) ∧ w.cell? ⟨g, n * 4 + 1, none⟩ = some (.string ⟨#[109, 97, 114, 107]⟩) ∧ w.cell? ⟨g, n * 4 + 2, none⟩ = some (.string ⟨#[]⟩) ∧ w.cell? ⟨g, n * 4 + 3, none⟩ = some (.int .i64 0) from by
    have hc : ∀ j, j < 4 → w.cell? ⟨g, n * 4 + j, none⟩ = (stC mk)[j]? := fun j hj => by
      have e := World.ownsRow.cellAt hO (n * 4 + j) (by rw [List.length_append, ← hl]; simp; omega)
      rw [e]
      exact cel_at (by rw [List.getElem?_append_right (by omega), hl, Nat.sub_self]; rfl) j hj
    exact ⟨hO.lt.2, hc 0 (by omega), hc 1 (by omega), hc 2 (by omega), hc 3 (by omega)⟩)
  have NE := fun w' : World => step_eql mk mk w'
  rw [show decide (mk = mk) = true from by simp] at NE
  have NE : ∀ w', (binOp .eql 32 (.agg #[.int .u8 0, .string ⟨#[109, 97, 114, 107]⟩, .string ⟨#[]⟩, .int .i64 0]) (.agg #[.int .u8 0, .string ⟨#[109, 97, 114, 107]⟩, .string ⟨#[]⟩, .int .i64 0])).run Tryd.prog w' = .ok (.bool true) w' := NE
  have GN := guard_no
  clear hO h hx hl
  go_enter Tryd.func16, Tryd.ntmps16
  go_wp2_with fail
  refine CS.out.mono ?_
  rintro e w2 ⟨rfl, hb⟩
  have c0 := (hb.cell (p := ⟨g, n * 4, none⟩) HC.out.1).trans HC.out.2.1
  have c1 := (hb.cell (p := ⟨g, n * 4 + 1, none⟩) HC.out.1).trans HC.out.2.2.1
  have c2 := (hb.cell (p := ⟨g, n * 4 + 2, none⟩) HC.out.1).trans HC.out.2.2.2.1
  have c3 := (hb.cell (p := ⟨g, n * 4 + 3, none⟩) HC.out.1).trans HC.out.2.2.2.2
  have HB := Lib.hid hb
  clear hb
  go_wp2_with fail
  go_ret
  exact ⟨rfl, HB.out⟩
end Pa
end Go.Proofs.YtoebhnhiljlljaaDoor
