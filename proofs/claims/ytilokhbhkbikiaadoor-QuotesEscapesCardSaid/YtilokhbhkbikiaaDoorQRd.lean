/- The program's own reading of a string. -/
import Derived.Test.YtilokhbhkbikiaaDoorWhl
import Derived.Test.YtilokhbhkbikiaaDoorConv
import Derived.PlainAid
namespace Go.Proofs.YtilokhbhkbikiaaDoor
open Go.RowKit

/-- What a reading answers. -/
def rval : Qu.Res → Value
  | .ok t => .tuple #[.string (txt t), .agg #[.int .i64 0, .int .i64 0]]
  | .bad hf a => .tuple #[.string ⟨#[]⟩, .agg #[.int .i64 (if hf = true then 6 else 3), .int .i64 (a : Int)]]
theorem cell_old {W w : World} (h : Below W.heap.size W w) {F i : Nat} {v : Value} (hF : F < W.heap.size) (hc : W.cell? ⟨F, i, none⟩ = some v) : w.cell? ⟨F, i, none⟩ = some v := (h.cell (p := ⟨F, i, none⟩) hF).trans hc
theorem free_old {W w : World} (h : Below W.heap.size W w) {F i : Nat} (hF : F < W.heap.size) (hc : W.frozen? ⟨F, i, none⟩ = false) : w.frozen? ⟨F, i, none⟩ = false := by
  rw [← hc]
  simp only [World.frozen?]
  rw [h.block F hF]
theorem below_of {w w' : World} {o : Obj} (h : Below (w.alloc o).heap.size (w.alloc o) w') : Below w.heap.size w w' :=
  ((Below.refl _ _).alloc (Nat.le_refl _) o).trans (h.mono (by simp))
set_option maxHeartbeats 2000000 in
theorem qread_any {l : List UInt8} {s : ByteArray} (w : World) (hs : s = txt l) (hl : l.length ≤ 1000000) (hH : Heads w) (hS : Shorts w) (hz : 1 < w.heap.size) :
    Calls Tryd.prog 9 #[.string s] w fun e w' => e = .returned (rval (Qu.rdq l)) ∧ Below w.heap.size w w' := by
  obtain ⟨i0, hi, hz0, hz1, hz2⟩ := info_parts (show (Tryd.prog.info? 5).map (fun i => (i.zero, i.size, i.bytes)) = some (some (.int .u8 0), 1, 1) by kernel_rfl)
  obtain ⟨W, HW⟩ : ∃ W, W = w.alloc (.cells #[.int .i64 0, .int .i64 0] 26) := ⟨_, rfl⟩
  have hb0 : Below w.heap.size w W := by rw [HW]; exact (Below.refl _ _).alloc (Nat.le_refl _) _
  have hWs : W.heap.size = w.heap.size + 1 := by rw [HW]; simp
  have HH := Lib.hid (hH.below hb0 hz)
  have HSh := Lib.hid (hS.old (by omega) hb0)
  have HZ := Lib.hid (show 1 < W.heap.size by omega)
  have f0 : W.cell? ⟨w.heap.size, 0, none⟩ = some (.int .i64 0) := by rw [HW, World.cell?_alloc_at _ _ _ _ rfl]; rfl
  have f1 : W.cell? ⟨w.heap.size, 1, none⟩ = some (.int .i64 0) := by rw [HW, World.cell?_alloc_at _ _ _ _ rfl]; rfl
  have g0 : W.frozen? ⟨w.heap.size, 0, none⟩ = false := by rw [HW]; exact World.frozen?_alloc_new _ _ _ _
  have g1 : W.frozen? ⟨w.heap.size, 1, none⟩ = false := by rw [HW]; exact World.frozen?_alloc_new _ _ _ _
  have HF := Lib.hid (show w.heap.size < W.heap.size by omega)
  have HF0 := Lib.hid f0
  have HF1 := Lib.hid f1
  have HG0 := Lib.hid g0
  have HG1 := Lib.hid g1
  have HB := Lib.hid (show ∀ w', Below W.heap.size W w' → Below w.heap.size w w' by rw [HW]; exact fun w' h => below_of h)
  have HS := Lib.hid hs
  have HL := Lib.hid hl
  have hsz : s.size ≤ 1000000 := by rw [hs, txt_size]; exact hl
  have HWW := Lib.hid HW
  have hbase : W.heap.size ≤ (w.alloc (.cells #[.int .i64 0, .int .i64 0] 26)).heap.size := by rw [HW]; exact Nat.le_refl _
  clear hs hl hH hS hz hb0 hWs f0 f1 g0 g1 HW
  go_enter Tryd.func9, Tryd.ntmps9
  go_wp2_with (at_make; refine wpList_make_own _ rfl _ _ 34 rfl W.heap.size 5 i0 (.int .u8 0) 1 Tryd.underlying34 hi hz0 hz1 .i64 .i64 _ s.size rfl rfl rfl (by rw [hz2]; omega) (by unfold maxLen; omega) hbase ?_; intro w1 hown1 hg1; rw [← HWW.out] at hg1)
  have R0 : RS W w1.heap.size s (w1.alloc (rdo s 0 (.slice (some ⟨w.heap.size + 1, 0, none⟩) 0 s.size))) (0 : Nat) [] := by
    refine ⟨((Below.refl _ _).grown hg1 (Nat.le_refl _) (fun _ h => by cases h)).alloc hg1.size _, hg1.size, _, ?_, World.ownsRow.alloc (by rw [HWW.out, show (w.alloc (.cells #[.int .i64 0, .int .i64 0] 26)).heap.size = w.heap.size + 1 by simp] at hown1; rw [HWW.out, show (w.alloc (.cells #[.int .i64 0, .int .i64 0] 26)).heap.size = w.heap.size + 1 by simp]; exact hown1) _⟩
    exact heap_alloc_new _ _
  have HR0 := Lib.hid R0
  clear R0 hown1 hg1 hbase
  refine (whole_any HR0.out HS.out HL.out HH.out HSh.out HZ.out).mono ?_
  rintro e w4 (⟨t, g1, rfl, p, R4⟩ | ⟨hf, a, t, g1, rfl, R4⟩)
  · have G1 := Lib.hid g1
    have HR4 := Lib.hid R4
    obtain ⟨r1, _, v, h3, h4⟩ := R4
    obtain ⟨A, c, rfl, o1, o2, o3, o4, o5⟩ := own_form h4
    obtain ⟨c0, c1, c2, _⟩ := rd_cells h3
    have hcv := conv_bytes (w := w4) t.length c rfl o4
    have d0 := cell_old r1 HF.out HF0.out
    have d1 := cell_old r1 HF.out HF1.out
    have e0 := free_old r1 HF.out HG0.out
    have e1 := free_old r1 HF.out HG1.out
    obtain ⟨S, HSS⟩ : ∃ S, Hid (S = txt t) := ⟨_, rfl⟩
    rw [← HSS.out] at hcv
    have HB2 := Lib.hid (HB.out w4 r1)
    clear g1 r1 h3 h4 o1 o2 o3 o4 o5
    go_wp2_with fail
    refine bodyPost_ret (v := .tuple #[.string S, .agg #[.int .i64 0, .int .i64 0]]) (by simp [results, Tryd.results9, go_sem, *]) rfl ?_
    refine ⟨by rw [G1.out, rval, HSS.out], ?_⟩
    exact (HB2.out.setCell (Nat.le_refl _) _).setCell (Nat.le_refl _) _
  · have G1 := Lib.hid g1
    obtain ⟨r1, _, v, h3, h4⟩ := R4
    obtain ⟨c0, c1, c2, _⟩ := rd_cells h3
    have d0 := cell_old r1 HF.out HF0.out
    have d1 := cell_old r1 HF.out HF1.out
    have e0 := free_old r1 HF.out HG0.out
    have e1 := free_old r1 HF.out HG1.out
    have HB2 := Lib.hid (HB.out w4 r1)
    clear g1 r1 h3 h4
    cases hf
    · go_wp2_with fail
      go_region
      all_goals go_wp2_with fail
      all_goals refine bodyPost_ret (v := .tuple #[.string ⟨#[]⟩, .agg #[.int .i64 3, .int .i64 a]]) (by simp [results, Tryd.results9, go_sem, *]) rfl ?_
      all_goals refine ⟨by rw [G1.out, rval]; rfl, ?_⟩
      all_goals exact ((HB2.out.setCell (Nat.le_refl _) _).setCell (Nat.le_refl _) _).drew
    · go_wp2_with fail
      go_region
      all_goals go_wp2_with fail
      all_goals refine bodyPost_ret (v := .tuple #[.string ⟨#[]⟩, .agg #[.int .i64 6, .int .i64 a]]) (by simp [results, Tryd.results9, go_sem, *]) rfl ?_
      all_goals refine ⟨by rw [G1.out, rval]; rfl, ?_⟩
      all_goals exact ((HB2.out.setCell (Nat.le_refl _) _).setCell (Nat.le_refl _) _).drew
end Go.Proofs.YtilokhbhkbikiaaDoor
