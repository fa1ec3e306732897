/- The program's own Read and Parts, walked. -/
import Derived.Test.YthjlnafmpcppfaaGreatDoorKnown
namespace Go.Proofs.YthjlnafmpcppfaaGreatDoor
open Go.RowKit

theorem rd_none {l : List UInt8} (h : (rd l).2 ≠ 0) : (rd l).1 = [] := by
  unfold rd at *
  split
  · rfl
  · rename_i h1; rw [if_neg h1] at h
    split
    · rfl
    · rename_i h2; rw [if_neg h2] at h
      split
      · rename_i h3; rw [if_pos h3] at h; exact absurd rfl h
      · rename_i h3; rw [if_neg h3] at h
        split
        · rfl
        · rename_i h4; rw [if_neg h4] at h; exact absurd rfl h
set_option maxHeartbeats 1000000 in
theorem dread_any {l : List UInt8} {s : ByteArray} (w : World) (ht : Tab w) (hs : s = txt l) (hm : l.length ≤ 1000000) :
    Calls Tryz.prog 15 #[.string s] w fun e w' => e = .returned (.tuple #[.string (txt (rd l).1), .int .i64 (rd l).2]) ∧ Below w.heap.size w w' := by
  obtain ⟨M, hM⟩ : ∃ M, M = frM l := ⟨_, rfl⟩
  obtain ⟨T, hT⟩ : ∃ T, T = txt (frD l) := ⟨_, rfl⟩
  obtain ⟨X, hX⟩ : ∃ X, X = frX l := ⟨_, rfl⟩
  obtain ⟨c, hc⟩ : ∃ c, c = (rd l).2 := ⟨_, rfl⟩
  obtain ⟨y, hy⟩ : ∃ y, y = txt (fmt (frM l) (frD l) (frX l)) := ⟨_, rfl⟩
  have RD := Lib.hid (fun w => rd2_is hs hm hM hT hX hc w)
  have hfx := frX_range l
  have TX := Lib.hid (fun w ht => text_is (m := M) (x := X) (y := y) w ht hT (by have := frD_len l; omega) (by rw [hX]; omega) (by rw [hX]; omega) (by rw [hy, hM, hX]))
  have HC := Lib.hid hc
  have HY := Lib.hid (show c = 0 → y = txt (rd l).1 by intro h; rw [hy, fmt_rd (by rw [← hc, h])])
  have HN := Lib.hid (show c ≠ 0 → (rd l).1 = [] by intro h; exact rd_none (by rw [← hc]; exact h))
  have HT := Lib.hid ht
  clear hM hT hX hc hy hs hm ht hfx
  go_enter Tryz.func15, Tryz.ntmps15
  go_wp2_with fail
  refine (RD.out _).mono ?_
  rintro e w1 ⟨rfl, hb1⟩
  have HB := Lib.hid (hb1.alloc hb1.size (fo M T X))
  clear hb1
  by_cases h0 : c = 0
  · subst h0
    have E := Lib.hid (HY.out rfl)
    have E2 := Lib.hid HC.out
    go_wp2_with fail
    refine (TX.out _ (HT.out.on HB.out)).mono ?_
    rintro e w2 ⟨rfl, hb2⟩
    have HB2 := Lib.hid (HB.out.trans (hb2.mono HB.out.size))
    clear hb2
    go_wp2_with fail
    go_ret2
    exact ⟨ret_sc E.out E2.out, HB2.out⟩
  · have E := Lib.hid (HN.out h0)
    have h0' : (c != 0) = true := by simpa using h0
    clear h0
    go_wp2_with fail
    go_ret2
    exact ⟨ret_sc (by rw [E.out]; rfl) HC.out, HB.out⟩
theorem clone_any (s : ByteArray) (w : World) (h : s.size ≤ 281474976710656) :
    Calls Tryz.prog 45 #[.string s] w fun e w' => e = .returned (.string s) ∧ Below w.heap.size w w' := by
  have C := Lib.hid (fun w => Tryz.stringslite_Clone s w h)
  go_enter Tryz.func45, Tryz.ntmps45
  go_wp2_with fail
  refine (C.out _).mono ?_
  rintro e w1 ⟨rfl, hb⟩
  go_wp2_with fail
  go_ret
  exact ⟨rfl, hb⟩
/-- A form in a block of its own. -/
structure PS (w : World) (b : Nat) (M : Bool) (T : ByteArray) (X : Int) (wr : World) : Prop where
  below : Below w.heap.size w wr
  more : b < wr.heap.size
  c0 : wr.cell? ⟨b, 0, none⟩ = some (.bool M)
  c1 : wr.cell? ⟨b, 1, none⟩ = some (.string T)
  c2 : wr.cell? ⟨b, 2, none⟩ = some (.int .i64 X)
theorem PS.on {w : World} {b : Nat} {M : Bool} {T : ByteArray} {X : Int} {wr w' : World} (h : PS w b M T X wr) (hb : Below wr.heap.size wr w') : PS w b M T X w' :=
  ⟨h.below.trans (hb.mono h.below.size), Nat.lt_of_lt_of_le h.more hb.size, (hb.cell (by exact h.more)).trans h.c0, (hb.cell (by exact h.more)).trans h.c1, (hb.cell (by exact h.more)).trans h.c2⟩
theorem PS.drew {w : World} {b : Nat} {M : Bool} {T : ByteArray} {X : Int} {wr : World} (h : PS w b M T X wr) : PS w b M T X wr.drew := h.on ((Below.refl _ _).drew)
theorem PS.new {w w1 : World} (hb : Below w.heap.size w w1) (M : Bool) (T : ByteArray) (X : Int) : PS w w1.heap.size M T X (w1.alloc (fo M T X)) :=
  ⟨hb.alloc hb.size _, by simp, by simp [go_sem], by simp [go_sem], by simp [go_sem]⟩
theorem known_is {l : List UInt8} {s : ByteArray} (hs : s = txt l) (hm : l.length ≤ 1000000) {M ok : Bool} {T : ByteArray} {X : Int} (h1 : M = ptM l) (h2 : T = txt (ptD l)) (h3 : X = ptX l) (h4 : ok = norm l) (w : World) (ht : Tab w) :
    Calls Tryz.prog 44 #[.string s] w fun e w' => e = .returned (.tuple #[fv M T X, .bool ok]) ∧ Below w.heap.size w w' := by
  subst h1; subst h2; subst h3; subst h4; exact known_any w ht hs hm
set_option maxHeartbeats 1000000 in
theorem dparts_any {l : List UInt8} {s : ByteArray} (w : World) (ht : Tab w) (hs : s = txt l) (hm : l.length ≤ 1000000) :
    Calls Tryz.prog 27 #[.string s] w fun e w' => e = .returned (four (ptM l) (txt (ptD l)) (ptX l) (norm l)) ∧ Below w.heap.size w w' := by
  obtain ⟨M, hM⟩ : ∃ M, M = ptM l := ⟨_, rfl⟩
  obtain ⟨T, hT⟩ : ∃ T, T = txt (ptD l) := ⟨_, rfl⟩
  obtain ⟨X, hX⟩ : ∃ X, X = ptX l := ⟨_, rfl⟩
  obtain ⟨ok, hok⟩ : ∃ c, c = norm l := ⟨_, rfl⟩
  have KN := Lib.hid (fun w ht => known_is hs hm hM hT hX hok w ht)
  have hts : T.size ≤ 1000001 := by rw [hT, txt_size]; have := ptD_len l; omega
  have CL := Lib.hid (fun w => clone_any T w (by omega))
  have HT := Lib.hid ht
  rw [← hM, ← hT, ← hX, ← hok]
  clear hM hT hX hok hs hm ht
  go_enter Tryz.func27, Tryz.ntmps27
  go_wp2_with fail
  refine (KN.out _ HT.out).mono ?_
  rintro e w1 ⟨rfl, hb1⟩
  have HP := Lib.hid (PS.new hb1 M T X)
  obtain ⟨b, hb⟩ : ∃ b, b = w1.heap.size := ⟨_, rfl⟩
  have HB := Lib.hid hb
  clear hb1 hb
  go_upto_region 2 with fail
  obtain ⟨W, hW⟩ : ∃ W, W = w1.alloc (fo M T X) := ⟨_, rfl⟩
  rw [← hW, ← HB.out]
  have hS : PS w b M T X W := by rw [HB.out, hW]; exact HP.out
  have hc0 := hS.c0
  have hc1 := hS.c1
  have hc2 := hS.c2
  clear hW HP HB
  go_region_held3 (fun wx => PS w b M T X wx ∧ wx.cell? ⟨b, 0, none⟩ = some (.bool M) ∧ wx.cell? ⟨b, 1, none⟩ = some (.string T) ∧ wx.cell? ⟨b, 2, none⟩ = some (.int .i64 X))
    (((try go_split_ands); refine (fun h => ⟨h, h.c0, h.c1, h.c2⟩) ?_; first | assumption | exact PS.drew (by assumption) | (refine PS.on ?_ hb; assumption)))
    ((go_at_call 45; refine (CL.out _).mono ?_; rintro e w1 ⟨rfl, hb⟩))
  rename_i hS2
  go_wp2_with fail
  refine bodyPost_ret (v := four M T X ok) (by simp [results, Tryz.results27, go_sem]) rfl ?_
  exact ⟨rfl, hS2.1.below⟩
end Go.Proofs.YthjlnafmpcppfaaGreatDoor
