/- The program's own Read of a decimal, walked. -/
import Derived.Test.YtggeiajbcehkjaaGreatDoorGal
namespace Go.Proofs.YtggeiajbcehkjaaGreatDoor.De
open Go.RowKit

theorem fr_rd {l : List UInt8} (h : (rd l).2 = 0) : (trimR (rdD l) = [] ∧ (rd l).1 = [48] ∧ frM l = false ∧ frD l = [48] ∧ frX l = 0) ∨ (trimR (rdD l) ≠ [] ∧ Fine (rdT l) ∧ frM l = decide (bt l 0 = 45) ∧ frD l = rdT l ∧ frX l = rdN l ∧ (rd l).1 = mk (decide (bt l 0 = 45)) (rdT l) (rdN l)) := by
  have hB : isB l = true := by
    cases hB : isB l
    · rw [rd_syntax hB] at h; simp at h
    · rfl
  have hp : (powR l (q4 l) (q5 l)).2 = true := by
    cases hp : (powR l (q4 l) (q5 l)).2
    · rw [rd_exp hB hp] at h; simp at h
    · rfl
  by_cases hK : trimR (rdD l) = []
  · have hT : rdT l = [] := kept_nil.2 hK
    refine Or.inl ⟨hK, by rw [rd_zero hB hp hT], ?_, ?_, ?_⟩
    · unfold frM fmM; rw [if_pos h, if_pos hK]
    · unfold frD fmD; rw [if_pos h, if_pos hK]
    · unfold frX; rw [if_pos h, if_pos hK]
  · have hT : rdT l ≠ [] := fun e => hK (kept_nil.1 e)
    refine Or.inr ⟨hK, rdT_fine hT, ?_, ?_, ?_, ?_⟩
    · unfold frM fmM; rw [if_pos h, if_neg hK]
    · unfold frD fmD; rw [if_pos h, if_neg hK]; rfl
    · unfold frX; rw [if_pos h, if_neg hK]
    · by_cases h4 : rdN l > 1000000000 ∨ rdN l < -1000000000
      · rw [rd_far hB hp hT h4] at h; simp at h
      · rw [rd_ok hB hp hT h4]; simp [mk, sg]
theorem fine_ngt {m : Bool} {T : List UInt8} {N : Int} (h : Fine T) : ngt m T N = false := by
  unfold ngt; exact decide_eq_false (fun h2 => h.ne h2.2.1)
theorem fmt_rd {l : List UInt8} (h : (rd l).2 = 0) : fmt (frM l) (frD l) (frX l) = (rd l).1 := by
  rcases fr_rd h with ⟨_, e, e1, e2, e3⟩ | ⟨_, hF, e1, e2, e3, e⟩
  · rw [e1, e2, e3, e]; rfl
  · rw [e1, e2, e3, e]; unfold fmt; rw [fine_ngt hF, if_neg (by simp)]
theorem rd2_is {l : List UInt8} {s : ByteArray} (hs : s = txt l) (hm : l.length ≤ 1000000) {M : Bool} {T : ByteArray} {X c : Int} (h1 : M = frM l) (h2 : T = txt (frD l)) (h3 : X = frX l) (h4 : c = (rd l).2) (w : World) :
    Calls Tryz.prog 177 #[.string s] w fun e w' => e = .returned (.tuple #[fv M T X, .int .i64 c]) ∧ Below w.heap.size w w' := by
  subst h1; subst h2; subst h3; subst h4; exact rd2_any w hs hm
theorem text_is {D : List UInt8} {m : Bool} {d y : ByteArray} {x : Int} (w : World) (ht : Tab w) (hd : d = txt D) (hD : D.length ≤ 3000000) (h1 : -1000000000 ≤ x) (h2 : x ≤ 1000000000) (hy : y = txt (fmt m D x)) :
    Calls Tryz.prog 178 #[fv m d x] w fun e w' => e = .returned (.string y) ∧ Below w.heap.size w w' := by subst hy; exact text_any x w ht hd hD h1 h2
theorem rd_none {l : List UInt8} (h : (rd l).2 ≠ 0) : (rd l).1 = [] := by
  unfold rd at *
  split
  · rfl
  · rename_i h1; rw [if_neg h1] at h
    split
    · rfl
    · rename_i h2; rw [if_neg h2] at h
      split
      · rename_i h3; rw [if_pos h3] at h; exact absurd rfl h
      · rename_i h3; rw [if_neg h3] at h
        split
        · rfl
        · rename_i h4; rw [if_neg h4] at h; exact absurd rfl h
set_option maxHeartbeats 1000000 in
theorem dread_any {l : List UInt8} {s : ByteArray} (w : World) (ht : Tab w) (hs : s = txt l) (hm : l.length ≤ 1000000) :
    Calls Tryz.prog 144 #[.string s] w fun e w' => e = .returned (.tuple #[.string (txt (rd l).1), .int .i64 (rd l).2]) ∧ Below w.heap.size w w' := by
  obtain ⟨M, hM⟩ : ∃ M, M = frM l := ⟨_, rfl⟩
  obtain ⟨T, hT⟩ : ∃ T, T = txt (frD l) := ⟨_, rfl⟩
  obtain ⟨X, hX⟩ : ∃ X, X = frX l := ⟨_, rfl⟩
  obtain ⟨c, hc⟩ : ∃ c, c = (rd l).2 := ⟨_, rfl⟩
  obtain ⟨y, hy⟩ : ∃ y, y = txt (fmt (frM l) (frD l) (frX l)) := ⟨_, rfl⟩
  have RD := Lib.hid (fun w => rd2_is hs hm hM hT hX hc w)
  have hfx := frX_range l
  have TX := Lib.hid (fun w ht => text_is (m := M) (x := X) (y := y) w ht hT (by have := frD_len l; omega) (by rw [hX]; omega) (by rw [hX]; omega) (by rw [hy, hM, hX]))
  have HC := Lib.hid hc
  have HY := Lib.hid (show c = 0 → y = txt (rd l).1 by intro h; rw [hy, fmt_rd (by rw [← hc, h])])
  have HN := Lib.hid (show c ≠ 0 → (rd l).1 = [] by intro h; exact rd_none (by rw [← hc]; exact h))
  have HT := Lib.hid ht
  clear hM hT hX hc hy hs hm ht hfx
  go_enter Tryz.func144, Tryz.ntmps144
  go_wp2_with fail
  refine (RD.out _).mono ?_
  rintro e w1 ⟨rfl, hb1⟩
  have HB := Lib.hid (hb1.alloc hb1.size (fo M T X))
  clear hb1
  by_cases h0 : c = 0
  · subst h0
    have E := Lib.hid (HY.out rfl)
    have E2 := Lib.hid HC.out
    go_wp2_with fail
    refine (TX.out _ (HT.out.on HB.out)).mono ?_
    rintro e w2 ⟨rfl, hb2⟩
    have HB2 := Lib.hid (HB.out.trans (hb2.mono HB.out.size))
    clear hb2
    go_wp2_with fail
    go_ret2
    exact ⟨ret_sc E.out E2.out, HB2.out⟩
  · have E := Lib.hid (HN.out h0)
    have h0' : (c != 0) = true := by simpa using h0
    clear h0
    go_wp2_with fail
    go_ret2
    exact ⟨ret_sc (by rw [E.out]; rfl) HC.out, HB.out⟩
end Go.Proofs.YtggeiajbcehkjaaGreatDoor.De
