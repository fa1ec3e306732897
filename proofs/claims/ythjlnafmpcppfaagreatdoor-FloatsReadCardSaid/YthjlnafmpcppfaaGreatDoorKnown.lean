/- The program's own knowing of normal forms, walked. -/
import Derived.Test.YthjlnafmpcppfaaGreatDoorText
namespace Go.Proofs.YthjlnafmpcppfaaGreatDoor
open Go.RowKit

theorem fr_rd {l : List UInt8} (h : (rd l).2 = 0) : (trimR (rdD l) = [] ∧ (rd l).1 = [48] ∧ frM l = false ∧ frD l = [48] ∧ frX l = 0) ∨ (trimR (rdD l) ≠ [] ∧ Fine (rdT l) ∧ frM l = decide (bt l 0 = 45) ∧ frD l = rdT l ∧ frX l = rdN l ∧ (rd l).1 = mk (decide (bt l 0 = 45)) (rdT l) (rdN l)) := by
  have hB : isB l = true := by
    cases hB : isB l
    · rw [rd_syntax hB] at h; simp at h
    · rfl
  have hp : (powR l (q4 l) (q5 l)).2 = true := by
    cases hp : (powR l (q4 l) (q5 l)).2
    · rw [rd_exp hB hp] at h; simp at h
    · rfl
  by_cases hK : trimR (rdD l) = []
  · have hT : rdT l = [] := kept_nil.2 hK
    refine Or.inl ⟨hK, by rw [rd_zero hB hp hT], ?_, ?_, ?_⟩
    · unfold frM fmM; rw [if_pos h, if_pos hK]
    · unfold frD fmD; rw [if_pos h, if_pos hK]
    · unfold frX; rw [if_pos h, if_pos hK]
  · have hT : rdT l ≠ [] := fun e => hK (kept_nil.1 e)
    refine Or.inr ⟨hK, rdT_fine hT, ?_, ?_, ?_, ?_⟩
    · unfold frM fmM; rw [if_pos h, if_neg hK]
    · unfold frD fmD; rw [if_pos h, if_neg hK]; rfl
    · unfold frX; rw [if_pos h, if_neg hK]
    · by_cases h4 : rdN l > 1000000000 ∨ rdN l < -1000000000
      · rw [rd_far hB hp hT h4] at h; simp at h
      · rw [rd_ok hB hp hT h4]; simp [mk, sg]
theorem fine_ngt {m : Bool} {T : List UInt8} {N : Int} (h : Fine T) : ngt m T N = false := by
  unfold ngt; exact decide_eq_false (fun h2 => h.ne h2.2.1)
theorem fmt_rd {l : List UInt8} (h : (rd l).2 = 0) : fmt (frM l) (frD l) (frX l) = (rd l).1 := by
  rcases fr_rd h with ⟨_, e, e1, e2, e3⟩ | ⟨_, hF, e1, e2, e3, e⟩
  · rw [e1, e2, e3, e]; rfl
  · rw [e1, e2, e3, e]; unfold fmt; rw [fine_ngt hF, if_neg (by simp)]
theorem pt_none {l : List UInt8} (h : norm l = false) : ptM l = false ∧ ptD l = [] ∧ ptX l = 0 :=
  ⟨by unfold ptM; rw [h]; rfl, by unfold ptD; rw [if_pos h], by unfold ptX; rw [if_pos (Or.inl h)]⟩
theorem nought_parts : ptM [48] = false ∧ ptD [48] = [48] ∧ ptX [48] = 0 :=
  ⟨by unfold ptM; simp, by unfold ptD; rw [if_neg (by rw [norm_nought]; simp), if_pos rfl], by unfold ptX; rw [if_pos (Or.inr rfl)]⟩
theorem fr_norm {l : List UInt8} (h : norm l = true) : frM l = ptM l ∧ frD l = ptD l ∧ frX l = ptX l := by
  have h2 := h
  unfold norm at h2
  simp only [Bool.and_eq_true, decide_eq_true_eq] at h2
  have hX := frX_range l
  rcases fr_rd h2.1 with ⟨_, e, e1, e2, e3⟩ | ⟨_, hF, e1, e2, e3, e⟩
  · have hl : l = [48] := by rw [← h2.2, e]
    subst hl
    obtain ⟨p1, p2, p3⟩ := nought_parts
    exact ⟨by rw [e1, p1], by rw [e2, p2], by rw [e3, p3]⟩
  · rw [h2.2, ← e1, ← e2, ← e3] at e
    rw [← e2] at hF
    have R := rd_mk (frM l) (frX l) hF hX.1 hX.2
    rw [← e] at R
    exact ⟨R.2.2.2.1.symm, R.2.2.2.2.1.symm, R.2.2.2.2.2.symm⟩
/-- A block of three cells that the call has made first, and what lies beside it. -/
structure KS (w : World) (wr : World) : Prop where
  below : Below w.heap.size w wr
  more : w.heap.size < wr.heap.size
  c0 : wr.cell? ⟨w.heap.size, 0, none⟩ = some (.bool false)
  c1 : wr.cell? ⟨w.heap.size, 1, none⟩ = some (.string ⟨#[]⟩)
  c2 : wr.cell? ⟨w.heap.size, 2, none⟩ = some (.int .i64 0)
  f0 : ∀ k, wr.frozen? ⟨w.heap.size, k, none⟩ = false
theorem KS.on {w wr w' : World} (h : KS w wr) (hb : Below wr.heap.size wr w') : KS w w' :=
  ⟨h.below.trans (hb.mono h.below.size), Nat.lt_of_lt_of_le h.more hb.size, (hb.cell (by exact h.more)).trans h.c0, (hb.cell (by exact h.more)).trans h.c1, (hb.cell (by exact h.more)).trans h.c2, fun k => (hb.frozen (by exact h.more)).trans (h.f0 k)⟩
theorem KS.new (w : World) : KS w (w.alloc (fo false ⟨#[]⟩ 0)) :=
  ⟨(Below.refl _ _).alloc (Nat.le_refl _) _, by simp, by simp [go_sem], by simp [go_sem], by simp [go_sem], fun k => by simp [go_sem]⟩
theorem KS.set {w wr : World} (h : KS w wr) (a b c : Value) : Below w.heap.size w (((wr.setCell ⟨w.heap.size, 0, none⟩ a).setCell ⟨w.heap.size, 1, none⟩ b).setCell ⟨w.heap.size, 2, none⟩ c) :=
  ((h.below.setCell (Nat.le_refl _) _).setCell (Nat.le_refl _) _).setCell (Nat.le_refl _) _
theorem KS.cells {w wr : World} (h : KS w wr) (a b c : Value) :
    (((wr.setCell ⟨w.heap.size, 0, none⟩ a).setCell ⟨w.heap.size, 1, none⟩ b).setCell ⟨w.heap.size, 2, none⟩ c).cell? ⟨w.heap.size, 0, none⟩ = some a ∧
    (((wr.setCell ⟨w.heap.size, 0, none⟩ a).setCell ⟨w.heap.size, 1, none⟩ b).setCell ⟨w.heap.size, 2, none⟩ c).cell? ⟨w.heap.size, 1, none⟩ = some b ∧
    (((wr.setCell ⟨w.heap.size, 0, none⟩ a).setCell ⟨w.heap.size, 1, none⟩ b).setCell ⟨w.heap.size, 2, none⟩ c).cell? ⟨w.heap.size, 2, none⟩ = some c := by
  refine ⟨?_, ?_, ?_⟩
  · rw [World.cell?_setCell_other _ _ _ _ (by simp), World.cell?_setCell_other _ _ _ _ (by simp), World.cell?_setCell_same _ _ _ h.c0]
  · rw [World.cell?_setCell_other _ _ _ _ (by simp), World.cell?_setCell_same _ _ _ (by rw [World.cell?_setCell_other _ _ _ _ (by simp)]; exact h.c1)]
  · rw [World.cell?_setCell_same _ _ _ (by rw [World.cell?_setCell_other _ _ _ _ (by simp), World.cell?_setCell_other _ _ _ _ (by simp)]; exact h.c2)]
theorem ret_fb {m m' : Bool} {d d' : ByteArray} {x x' : Int} {c c' : Bool} (h1 : m = m') (h2 : d = d') (h3 : x = x') (h4 : c = c') : Ending.returned (.tuple #[fv m d x, .bool c]) = .returned (.tuple #[fv m' d' x', .bool c']) := by rw [h1, h2, h3, h4]
theorem rd2_is {l : List UInt8} {s : ByteArray} (hs : s = txt l) (hm : l.length ≤ 1000000) {M : Bool} {T : ByteArray} {X c : Int} (h1 : M = frM l) (h2 : T = txt (frD l)) (h3 : X = frX l) (h4 : c = (rd l).2) (w : World) :
    Calls Tryz.prog 31 #[.string s] w fun e w' => e = .returned (.tuple #[fv M T X, .int .i64 c]) ∧ Below w.heap.size w w' := by
  subst h1; subst h2; subst h3; subst h4; exact rd2_any w hs hm
theorem text_is {D : List UInt8} {m : Bool} {d y : ByteArray} {x : Int} (w : World) (ht : Tab w) (hd : d = txt D) (hD : D.length ≤ 3000000) (h1 : -1000000000 ≤ x) (h2 : x ≤ 1000000000) (hy : y = txt (fmt m D x)) :
    Calls Tryz.prog 32 #[fv m d x] w fun e w' => e = .returned (.string y) ∧ Below w.heap.size w w' := by subst hy; exact text_any x w ht hd hD h1 h2
set_option maxHeartbeats 2000000 in
theorem known_any {l : List UInt8} {s : ByteArray} (w : World) (ht : Tab w) (hs : s = txt l) (hm : l.length ≤ 1000000) :
    Calls Tryz.prog 44 #[.string s] w fun e w' => e = .returned (.tuple #[fv (ptM l) (txt (ptD l)) (ptX l), .bool (norm l)]) ∧ Below w.heap.size w w' := by
  obtain ⟨M, hM⟩ : ∃ M, M = frM l := ⟨_, rfl⟩
  obtain ⟨T, hT⟩ : ∃ T, T = txt (frD l) := ⟨_, rfl⟩
  obtain ⟨X, hX⟩ : ∃ X, X = frX l := ⟨_, rfl⟩
  obtain ⟨c, hc⟩ : ∃ c, c = (rd l).2 := ⟨_, rfl⟩
  obtain ⟨y, hy⟩ : ∃ y, y = txt (fmt (frM l) (frD l) (frX l)) := ⟨_, rfl⟩
  have RD := Lib.hid (fun w => rd2_is hs hm hM hT hX hc w)
  have hfx := frX_range l
  have TX := Lib.hid (fun w ht => text_is (m := M) (x := X) (y := y) w ht hT (by have := frD_len l; omega) (by rw [hX]; omega) (by rw [hX]; omega) (by rw [hy, hM, hX]))
  have HC := Lib.hid hc
  have HM := Lib.hid hM
  have HTT := Lib.hid hT
  have HX := Lib.hid hX
  have HYS := Lib.hid (show c = 0 → (y.toList == s.toList) = norm l by
    intro h
    rw [hy, hs, txt_list, txt_list, leq, fmt_rd (by rw [← hc, h])]
    unfold norm; rw [← hc, h]; simp)
  have HN := Lib.hid (show c ≠ 0 → norm l = false by
    intro h; unfold norm; rw [← hc]; simp [h])
  have HT := Lib.hid ht
  clear hM hT hX hc hy hs hm ht hfx
  go_enter Tryz.func44, Tryz.ntmps44
  go_wp2_with fail
  refine (RD.out _).mono ?_
  rintro e w1 ⟨rfl, hb1⟩
  have HK := Lib.hid ((KS.new w).on hb1)
  clear hb1
  by_cases h0 : c = 0
  · subst h0
    have HY2 := Lib.hid (HYS.out rfl)
    go_wp2_with fail
    have HK1 := Lib.hid (HK.out.on ((Below.refl w1.heap.size w1).alloc (Nat.le_refl _) (fo M T X)))
    refine (TX.out _ (HT.out.on HK1.out.below)).mono ?_
    rintro e w2 ⟨rfl, hb2⟩
    have HK2 := Lib.hid (HK1.out.on hb2)
    have n0 : w2.cell? ⟨w1.heap.size, 0, none⟩ = some (.bool M) := (hb2.cell (by simp)).trans (by simp [go_sem])
    have n1 : w2.cell? ⟨w1.heap.size, 1, none⟩ = some (.string T) := (hb2.cell (by simp)).trans (by simp [go_sem])
    have n2 : w2.cell? ⟨w1.heap.size, 2, none⟩ = some (.int .i64 X) := (hb2.cell (by simp)).trans (by simp [go_sem])
    have c0 := HK2.out.c0
    have c1 := HK2.out.c1
    have c2 := HK2.out.c2
    have f0 := HK2.out.f0 0
    have f1 := HK2.out.f0 1
    have f2 := HK2.out.f0 2
    clear hb2 HK HK1
    by_cases hN : norm l = true
    · have hy2 : (y.toList == s.toList) = true := by rw [HY2.out, hN]
      obtain ⟨e1, e2, e3⟩ := fr_norm hN
      have E1 := Lib.hid (show M = ptM l by rw [HM.out, e1])
      have E2 := Lib.hid (show T = txt (ptD l) by rw [HTT.out, e2])
      have E3 := Lib.hid (show X = ptX l by rw [HX.out, e3])
      have E4 := Lib.hid hN
      clear hN e1 e2 e3
      go_wp2_with fail
      obtain ⟨g0, g1, g2⟩ := HK2.out.cells (.bool M) (.string T) (.int .i64 X)
      refine bodyPost_ret (v := .tuple #[fv M T X, .bool true]) (by simp [results, Tryz.results44, go_sem, g0, g1, g2]) rfl ?_
      exact ⟨ret_fb E1.out E2.out E3.out E4.out.symm, HK2.out.set _ _ _⟩
    · have hN : norm l = false := by simpa using hN
      have hy2 : (y.toList == s.toList) = false := by rw [HY2.out, hN]
      obtain ⟨p1, p2, p3⟩ := pt_none hN
      have E1 := Lib.hid p1
      have E2 := Lib.hid p2
      have E3 := Lib.hid p3
      have E4 := Lib.hid hN
      clear hN p1 p2 p3
      go_wp2_with fail
      obtain ⟨g0, g1, g2⟩ := HK2.out.cells (.bool false) (.string ⟨#[]⟩) (.int .i64 0)
      refine bodyPost_ret (v := .tuple #[fv false ⟨#[]⟩ 0, .bool false]) (by simp [results, Tryz.results44, go_sem, g0, g1, g2]) rfl ?_
      exact ⟨ret_fb E1.out.symm (by rw [E2.out]; rfl) E3.out.symm E4.out.symm, HK2.out.set _ _ _⟩
  · have hN := HN.out h0
    obtain ⟨p1, p2, p3⟩ := pt_none hN
    have E1 := Lib.hid p1
    have E2 := Lib.hid p2
    have E3 := Lib.hid p3
    have E4 := Lib.hid hN
    have h0' : (c != 0) = true := by simpa using h0
    clear hN p1 p2 p3 HYS HN TX RD
    have HK1 := Lib.hid (HK.out.on ((Below.refl w1.heap.size w1).alloc (Nat.le_refl _) (fo M T X)))
    have c0 := HK1.out.c0
    have c1 := HK1.out.c1
    have c2 := HK1.out.c2
    have f0 := HK1.out.f0 0
    have f1 := HK1.out.f0 1
    have f2 := HK1.out.f0 2
    clear HK h0
    go_wp2_with fail
    obtain ⟨g0, g1, g2⟩ := HK1.out.cells (.bool false) (.string ⟨#[]⟩) (.int .i64 0)
    refine bodyPost_ret (v := .tuple #[fv false ⟨#[]⟩ 0, .bool false]) (by simp [results, Tryz.results44, go_sem, g0, g1, g2]) rfl ?_
    exact ⟨ret_fb E1.out.symm (by rw [E2.out]; rfl) E3.out.symm E4.out.symm, HK1.out.set _ _ _⟩
end Go.Proofs.YthjlnafmpcppfaaGreatDoor
