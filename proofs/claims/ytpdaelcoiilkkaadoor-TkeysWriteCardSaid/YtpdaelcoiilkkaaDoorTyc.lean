/- What landed of TOML's keys: a word that begins at a place: a bare one, a basic string, or none. -/
import Derived.Test.YtpdaelcoiilkkaaDoorTyb
import Derived.Deep.DeepCutAuto
import Derived.Deep.CutBlock
import Derived.Deep.CutRange
namespace Go.Proofs.YtpdaelcoiilkkaaDoor
open Go.RowKit
namespace Ty

abbrev ftO : Obj := .cells #[.int .i64 0, .int .i64 0] 29
section
variable {l : Bs} {s : ByteArray} {p e : Nat}
set_option maxHeartbeats 4000000 in
set_option maxRecDepth 100000 in
theorem word_bare (w : World) (hs : s = txt l) (hl : l.length ≤ 1000000) (hp : p ≤ l.length) (he : endP plK l p = e) (hpe : p < e) (hel : e ≤ l.length) {x : ByteArray} (hx : x = txt ((l.take e).drop p)) :
    Calls Tryd.prog 23 #[.string s, .int .i64 p] w fun en w' => en = .returned (.tuple #[.string x, .int .i64 e, .agg #[.int .i64 0, .int .i64 0]]) ∧ Below w.heap.size w w' := by
  have C1 := Lib.hid (fun w => past_in hs hl hp w (I := p) (R := e) rfl (by rw [he]))
  have hsz : s.size = l.length := by rw [hs, txt_size]
  have hes : (e : Int) ≤ s.size := by omega
  have hss : s.size ≤ 1000000 := by omega
  have HX := Lib.hid (show s.extract p e = x by rw [hs, txt_cut, ← hx])
  have HXS := Lib.hid (show x.size ≤ 1000000 by rw [hx, txt_size]; simp; omega)
  have hlt : (p : Int) < e := by omega
  obtain ⟨W, hW⟩ : ∃ W, W = w.alloc ftO := ⟨_, rfl⟩
  have HFC := Lib.hid (show FC w W w.heap.size by rw [hW]; exact FC.new w)
  have HW0 := Lib.hid (show Below w.heap.size w W by rw [hW]; exact (Below.refl _ _).alloc (Nat.le_refl _) _)
  clear hs hl hp he hel hx hsz
  go_enter Tryd.func23, Tryd.ntmps23
  go_upto_region 1 with fail
  rw [← hW]
  clear hW
  go_wp2_with fail
  refine (C1.out _).mono ?_
  rintro en w1 ⟨rfl, rfl⟩
  go_wp2_with fail
  rw [HX.out]
  refine (clone_any x _ HXS.out).mono ?_
  rintro en w2 ⟨rfl, hb⟩
  have d0 := cell_old hb HFC.out.lt HFC.out.c0
  have d1 := cell_old hb HFC.out.lt HFC.out.c1
  have e0 := free_old hb HFC.out.lt HFC.out.f0
  have e1 := free_old hb HFC.out.lt HFC.out.f1
  have HB := Lib.hid (below_tr HW0.out hb)
  clear hb
  go_wp2_with fail
  refine bodyPost_ret (v := .tuple #[.string x, .int .i64 e, .agg #[.int .i64 0, .int .i64 0]]) (by simp [results, Tryd.results23, go_sem, *]) rfl ?_
  exact ⟨rfl, (HB.out.setCell (Nat.le_refl _) _).setCell (Nat.le_refl _) _⟩
set_option maxHeartbeats 4000000 in
set_option maxRecDepth 100000 in
/-- No bare word stands there, and no long string: as tquotes reads it. -/
theorem word_not (w : World) (hs : s = txt l) (hl : l.length ≤ 1000000) (hp : p ≤ l.length) (he : endP plK l p = p) {t : ByteArray} {k c a : Int}
    (hL : ∀ w, Calls Tryd.prog 42 #[.string s, .int .i64 p] w fun e w' => e = .returned (.bool false) ∧ Below w.heap.size w w')
    (hR : ∀ w1, Below w.heap.size w w1 → Calls Tryd.prog 21 #[.string s, .int .i64 p] w1 fun e w' => e = .returned (.tuple #[.string t, .int .i64 k, .agg #[.int .i64 c, .int .i64 a]]) ∧ Below w1.heap.size w1 w') :
    Calls Tryd.prog 23 #[.string s, .int .i64 p] w fun en w' => en = .returned (.tuple #[.string t, .int .i64 k, .agg #[.int .i64 c, .int .i64 a]]) ∧ Below w.heap.size w w' := by
  have C1 := Lib.hid (fun w => past_in hs hl hp w (I := p) (R := p) rfl (by rw [he]))
  have HLG := Lib.hid hL
  have HRD := Lib.hid hR
  have hlt : ¬ (p : Int) < p := by omega
  obtain ⟨W, hW⟩ : ∃ W, W = w.alloc ftO := ⟨_, rfl⟩
  have HFC := Lib.hid (show FC w W w.heap.size by rw [hW]; exact FC.new w)
  have HW0 := Lib.hid (show Below w.heap.size w W by rw [hW]; exact (Below.refl _ _).alloc (Nat.le_refl _) _)
  clear hs hl hp he hL hR
  go_enter Tryd.func23, Tryd.ntmps23
  go_upto_region 1 with fail
  rw [← hW]
  clear hW
  go_wp2_with fail
  refine (C1.out _).mono ?_
  rintro en w1 ⟨rfl, rfl⟩
  go_wp2_with fail
  refine (HLG.out _).mono ?_
  rintro en w2 ⟨rfl, hb2⟩
  have HB2 := Lib.hid (below_tr HW0.out hb2)
  have HG2 := Lib.hid hb2
  clear hb2
  go_wp2_with fail
  refine (HRD.out _ HB2.out).mono ?_
  rintro en w3 ⟨rfl, hb3⟩
  have HB3 := Lib.hid (below_tr HB2.out hb3)
  have hg3 := below_tr HG2.out hb3
  have d0 := cell_old hg3 HFC.out.lt HFC.out.c0
  have d1 := cell_old hg3 HFC.out.lt HFC.out.c1
  have e0 := free_old hg3 HFC.out.lt HFC.out.f0
  have e1 := free_old hg3 HFC.out.lt HFC.out.f1
  clear hg3 hb3
  go_wp2_with fail
  refine bodyPost_ret (v := .tuple #[.string t, .int .i64 k, .agg #[.int .i64 c, .int .i64 a]]) (by simp [results, Tryd.results23, go_sem, *]) rfl ?_
  exact ⟨rfl, (HB3.out.setCell (Nat.le_refl _) _).setCell (Nat.le_refl _) _⟩
set_option maxHeartbeats 1000000 in
theorem blanks_any (w : World) (hs : s = txt l) (hl : l.length ≤ 1000000) (hp : p ≤ l.length) {R : Int} (hR : R = (endP blK l p : Nat)) :
    Calls Tryd.prog 12 #[.string s, .int .i64 p] w fun en w' => en = .returned (.int .i64 R) ∧ w = w' := by
  have C1 := Lib.hid (fun w => past_bl hs hl hp w (I := p) (R := R) rfl hR)
  clear hs hl hp hR
  go_enter Tryd.func12, Tryd.ntmps12
  go_wp2_with fail
  refine (C1.out _).mono ?_
  rintro en w1 ⟨rfl, rfl⟩
  go_wp2_with fail
  go_ret
  exact ⟨rfl, rfl⟩
end
theorem clipT_any (A : Option Addr) (n c : Nat) (w : World) (h : n ≤ c) (_hc : c ≤ maxLen) : Calls Tryd.prog 24 #[.slice A n c] w fun en w' => en = .returned (.slice A n n) ∧ w = w' := by
  unfold maxLen at _hc
  go_enter Tryd.func24, Tryd.ntmps24
  go_wp2_with fail
  go_ret
  exact ⟨rfl, rfl⟩
theorem clipS_any (A : Option Addr) (n c : Nat) (w : World) (h : n ≤ c) (_hc : c ≤ maxLen) : Calls Tryd.prog 25 #[.slice A n c] w fun en w' => en = .returned (.slice A n n) ∧ w = w' := by
  unfold maxLen at _hc
  go_enter Tryd.func25, Tryd.ntmps25
  go_wp2_with fail
  go_ret
  exact ⟨rfl, rfl⟩
end Ty
end Go.Proofs.YtpdaelcoiilkkaaDoor
