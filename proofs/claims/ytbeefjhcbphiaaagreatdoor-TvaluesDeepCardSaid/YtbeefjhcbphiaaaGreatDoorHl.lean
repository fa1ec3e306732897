/- TOML's strings, where none begins; a basic one is no long one; a text's clone. -/
import Derived.Test.YtbeefjhcbphiaaaGreatDoorHk
import Derived.Test.YtbeefjhcbphiaaaGreatDoorShelfm
import Derived.Deep.DeepCutAuto
import Derived.Deep.CutBlock
import Derived.Deep.CutRange
namespace Go.Proofs.YtbeefjhcbphiaaaGreatDoor
open Go.RowKit
namespace Ty

theorem ta_ba_lb (a : Option Addr) (w : World) : (Instr.typeAssert (.iface 191 (.pointer a)) 172 182 true).run Tryz.prog w = .ok (.tuple #[.pointer none, .bool false]) w := by kernel_rfl
theorem ta_ba_ll (a : Option Addr) (w : World) : (Instr.typeAssert (.iface 191 (.pointer a)) 172 189 true).run Tryz.prog w = .ok (.tuple #[.pointer none, .bool false]) w := by kernel_rfl
theorem ta_no_lb (w : World) : (Instr.typeAssert .nilIface 172 182 true).run Tryz.prog w = .ok (.tuple #[.pointer none, .bool false]) w := by kernel_rfl
theorem ta_no_ll (w : World) : (Instr.typeAssert .nilIface 172 189 true).run Tryz.prog w = .ok (.tuple #[.pointer none, .bool false]) w := by kernel_rfl
section
variable {l : Bs} {s : ByteArray} {p : Nat}
set_option maxHeartbeats 1000000 in
set_option maxRecDepth 100000 in
theorem tlong_ba (w : World) (hs : s = txt l) (hl : l.length ≤ 1000000) (hp : p ≤ l.length) (a : hasP (l.drop p) [34, 34, 34] = false) (b : hasP (l.drop p) [39, 39, 39] = false) (c : hasP (l.drop p) [34] = true) :
    Calls Tryz.prog 148 #[.string s, .int .i64 p] w fun e w' => e = .returned (.bool false) ∧ Below w.heap.size w w' := by
  have hps : decide (s.size < p) = false := decide_eq_false (by rw [hs, txt_size]; omega)
  have hp0 : decide ((p : Int) < 0) = false := decide_eq_false (by omega)
  have HS := Lib.hid hs
  have HL := Lib.hid hl
  have HP := Lib.hid hp
  have Ha := Lib.hid a
  have Hb := Lib.hid b
  have Hc := Lib.hid c
  clear hs hl hp a b c
  go_enter Tryz.func148, Tryz.ntmps148
  go_wp2_with fail
  refine (tqa_KBA _ HS.out HL.out HP.out Ha.out Hb.out Hc.out).mono ?_
  rintro e w1 ⟨rfl, R⟩
  have HR := Lib.hid R
  clear R
  have k1 := ta_ba_lb (some ⟨w.heap.size, 0, none⟩) w1
  have k2 := ta_ba_ll (some ⟨w.heap.size, 0, none⟩) w1
  go_wp2_with fail
  go_ret
  exact ⟨rfl, HR.out.1⟩
set_option maxHeartbeats 1000000 in
set_option maxRecDepth 100000 in
theorem tlong_none (w : World) (hs : s = txt l) (hl : l.length ≤ 1000000) (hp : p ≤ l.length) (a : hasP (l.drop p) [34, 34, 34] = false) (b : hasP (l.drop p) [39, 39, 39] = false) (c : hasP (l.drop p) [34] = false) (d : hasP (l.drop p) [39] = false) :
    Calls Tryz.prog 148 #[.string s, .int .i64 p] w fun e w' => e = .returned (.bool false) ∧ Below w.heap.size w w' := by
  have hps : decide (s.size < p) = false := decide_eq_false (by rw [hs, txt_size]; omega)
  have hp0 : decide ((p : Int) < 0) = false := decide_eq_false (by omega)
  have HS := Lib.hid hs
  have HL := Lib.hid hl
  have HP := Lib.hid hp
  have Ha := Lib.hid a
  have Hb := Lib.hid b
  have Hc := Lib.hid c
  have Hd := Lib.hid d
  have k1 := ta_no_lb w
  have k2 := ta_no_ll w
  clear hs hl hp a b c d
  go_enter Tryz.func148, Tryz.ntmps148
  go_wp2_with fail
  refine (tqa_none _ HS.out HL.out HP.out Ha.out Hb.out Hc.out Hd.out).mono ?_
  rintro e w1 ⟨rfl, rfl⟩
  go_wp2_with fail
  go_ret
  exact ⟨rfl, Below.refl _ _⟩
set_option maxHeartbeats 4000000 in
set_option maxRecDepth 100000 in
theorem tread_none (w : World) (hs : s = txt l) (hl : l.length ≤ 1000000) (hp : p ≤ l.length) (a : hasP (l.drop p) [34, 34, 34] = false) (b : hasP (l.drop p) [39, 39, 39] = false) (c : hasP (l.drop p) [34] = false) (d : hasP (l.drop p) [39] = false) :
    Calls Tryz.prog 101 #[.string s, .int .i64 p] w fun e w' => e = .returned (.tuple #[.string ⟨#[]⟩, .int .i64 0, .agg #[.int .i64 3, .int .i64 p]]) ∧ Below w.heap.size w w' := by
  have hps : decide (s.size < p) = false := decide_eq_false (by rw [hs, txt_size]; omega)
  have hp0 : decide ((p : Int) < 0) = false := decide_eq_false (by omega)
  have HS := Lib.hid hs
  have HL := Lib.hid hl
  have HP := Lib.hid hp
  have Ha := Lib.hid a
  have Hb := Lib.hid b
  have Hc := Lib.hid c
  have Hd := Lib.hid d
  have HFC := Lib.hid (FC.new w)
  have HW0 := Lib.hid (show Below w.heap.size w (w.alloc (.cells #[.int .i64 0, .int .i64 0] 28)) from (Below.refl _ _).alloc (Nat.le_refl _) _)
  clear hs hl hp a b c d
  go_enter Tryz.func101, Tryz.ntmps101
  go_wp2_with fail
  refine (tqa_none _ HS.out HL.out HP.out Ha.out Hb.out Hc.out Hd.out).mono ?_
  rintro e w1 ⟨rfl, rfl⟩
  obtain ⟨W, hW⟩ : ∃ W, w.alloc (.cells #[.int .i64 0, .int .i64 0] 28) = W := ⟨_, rfl⟩
  rw [hW] at HFC HW0 ⊢
  have d0 := HFC.out.c0
  have d1 := HFC.out.c1
  have e0 := HFC.out.f0
  have e1 := HFC.out.f1
  clear hW
  go_wp2_with fail
  refine bodyPost_ret (v := .tuple #[.string ⟨#[]⟩, .int .i64 0, .agg #[.int .i64 3, .int .i64 p]]) (by simp [results, Tryz.results101, go_sem, *]) rfl ?_
  exact ⟨rfl, (HW0.out.setCell (Nat.le_refl _) _).setCell (Nat.le_refl _) _⟩
end
theorem clone_any (s : ByteArray) (w : World) (h : s.size ≤ 1000000) : Calls Tryz.prog 147 #[.string s] w fun e w' => e = .returned (.string s) ∧ Below w.heap.size w w' := by
  have C := Lib.hid (fun w => Tryz.stringslite_Clone s w (by omega))
  go_enter Tryz.func147, Tryz.ntmps147
  go_wp2_with fail
  refine (C.out _).mono ?_
  rintro e w1 ⟨rfl, hb⟩
  go_wp2_with fail
  go_ret
  exact ⟨rfl, hb⟩
end Ty
end Go.Proofs.YtbeefjhcbphiaaaGreatDoor
/- What landed of TOML's keys: a word that begins at a place: a bare one, a basic string, or none. -/
namespace Go.Proofs.YtbeefjhcbphiaaaGreatDoor
open Go.RowKit
namespace Ty

abbrev ftO : Obj := .cells #[.int .i64 0, .int .i64 0] 28
section
variable {l : Bs} {s : ByteArray} {p e : Nat}
set_option maxHeartbeats 4000000 in
set_option maxRecDepth 100000 in
theorem word_bare (w : World) (hs : s = txt l) (hl : l.length ≤ 1000000) (hp : p ≤ l.length) (he : endP plK l p = e) (hpe : p < e) (hel : e ≤ l.length) {x : ByteArray} (hx : x = txt ((l.take e).drop p)) :
    Calls Tryz.prog 138 #[.string s, .int .i64 p] w fun en w' => en = .returned (.tuple #[.string x, .int .i64 e, .agg #[.int .i64 0, .int .i64 0]]) ∧ Below w.heap.size w w' := by
  have C1 := Lib.hid (fun w => past_in hs hl hp w (I := p) (R := e) rfl (by rw [he]))
  have hsz : s.size = l.length := by rw [hs, txt_size]
  have hes : (e : Int) ≤ s.size := by omega
  have hss : s.size ≤ 1000000 := by omega
  have HX := Lib.hid (show s.extract p e = x by rw [hs, txt_cut, ← hx])
  have HXS := Lib.hid (show x.size ≤ 1000000 by rw [hx, txt_size]; simp; omega)
  have hlt : (p : Int) < e := by omega
  obtain ⟨W, hW⟩ : ∃ W, W = w.alloc ftO := ⟨_, rfl⟩
  have HFC := Lib.hid (show FC w W w.heap.size by rw [hW]; exact FC.new w)
  have HW0 := Lib.hid (show Below w.heap.size w W by rw [hW]; exact (Below.refl _ _).alloc (Nat.le_refl _) _)
  clear hs hl hp he hel hx hsz
  go_enter Tryz.func138, Tryz.ntmps138
  go_upto_region 1 with fail
  rw [← hW]
  clear hW
  go_wp2_with fail
  refine (C1.out _).mono ?_
  rintro en w1 ⟨rfl, rfl⟩
  go_wp2_with fail
  rw [HX.out]
  refine (clone_any x _ HXS.out).mono ?_
  rintro en w2 ⟨rfl, hb⟩
  have d0 := cell_old hb HFC.out.lt HFC.out.c0
  have d1 := cell_old hb HFC.out.lt HFC.out.c1
  have e0 := free_old hb HFC.out.lt HFC.out.f0
  have e1 := free_old hb HFC.out.lt HFC.out.f1
  have HB := Lib.hid (below_tr HW0.out hb)
  clear hb
  go_wp2_with fail
  refine bodyPost_ret (v := .tuple #[.string x, .int .i64 e, .agg #[.int .i64 0, .int .i64 0]]) (by simp [results, Tryz.results138, go_sem, *]) rfl ?_
  exact ⟨rfl, (HB.out.setCell (Nat.le_refl _) _).setCell (Nat.le_refl _) _⟩
set_option maxHeartbeats 4000000 in
set_option maxRecDepth 100000 in
/-- No bare word stands there, and no long string: as tquotes reads it. -/
theorem word_not (w : World) (hs : s = txt l) (hl : l.length ≤ 1000000) (hp : p ≤ l.length) (he : endP plK l p = p) {t : ByteArray} {k c a : Int}
    (hL : ∀ w, Calls Tryz.prog 148 #[.string s, .int .i64 p] w fun e w' => e = .returned (.bool false) ∧ Below w.heap.size w w')
    (hR : ∀ w1, Below w.heap.size w w1 → Calls Tryz.prog 101 #[.string s, .int .i64 p] w1 fun e w' => e = .returned (.tuple #[.string t, .int .i64 k, .agg #[.int .i64 c, .int .i64 a]]) ∧ Below w1.heap.size w1 w') :
    Calls Tryz.prog 138 #[.string s, .int .i64 p] w fun en w' => en = .returned (.tuple #[.string t, .int .i64 k, .agg #[.int .i64 c, .int .i64 a]]) ∧ Below w.heap.size w w' := by
  have C1 := Lib.hid (fun w => past_in hs hl hp w (I := p) (R := p) rfl (by rw [he]))
  have HLG := Lib.hid hL
  have HRD := Lib.hid hR
  have hlt : ¬ (p : Int) < p := by omega
  obtain ⟨W, hW⟩ : ∃ W, W = w.alloc ftO := ⟨_, rfl⟩
  have HFC := Lib.hid (show FC w W w.heap.size by rw [hW]; exact FC.new w)
  have HW0 := Lib.hid (show Below w.heap.size w W by rw [hW]; exact (Below.refl _ _).alloc (Nat.le_refl _) _)
  clear hs hl hp he hL hR
  go_enter Tryz.func138, Tryz.ntmps138
  go_upto_region 1 with fail
  rw [← hW]
  clear hW
  go_wp2_with fail
  refine (C1.out _).mono ?_
  rintro en w1 ⟨rfl, rfl⟩
  go_wp2_with fail
  refine (HLG.out _).mono ?_
  rintro en w2 ⟨rfl, hb2⟩
  have HB2 := Lib.hid (below_tr HW0.out hb2)
  have HG2 := Lib.hid hb2
  clear hb2
  go_wp2_with fail
  refine (HRD.out _ HB2.out).mono ?_
  rintro en w3 ⟨rfl, hb3⟩
  have HB3 := Lib.hid (below_tr HB2.out hb3)
  have hg3 := below_tr HG2.out hb3
  have d0 := cell_old hg3 HFC.out.lt HFC.out.c0
  have d1 := cell_old hg3 HFC.out.lt HFC.out.c1
  have e0 := free_old hg3 HFC.out.lt HFC.out.f0
  have e1 := free_old hg3 HFC.out.lt HFC.out.f1
  clear hg3 hb3
  go_wp2_with fail
  refine bodyPost_ret (v := .tuple #[.string t, .int .i64 k, .agg #[.int .i64 c, .int .i64 a]]) (by simp [results, Tryz.results138, go_sem, *]) rfl ?_
  exact ⟨rfl, (HB3.out.setCell (Nat.le_refl _) _).setCell (Nat.le_refl _) _⟩
set_option maxHeartbeats 1000000 in
theorem blanks_any (w : World) (hs : s = txt l) (hl : l.length ≤ 1000000) (hp : p ≤ l.length) {R : Int} (hR : R = (endP blK l p : Nat)) :
    Calls Tryz.prog 33 #[.string s, .int .i64 p] w fun en w' => en = .returned (.int .i64 R) ∧ w = w' := by
  have C1 := Lib.hid (fun w => past_bl hs hl hp w (I := p) (R := R) rfl hR)
  clear hs hl hp hR
  go_enter Tryz.func33, Tryz.ntmps33
  go_wp2_with fail
  refine (C1.out _).mono ?_
  rintro en w1 ⟨rfl, rfl⟩
  go_wp2_with fail
  go_ret
  exact ⟨rfl, rfl⟩
end
theorem clipT_any (A : Option Addr) (n c : Nat) (w : World) (h : n ≤ c) (_hc : c ≤ maxLen) : Calls Tryz.prog 49 #[.slice A n c] w fun en w' => en = .returned (.slice A n n) ∧ w = w' := by
  unfold maxLen at _hc
  go_enter Tryz.func49, Tryz.ntmps49
  go_wp2_with fail
  go_ret
  exact ⟨rfl, rfl⟩
theorem clipS_any (A : Option Addr) (n c : Nat) (w : World) (h : n ≤ c) (_hc : c ≤ maxLen) : Calls Tryz.prog 50 #[.slice A n c] w fun en w' => en = .returned (.slice A n n) ∧ w = w' := by
  unfold maxLen at _hc
  go_enter Tryz.func50, Tryz.ntmps50
  go_wp2_with fail
  go_ret
  exact ⟨rfl, rfl⟩
end Ty
end Go.Proofs.YtbeefjhcbphiaaaGreatDoor
