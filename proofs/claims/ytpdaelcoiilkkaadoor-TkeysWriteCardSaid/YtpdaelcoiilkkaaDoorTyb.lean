/- TOML's strings, where none begins; a basic one is no long one; a text's clone. -/
import Derived.Test.YtpdaelcoiilkkaaDoorTya
import Derived.Test.YtpdaelcoiilkkaaDoorShelf
namespace Go.Proofs.YtpdaelcoiilkkaaDoor
open Go.RowKit
namespace Ty

theorem ta_ba_lb (a : Option Addr) (w : World) : (Instr.typeAssert (.iface 95 (.pointer a)) 75 86 true).run Tryd.prog w = .ok (.tuple #[.pointer none, .bool false]) w := by kernel_rfl
theorem ta_ba_ll (a : Option Addr) (w : World) : (Instr.typeAssert (.iface 95 (.pointer a)) 75 93 true).run Tryd.prog w = .ok (.tuple #[.pointer none, .bool false]) w := by kernel_rfl
theorem ta_no_lb (w : World) : (Instr.typeAssert .nilIface 75 86 true).run Tryd.prog w = .ok (.tuple #[.pointer none, .bool false]) w := by kernel_rfl
theorem ta_no_ll (w : World) : (Instr.typeAssert .nilIface 75 93 true).run Tryd.prog w = .ok (.tuple #[.pointer none, .bool false]) w := by kernel_rfl
section
variable {l : Bs} {s : ByteArray} {p : Nat}
set_option maxHeartbeats 1000000 in
set_option maxRecDepth 100000 in
theorem tlong_ba (w : World) (hs : s = txt l) (hl : l.length ≤ 1000000) (hp : p ≤ l.length) (a : hasP (l.drop p) [34, 34, 34] = false) (b : hasP (l.drop p) [39, 39, 39] = false) (c : hasP (l.drop p) [34] = true) :
    Calls Tryd.prog 42 #[.string s, .int .i64 p] w fun e w' => e = .returned (.bool false) ∧ Below w.heap.size w w' := by
  have hps : decide (s.size < p) = false := decide_eq_false (by rw [hs, txt_size]; omega)
  have hp0 : decide ((p : Int) < 0) = false := decide_eq_false (by omega)
  have HS := Lib.hid hs
  have HL := Lib.hid hl
  have HP := Lib.hid hp
  have Ha := Lib.hid a
  have Hb := Lib.hid b
  have Hc := Lib.hid c
  clear hs hl hp a b c
  go_enter Tryd.func42, Tryd.ntmps42
  go_wp2_with fail
  refine (tqa_KBA _ HS.out HL.out HP.out Ha.out Hb.out Hc.out).mono ?_
  rintro e w1 ⟨rfl, R⟩
  have HR := Lib.hid R
  clear R
  have k1 := ta_ba_lb (some ⟨w.heap.size, 0, none⟩) w1
  have k2 := ta_ba_ll (some ⟨w.heap.size, 0, none⟩) w1
  go_wp2_with fail
  go_ret
  exact ⟨rfl, HR.out.1⟩
set_option maxHeartbeats 1000000 in
set_option maxRecDepth 100000 in
theorem tlong_none (w : World) (hs : s = txt l) (hl : l.length ≤ 1000000) (hp : p ≤ l.length) (a : hasP (l.drop p) [34, 34, 34] = false) (b : hasP (l.drop p) [39, 39, 39] = false) (c : hasP (l.drop p) [34] = false) (d : hasP (l.drop p) [39] = false) :
    Calls Tryd.prog 42 #[.string s, .int .i64 p] w fun e w' => e = .returned (.bool false) ∧ Below w.heap.size w w' := by
  have hps : decide (s.size < p) = false := decide_eq_false (by rw [hs, txt_size]; omega)
  have hp0 : decide ((p : Int) < 0) = false := decide_eq_false (by omega)
  have HS := Lib.hid hs
  have HL := Lib.hid hl
  have HP := Lib.hid hp
  have Ha := Lib.hid a
  have Hb := Lib.hid b
  have Hc := Lib.hid c
  have Hd := Lib.hid d
  have k1 := ta_no_lb w
  have k2 := ta_no_ll w
  clear hs hl hp a b c d
  go_enter Tryd.func42, Tryd.ntmps42
  go_wp2_with fail
  refine (tqa_none _ HS.out HL.out HP.out Ha.out Hb.out Hc.out Hd.out).mono ?_
  rintro e w1 ⟨rfl, rfl⟩
  go_wp2_with fail
  go_ret
  exact ⟨rfl, Below.refl _ _⟩
set_option maxHeartbeats 4000000 in
set_option maxRecDepth 100000 in
theorem tread_none (w : World) (hs : s = txt l) (hl : l.length ≤ 1000000) (hp : p ≤ l.length) (a : hasP (l.drop p) [34, 34, 34] = false) (b : hasP (l.drop p) [39, 39, 39] = false) (c : hasP (l.drop p) [34] = false) (d : hasP (l.drop p) [39] = false) :
    Calls Tryd.prog 21 #[.string s, .int .i64 p] w fun e w' => e = .returned (.tuple #[.string ⟨#[]⟩, .int .i64 0, .agg #[.int .i64 3, .int .i64 p]]) ∧ Below w.heap.size w w' := by
  have hps : decide (s.size < p) = false := decide_eq_false (by rw [hs, txt_size]; omega)
  have hp0 : decide ((p : Int) < 0) = false := decide_eq_false (by omega)
  have HS := Lib.hid hs
  have HL := Lib.hid hl
  have HP := Lib.hid hp
  have Ha := Lib.hid a
  have Hb := Lib.hid b
  have Hc := Lib.hid c
  have Hd := Lib.hid d
  have HFC := Lib.hid (FC.new w)
  have HW0 := Lib.hid (show Below w.heap.size w (w.alloc (.cells #[.int .i64 0, .int .i64 0] 29)) from (Below.refl _ _).alloc (Nat.le_refl _) _)
  clear hs hl hp a b c d
  go_enter Tryd.func21, Tryd.ntmps21
  go_wp2_with fail
  refine (tqa_none _ HS.out HL.out HP.out Ha.out Hb.out Hc.out Hd.out).mono ?_
  rintro e w1 ⟨rfl, rfl⟩
  obtain ⟨W, hW⟩ : ∃ W, w.alloc (.cells #[.int .i64 0, .int .i64 0] 29) = W := ⟨_, rfl⟩
  rw [hW] at HFC HW0 ⊢
  have d0 := HFC.out.c0
  have d1 := HFC.out.c1
  have e0 := HFC.out.f0
  have e1 := HFC.out.f1
  clear hW
  go_wp2_with fail
  refine bodyPost_ret (v := .tuple #[.string ⟨#[]⟩, .int .i64 0, .agg #[.int .i64 3, .int .i64 p]]) (by simp [results, Tryd.results21, go_sem, *]) rfl ?_
  exact ⟨rfl, (HW0.out.setCell (Nat.le_refl _) _).setCell (Nat.le_refl _) _⟩
end
theorem clone_any (s : ByteArray) (w : World) (h : s.size ≤ 1000000) : Calls Tryd.prog 41 #[.string s] w fun e w' => e = .returned (.string s) ∧ Below w.heap.size w w' := by
  have C := Lib.hid (fun w => Tryd.stringslite_Clone s w (by omega))
  go_enter Tryd.func41, Tryd.ntmps41
  go_wp2_with fail
  refine (C.out _).mono ?_
  rintro e w1 ⟨rfl, hb⟩
  go_wp2_with fail
  go_ret
  exact ⟨rfl, hb⟩
end Ty
end Go.Proofs.YtpdaelcoiilkkaaDoor
