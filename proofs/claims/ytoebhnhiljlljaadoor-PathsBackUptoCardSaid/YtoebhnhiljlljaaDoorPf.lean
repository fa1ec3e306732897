/- Paths are the same; how many steps are shared. -/
import Derived.Test.YtoebhnhiljlljaaDoorPe
import Derived.Laws.StructEq
namespace Go.Proofs.YtoebhnhiljlljaaDoor
open Go.RowKit
namespace Pa
set_option maxRecDepth 100000

theorem txt_list {a b : Bs} : (txt a).toList = (txt b).toList ↔ a = b := by
  rw [ByteArray.toList_eq, ByteArray.toList_eq]
  simp [txt]
theorem eq_parts (x y : St) : (((x.kind : Int) == (y.kind : Int)) && (decide (x.text = y.text) && (decide (x.id = y.id) && (x.pos == y.pos)))) = decide (x = y) := by
  rw [Bool.eq_iff_iff]
  simp only [Bool.and_eq_true, beq_iff_eq, decide_eq_true_eq]
  constructor
  · rintro ⟨h1, h2, h3, h4⟩
    exact st_ext (by omega) h2 h4 h3
  · rintro rfl
    exact ⟨rfl, rfl, rfl, rfl⟩
theorem guard_no : Tryd.prog.eqGuardType Tryd.prog.depth 32 = false := by kernel_rfl
theorem step_eqI (x y : St) (w : World) : (Op.equalIn 10000 32 (stV x) (stV y)).run Tryd.prog w = .ok (decide (x = y)) w := by
  have hs : Tryd.prog.stoodInHeld 32 = false := by kernel_rfl
  have hu := Tryd.underlying32
  have hf : Tryd.prog.underlying 32 = some (.struct (Tryd.prog.fieldsOf 32)) := by rw [Program.fieldsOf, hu]
  rw [run_equalIn_agg w 9999 _ _ _ hf hs, Program.fieldsOf, hu, ← eq_parts]
  simp only [Op.eqFields]
  simp [go_sem]
  simp only [txt_list]
  by_cases h1 : x.kind = y.kind
  · by_cases h2 : x.text = y.text
    · by_cases h3 : x.id = y.id
      · by_cases h4 : x.pos = y.pos <;> simp [h1, h2, h3, h4]
      · simp [h1, h2, h3]
    · simp [h1, h2]
  · have h5 : ¬ (x.kind : Int) = (y.kind : Int) := by omega
    simp [h5]
theorem step_eql (x y : St) (w : World) : (binOp .eql 32 (stV x) (stV y)).run Tryd.prog w = .ok (.bool (decide (x = y))) w := by
  rw [run_eql_struct, step_eqI]; rfl
theorem step_neq (x y : St) (w : World) : (binOp .neq 32 (stV x) (stV y)).run Tryd.prog w = .ok (.bool (!decide (x = y))) w := by
  rw [run_neq_struct, step_eqI]; rfl
set_option maxHeartbeats 4000000 in
theorem same_any {A B : Option Addr} {n m c d : Nat} {L M : List St} (w : World) (h : Sm w A n c L) (h' : Sm w B m d M) :
    Calls Tryd.prog 15 #[.slice A n c, .slice B m d] w fun e w' => e = .returned (.bool (decide (L = M))) ∧ Below w.heap.size w w' := by
  have HS := Lib.hid h
  have HT := Lib.hid h'
  have HN := Lib.hid h.len
  have HM := Lib.hid h'.len
  have hn5 : n ≤ 9223372036854775807 := by have := h.cap; unfold maxLen at this; omega
  have GN := guard_no
  obtain ⟨R, hR⟩ : ∃ R, R = decide (L = M) := ⟨_, rfl⟩
  rw [← hR]
  have HR := Lib.hid hR
  clear h h' hR
  by_cases hnm : n = m
  · subst hnm
    go_enter Tryd.func15, Tryd.ntmps15
    go_wp2_with fail
    go_loopw [5] (fun b wx => Hid (Below w.heap.size w wx) ∧ ∃ i : Nat, i ≤ n ∧ b = .int .i64 i ∧ Hid (L.take i = M.take i)) (fun b _ => n - (intOf b).toNat)
    case atStart => exact ⟨Lib.hid (Below.refl _ _), 0, Nat.zero_le _, rfl, Lib.hid (by simp)⟩
    case round =>
      obtain ⟨HBR, i, hi, rfl, HQ⟩ := hrel
      by_cases hlt : i < n
      · obtain ⟨g, o, s, rfl, hg, hs, _, c0, c1, c2, c3⟩ := HS.out.at_ hlt
        obtain ⟨g', o', s', rfl, hg', hs', _, b0, b1, b2, b3⟩ := HT.out.at_ hlt
        have c0 := (HBR.out.cell (p := ⟨g, o + i * 4, none⟩) hg).trans c0
        have c1 := (HBR.out.cell (p := ⟨g, o + i * 4 + 1, none⟩) hg).trans c1
        have c2 := (HBR.out.cell (p := ⟨g, o + i * 4 + 2, none⟩) hg).trans c2
        have c3 := (HBR.out.cell (p := ⟨g, o + i * 4 + 3, none⟩) hg).trans c3
        have b0 := (HBR.out.cell (p := ⟨g', o' + i * 4, none⟩) hg').trans b0
        have b1 := (HBR.out.cell (p := ⟨g', o' + i * 4 + 1, none⟩) hg').trans b1
        have b2 := (HBR.out.cell (p := ⟨g', o' + i * 4 + 2, none⟩) hg').trans b2
        have b3 := (HBR.out.cell (p := ⟨g', o' + i * 4 + 3, none⟩) hg').trans b3
        have NE := step_neq s s'
        obtain ⟨q, hq⟩ : ∃ q, q = decide (s = s') := ⟨_, rfl⟩
        rw [← hq] at NE
        cases q with
        | true =>
          have HE := Lib.hid (show L.take (i + 1) = M.take (i + 1) by rw [List.take_add_one, List.take_add_one, hs, hs', HQ.out, of_decide_eq_true hq.symm])
          clear hs hs' hq HQ
          go_wp2_with fail
          go_quiet (fail)
          go_wp2_with fail
          go_roundw
          case rel => exact ⟨Lib.hid (by have := HBR.out; exact ⟨this.os, this.tape, this.output, this.size, this.block⟩), i + 1, by omega, by go_num, HE⟩
          case measure => simp [intOf] <;> omega
        | false =>
          have HE := Lib.hid (show R = false by
            rw [HR.out]
            refine decide_eq_false fun e => ?_
            rw [e, hs'] at hs
            injection hs with hs
            exact of_decide_eq_false hq.symm hs.symm)
          clear hs hs' hq HQ
          go_wp2_with fail
          go_quiet (fail)
          go_wp2_with fail
          go_ret
          exact ⟨ret_bool HE.out.symm, by have := HBR.out; exact ⟨this.os, this.tape, this.output, this.size, this.block⟩⟩
      · have HE := Lib.hid (show R = true by
          rw [HR.out]
          have e := HQ.out
          rw [List.take_of_length_le (by rw [← HN.out]; omega), List.take_of_length_le (by rw [← HM.out]; omega)] at e
          exact decide_eq_true e)
        go_wp2_with fail
        go_ret
        exact ⟨ret_bool HE.out.symm, HBR.out⟩
  · have HE := Lib.hid (show R = false by
      rw [HR.out]
      refine decide_eq_false fun e => hnm ?_
      rw [HN.out, HM.out, e])
    go_enter Tryd.func15, Tryd.ntmps15
    go_wp2_with fail
    go_ret
    exact ⟨ret_bool HE.out.symm, Below.refl _ _⟩
set_option maxHeartbeats 4000000 in
theorem shared_any {A B : Option Addr} {n m c d : Nat} {L M : List St} (w : World) (h : Sm w A n c L) (h' : Sm w B m d M) :
    Calls Tryd.prog 33 #[.slice A n c, .slice B m d] w fun e w' => e = .returned (.int .i64 (shr L M : Nat)) ∧ Below w.heap.size w w' := by
  have HS := Lib.hid h
  have HT := Lib.hid h'
  have HN := Lib.hid h.len
  have HM := Lib.hid h'.len
  have hn5 : n ≤ 9223372036854775807 := by have := h.cap; unfold maxLen at this; omega
  have hm5 : m ≤ 9223372036854775807 := by have := h'.cap; unfold maxLen at this; omega
  have GN := guard_no
  obtain ⟨R, hR⟩ : ∃ R, R = shr L M := ⟨_, rfl⟩
  rw [← hR]
  have HR := Lib.hid hR
  clear h h' hR
  go_enter Tryd.func33, Tryd.ntmps33
  go_wp2_with fail
  go_loopw [5] (fun b wx => Hid (Below w.heap.size w wx) ∧ ∃ i : Nat, i ≤ n ∧ i ≤ m ∧ b = .int .i64 i ∧ Hid (L.take i = M.take i)) (fun b _ => n - (intOf b).toNat)
  case atStart => exact ⟨Lib.hid (Below.refl _ _), 0, Nat.zero_le _, Nat.zero_le _, rfl, Lib.hid (by simp)⟩
  case round =>
    obtain ⟨HBR, i, hi, hj, rfl, HQ⟩ := hrel
    by_cases hlt : i < n
    · by_cases hlt2 : i < m
      · obtain ⟨g, o, s, rfl, hg, hs, _, c0, c1, c2, c3⟩ := HS.out.at_ hlt
        obtain ⟨g', o', s', rfl, hg', hs', _, b0, b1, b2, b3⟩ := HT.out.at_ hlt2
        have c0 := (HBR.out.cell (p := ⟨g, o + i * 4, none⟩) hg).trans c0
        have c1 := (HBR.out.cell (p := ⟨g, o + i * 4 + 1, none⟩) hg).trans c1
        have c2 := (HBR.out.cell (p := ⟨g, o + i * 4 + 2, none⟩) hg).trans c2
        have c3 := (HBR.out.cell (p := ⟨g, o + i * 4 + 3, none⟩) hg).trans c3
        have b0 := (HBR.out.cell (p := ⟨g', o' + i * 4, none⟩) hg').trans b0
        have b1 := (HBR.out.cell (p := ⟨g', o' + i * 4 + 1, none⟩) hg').trans b1
        have b2 := (HBR.out.cell (p := ⟨g', o' + i * 4 + 2, none⟩) hg').trans b2
        have b3 := (HBR.out.cell (p := ⟨g', o' + i * 4 + 3, none⟩) hg').trans b3
        have NE := step_eql s s'
        have ST := shr_step hs hs' HQ.out
        obtain ⟨q, hq⟩ : ∃ q, q = decide (s = s') := ⟨_, rfl⟩
        rw [← hq] at NE
        cases q with
        | true =>
          have HE := Lib.hid (show L.take (i + 1) = M.take (i + 1) by rw [List.take_add_one, List.take_add_one, hs, hs', HQ.out, of_decide_eq_true hq.symm])
          clear hs hs' hq HQ ST
          go_wp2_with fail
          go_quiet (fail)
          go_wp2_with fail
          go_roundw
          case rel => exact ⟨Lib.hid (by have := HBR.out; exact ⟨this.os, this.tape, this.output, this.size, this.block⟩), i + 1, by omega, by omega, by go_num, HE⟩
          case measure => simp [intOf] <;> omega
        | false =>
          have HE := Lib.hid (show R = i by rw [HR.out]; exact ST.2 (of_decide_eq_false hq.symm))
          clear hs hs' hq HQ ST
          go_wp2_with fail
          go_quiet (fail)
          go_wp2_with fail
          go_ret
          exact ⟨ret_int (by rw [HE.out]), by have := HBR.out; exact ⟨this.os, this.tape, this.output, this.size, this.block⟩⟩
      · have HE := Lib.hid (show R = i by rw [HR.out]; exact shr_end (.inr (by rw [← HM.out]; omega)) HQ.out (by rw [← HN.out]; omega) (by rw [← HM.out]; omega))
        go_wp2_with fail
        go_quiet (fail)
        go_wp2_with fail
        go_ret
        exact ⟨ret_int (by rw [HE.out]), by have := HBR.out; exact ⟨this.os, this.tape, this.output, this.size, this.block⟩⟩
    · have HE := Lib.hid (show R = i by rw [HR.out]; exact shr_end (.inl (by rw [← HN.out]; omega)) HQ.out (by rw [← HN.out]; omega) (by rw [← HM.out]; omega))
      go_wp2_with fail
      go_quiet (fail)
      go_wp2_with fail
      go_ret
      exact ⟨ret_int (by rw [HE.out]), by have := HBR.out; exact ⟨this.os, this.tape, this.output, this.size, this.block⟩⟩
end Pa
end Go.Proofs.YtoebhnhiljlljaaDoor
