/- What landed of paths: May. -/
import Derived.Test.YtoebhnhiljlljaaDoorPh
namespace Go.Proofs.YtoebhnhiljlljaaDoor
open Go.RowKit
namespace Pa
set_option maxRecDepth 100000

theorem may_key {s : St} (h : s.kind = 0) : s.may = decide (s = ⟨s.kind, s.text, 0, []⟩) := by
  unfold St.may
  rw [Bool.eq_iff_iff]
  simp only [decide_eq_true_eq]
  constructor
  · intro ⟨_, _, h3, _, h5⟩
    exact st_ext rfl rfl (h3 (by omega)) (h5 (by omega))
  · intro e
    have e3 : s.pos = 0 := congrArg St.pos e
    have e4 : s.id = [] := congrArg St.id e
    exact ⟨by omega, by omega, fun _ => e3, fun h1 => by omega, fun _ => e4⟩
theorem may_at {s : St} (h : s.kind = 1) : s.may = (decide (0 ≤ s.pos) && decide (s = ⟨s.kind, [], s.pos, []⟩)) := by
  unfold St.may
  rw [Bool.eq_iff_iff]
  simp only [decide_eq_true_eq, Bool.and_eq_true]
  constructor
  · intro ⟨_, h2, _, h4, h5⟩
    exact ⟨h2, st_ext rfl (h4 h) rfl (h5 (by omega))⟩
  · intro ⟨h2, e⟩
    have e3 : s.text = [] := congrArg St.text e
    have e4 : s.id = [] := congrArg St.id e
    exact ⟨by omega, h2, fun h1 => absurd h h1, fun _ => e3, fun _ => e4⟩
theorem may_id {s : St} (h : s.kind = 2) : s.may = decide (s.pos = 0) := by
  unfold St.may
  rw [Bool.eq_iff_iff]
  simp only [decide_eq_true_eq]
  constructor
  · intro ⟨_, _, h3, _, _⟩; exact h3 (by omega)
  · intro e
    exact ⟨by omega, by omega, fun _ => e, fun h1 => by omega, fun h1 => absurd h h1⟩
theorem may_no {s : St} (h : 2 < s.kind) : s.may = false := by
  unfold St.may
  rw [decide_eq_false_iff_not]
  intro ⟨h1, _⟩; omega
set_option maxHeartbeats 4000000 in
theorem wrong_any (s : St) (hs : s.Ok) (w : World) : Calls Tryd.prog 24 #[stV s] w fun e w' => e = .returned (.bool (!s.may)) ∧ Below w.heap.size w w' := by
  have GN := guard_no
  obtain ⟨R, hR⟩ : ∃ R, R = !s.may := ⟨_, rfl⟩
  rw [← hR]
  have HR := Lib.hid hR
  obtain ⟨W1, hW1⟩ : ∃ W, W = w.alloc (stO s) := ⟨_, rfl⟩
  have HB1 := Lib.hid (show Below w.heap.size w W1 from by rw [hW1]; exact below_new ..)
  have HX := Lib.hid (show Bx W1 w.heap.size (.int .u8 s.kind) (.string (txt s.text)) (.string (txt s.id)) (.int .i64 s.pos) from by rw [hW1]; exact Bx.new ..)
  have HW1 := Lib.hid hW1
  have hk : s.kind < 256 := hs.k
  have hp := hs.p
  clear hR hW1 hs
  have N0 : ∀ w, (binOp .neq 32 (stV s) (.agg #[.int .u8 s.kind, .string (txt s.text), .string ⟨#[]⟩, .int .i64 0])).run Tryd.prog w = .ok (.bool (!decide (s = ⟨s.kind, s.text, 0, []⟩))) w := fun w => step_neq s ⟨s.kind, s.text, 0, []⟩ w
  have N1 : ∀ w, (binOp .neq 32 (stV s) (.agg #[.int .u8 s.kind, .string ⟨#[]⟩, .string ⟨#[]⟩, .int .i64 s.pos])).run Tryd.prog w = .ok (.bool (!decide (s = ⟨s.kind, [], s.pos, []⟩))) w := fun w => step_neq s ⟨s.kind, [], s.pos, []⟩ w
  by_cases h0 : s.kind = 0
  · have HE := Lib.hid (show R = !decide (s = ⟨s.kind, s.text, 0, []⟩) by rw [HR.out, may_key h0])
    obtain ⟨r, hr⟩ : ∃ r, r = decide (s = ⟨s.kind, s.text, 0, []⟩) := ⟨_, rfl⟩
    rw [← hr] at N0 HE
    have k0 : ((s.kind : Int) == 0) = true := by simp [h0]
    clear N1 hr h0
    go_enter Tryd.func24, Tryd.ntmps24
    go_upto_region 1 with fail
    rw [← HW1.out]
    obtain ⟨h, hh⟩ : ∃ h, h = w.heap.size := ⟨_, rfl⟩
    rw [← hh] at HX ⊢
    obtain ⟨x0, x1, x2, x3⟩ : W1.cell? ⟨h, 0, none⟩ = some (.int .u8 s.kind) ∧ W1.cell? ⟨h, 1, none⟩ = some (.string (txt s.text)) ∧ W1.cell? ⟨h, 2, none⟩ = some (.string (txt s.id)) ∧ W1.cell? ⟨h, 3, none⟩ = some (.int .i64 s.pos) := ⟨HX.out.c0, HX.out.c1, HX.out.c2, HX.out.c3⟩
    clear hh
    go_wp2_with fail
    go_ret
    exact ⟨ret_bool HE.out.symm, HB1.out⟩
  have k0 : ((s.kind : Int) == 0) = false := by simp; omega
  by_cases h1 : s.kind = 1
  · have k1 : ((s.kind : Int) == 1) = true := by simp [h1]
    by_cases hz : s.pos < 0
    · have HE := Lib.hid (show R = true by rw [HR.out, may_at h1]; simp; omega)
      clear N0 N1 h0 h1
      go_enter Tryd.func24, Tryd.ntmps24
      go_upto_region 1 with fail
      rw [← HW1.out]
      obtain ⟨h, hh⟩ : ∃ h, h = w.heap.size := ⟨_, rfl⟩
      rw [← hh] at HX ⊢
      obtain ⟨x0, x1, x2, x3⟩ : W1.cell? ⟨h, 0, none⟩ = some (.int .u8 s.kind) ∧ W1.cell? ⟨h, 1, none⟩ = some (.string (txt s.text)) ∧ W1.cell? ⟨h, 2, none⟩ = some (.string (txt s.id)) ∧ W1.cell? ⟨h, 3, none⟩ = some (.int .i64 s.pos) := ⟨HX.out.c0, HX.out.c1, HX.out.c2, HX.out.c3⟩
      clear hh
      go_wp2_with fail
      go_ret
      exact ⟨ret_bool HE.out.symm, HB1.out⟩
    · have HE := Lib.hid (show R = !decide (s = ⟨s.kind, [], s.pos, []⟩) by rw [HR.out, may_at h1, show decide (0 ≤ s.pos) = true from by simp; omega, Bool.true_and])
      obtain ⟨r, hr⟩ : ∃ r, r = decide (s = ⟨s.kind, [], s.pos, []⟩) := ⟨_, rfl⟩
      rw [← hr] at N1 HE
      clear N0 hr h0 h1
      go_enter Tryd.func24, Tryd.ntmps24
      go_upto_region 1 with fail
      rw [← HW1.out]
      obtain ⟨h, hh⟩ : ∃ h, h = w.heap.size := ⟨_, rfl⟩
      rw [← hh] at HX ⊢
      obtain ⟨x0, x1, x2, x3⟩ : W1.cell? ⟨h, 0, none⟩ = some (.int .u8 s.kind) ∧ W1.cell? ⟨h, 1, none⟩ = some (.string (txt s.text)) ∧ W1.cell? ⟨h, 2, none⟩ = some (.string (txt s.id)) ∧ W1.cell? ⟨h, 3, none⟩ = some (.int .i64 s.pos) := ⟨HX.out.c0, HX.out.c1, HX.out.c2, HX.out.c3⟩
      clear hh
      go_wp2_with fail
      go_ret
      exact ⟨ret_bool HE.out.symm, HB1.out⟩
  have k1 : ((s.kind : Int) == 1) = false := by simp; omega
  by_cases h2 : s.kind = 2
  · have k2 : ((s.kind : Int) == 2) = true := by simp [h2]
    have HE := Lib.hid (show R = (s.pos != 0) by rw [HR.out, may_id h2, Bool.eq_iff_iff]; simp)
    clear N0 N1 h0 h1 h2
    go_enter Tryd.func24, Tryd.ntmps24
    go_upto_region 1 with fail
    rw [← HW1.out]
    obtain ⟨h, hh⟩ : ∃ h, h = w.heap.size := ⟨_, rfl⟩
    rw [← hh] at HX ⊢
    obtain ⟨x0, x1, x2, x3⟩ : W1.cell? ⟨h, 0, none⟩ = some (.int .u8 s.kind) ∧ W1.cell? ⟨h, 1, none⟩ = some (.string (txt s.text)) ∧ W1.cell? ⟨h, 2, none⟩ = some (.string (txt s.id)) ∧ W1.cell? ⟨h, 3, none⟩ = some (.int .i64 s.pos) := ⟨HX.out.c0, HX.out.c1, HX.out.c2, HX.out.c3⟩
    clear hh
    go_wp2_with fail
    go_ret
    exact ⟨ret_bool HE.out.symm, HB1.out⟩
  · have k2 : ((s.kind : Int) == 2) = false := by simp; omega
    have HE := Lib.hid (show R = true by rw [HR.out, may_no (by omega)]; rfl)
    clear N0 N1 h0 h1 h2
    go_enter Tryd.func24, Tryd.ntmps24
    go_upto_region 1 with fail
    rw [← HW1.out]
    obtain ⟨h, hh⟩ : ∃ h, h = w.heap.size := ⟨_, rfl⟩
    rw [← hh] at HX ⊢
    obtain ⟨x0, x1, x2, x3⟩ : W1.cell? ⟨h, 0, none⟩ = some (.int .u8 s.kind) ∧ W1.cell? ⟨h, 1, none⟩ = some (.string (txt s.text)) ∧ W1.cell? ⟨h, 2, none⟩ = some (.string (txt s.id)) ∧ W1.cell? ⟨h, 3, none⟩ = some (.int .i64 s.pos) := ⟨HX.out.c0, HX.out.c1, HX.out.c2, HX.out.c3⟩
    clear hh
    go_wp2_with fail
    go_ret
    exact ⟨ret_bool HE.out.symm, HB1.out⟩
set_option maxHeartbeats 4000000 in
theorem indexf_any {A : Option Addr} {n c : Nat} {L : List St} (w : World) (h : Sm w A n c L) :
    Calls Tryd.prog 42 #[.slice A n c, .func (.func 24) #[] #[]] w fun e w' => (∃ z : Int, e = .returned (.int .i64 z) ∧ decide (0 ≤ z) = !(L.all St.may)) ∧ Below w.heap.size w w' := by
  have HS := Lib.hid h
  have HN := Lib.hid h.len
  have hn5 : n ≤ 9223372036854775807 := by have := h.cap; unfold maxLen at this; omega
  clear h
  go_enter Tryd.func42, Tryd.ntmps42
  go_wp2_with fail
  go_loopw [5, 8] (fun _ i wx => Hid (Below w.heap.size w wx) ∧ ∃ k : Nat, k ≤ n ∧ i = .int .i64 k ∧ Hid ((L.take k).all St.may = true)) (fun _ i _ => n - (intOf i).toNat)
  case atStart => exact ⟨Lib.hid (Below.refl _ _), 0, Nat.zero_le _, rfl, Lib.hid (by simp)⟩
  case round =>
    obtain ⟨HBR, k, hk, rfl, HQ⟩ := hrel
    by_cases hlt : k < n
    · obtain ⟨g, o, s, rfl, hg, hs, hok, c0, c1, c2, c3⟩ := HS.out.at_ hlt
      have c0 := (HBR.out.cell (p := ⟨g, o + k * 4, none⟩) hg).trans c0
      have c1 := (HBR.out.cell (p := ⟨g, o + k * 4 + 1, none⟩) hg).trans c1
      have c2 := (HBR.out.cell (p := ⟨g, o + k * 4 + 2, none⟩) hg).trans c2
      have c3 := (HBR.out.cell (p := ⟨g, o + k * 4 + 3, none⟩) hg).trans c3
      have CW := Lib.hid (wrong_any s hok)
      obtain ⟨m, hm⟩ : ∃ m, m = s.may := ⟨_, rfl⟩
      rw [← hm] at CW
      have HT := Lib.hid (show L.take (k + 1) = L.take k ++ [s] by rw [List.take_add_one, hs]; rfl)
      have HMEM := Lib.hid (show s ∈ L from List.mem_of_getElem? hs)
      have HM := Lib.hid hm
      clear hs hok hm
      go_wp2_with fail
      refine (CW.out _).mono ?_
      rintro e w2 ⟨rfl, hb⟩
      have HB2 := Lib.hid (below_tr HBR.out hb)
      clear hb c0 c1 c2 c3
      cases m with
      | true =>
        have HE := Lib.hid (show (L.take (k + 1)).all St.may = true by rw [HT.out, List.all_append, HQ.out]; simp [HM.out])
        go_wp2_with fail
        go_roundw
        case rel => exact ⟨HB2, k + 1, by omega, by go_num, HE⟩
        case measure => simp [intOf] <;> omega
      | false =>
        have HE := Lib.hid (show L.all St.may = false by
          rw [List.all_eq_false]
          exact ⟨s, HMEM.out, by rw [← HM.out]; decide⟩)
        go_wp2_with fail
        go_ret
        exact ⟨⟨k, by first | rfl | trivial, by rw [HE.out]; simp⟩, HB2.out⟩
    · have HE := Lib.hid (show L.all St.may = true by have := HQ.out; rwa [List.take_of_length_le (by rw [← HN.out]; omega)] at this)
      go_wp2_with fail
      go_ret
      exact ⟨⟨-1, by first | rfl | trivial, by rw [HE.out]; decide⟩, HBR.out⟩
theorem may_any {A : Option Addr} {n c : Nat} {L : List St} (w : World) (h : Sm w A n c L) :
    Calls Tryd.prog 11 #[.slice A n c] w fun e w' => e = .returned (.bool (pMay L)) ∧ Below w.heap.size w w' := by
  have HN := Lib.hid h.len
  have CC := Lib.hid (show Calls Tryd.prog 23 #[.slice A n c, .func (.func 24) #[] #[]] w fun e w' => e = .returned (.bool (!(L.all St.may))) ∧ Below w.heap.size w w' from by
    have CI := Lib.hid (indexf_any w h)
    clear h
    go_enter Tryd.func23, Tryd.ntmps23
    go_wp2_with fail
    refine CI.out.mono ?_
    rintro e w2 ⟨⟨z, rfl, hz⟩, hb⟩
    have HZ := Lib.hid hz
    go_wp2_with fail
    go_ret
    exact ⟨ret_bool (by rw [← HZ.out, Bool.eq_iff_iff]), hb⟩)
  have HP := Lib.hid (show pMay L = (decide (n ≤ 512) && L.all St.may) by rw [HN.out]; rfl)
  obtain ⟨q, hq⟩ : ∃ q, q = L.all St.may := ⟨_, rfl⟩
  rw [← hq] at CC HP
  obtain ⟨R, hR⟩ : ∃ R, R = pMay L := ⟨_, rfl⟩
  rw [← hR] at HP ⊢
  clear h hq hR HN
  by_cases h5 : n ≤ 512
  · have HE := Lib.hid (show R = q by rw [HP.out]; simp [h5])
    go_enter Tryd.func11, Tryd.ntmps11
    go_wp2_with fail
    refine CC.out.mono ?_
    rintro e w2 ⟨rfl, hb⟩
    go_wp2_with fail
    go_ret
    exact ⟨ret_bool (by rw [HE.out]), hb⟩
  · have HE := Lib.hid (show R = false by rw [HP.out]; simp [h5])
    have h6 : ¬ (n : Int) ≤ 512 := by omega
    go_enter Tryd.func11, Tryd.ntmps11
    go_wp2_with fail
    go_ret
    exact ⟨ret_bool (by rw [HE.out]), Below.refl _ _⟩
end Pa
end Go.Proofs.YtoebhnhiljlljaaDoor
