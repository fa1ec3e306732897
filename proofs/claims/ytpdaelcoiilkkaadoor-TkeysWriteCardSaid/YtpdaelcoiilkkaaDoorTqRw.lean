/- The document's writing of a string (TOML). -/
import Derived.Test.YtpdaelcoiilkkaaDoorTqO
import Derived.Test.YtpdaelcoiilkkaaDoorTqSh
namespace Go.Proofs.YtpdaelcoiilkkaaDoor
open Go.RowKit

theorem plI_pl2 (c : UInt8) : plI (c.toNat : Int) = Tq.pl c := by
  have := Qu.byte_all (p := fun c => plI (c.toNat : Int) == Tq.pl c) (by decide +kernel) c
  simpa using this
def tell (i : Nat) : UInt8 := ([98, 116, 110, 102, 114, 34, 92] : List UInt8).getD i 0
def telv (i : Nat) : Int := ([8, 9, 10, 12, 13, 34, 92] : List Int).getD i 0
/-- What the first short escapes of a byte put. -/
def sel : Nat → Int → List UInt8
  | 0, _ => []
  | j + 1, y => sel j y ++ (if telv j = y then [92, tell j] else [])
theorem sel_yes (j : Nat) {y : Int} (h : telv j = y) : sel (j + 1) y = sel j y ++ [92, tell j] := by rw [sel, if_pos h]
theorem sel_no (j : Nat) {y : Int} (h : telv j ≠ y) : sel (j + 1) y = sel j y := by rw [sel, if_neg h, List.append_nil]
theorem sel_len (j : Nat) (y : Int) : (sel j y).length ≤ 2 * j := by
  induction j with
  | zero => simp [sel]
  | succ j ih => rw [sel, List.length_append]; split <;> simp <;> omega
theorem sel_we {c : UInt8} (h : sel 7 (c.toNat : Int) ≠ []) : Tq.we c = sel 7 (c.toNat : Int) := by
  have := Qu.byte_all (p := fun c => sel 7 (c.toNat : Int) == [] || Tq.we c == sel 7 (c.toNat : Int)) (by decide +kernel) c
  simpa [h] using this
theorem sel_pl {c : UInt8} (h : sel 7 (c.toNat : Int) = []) (hp : Tq.pl c = true) : Tq.we c = [c] := by
  have := Qu.byte_all (p := fun c => !(sel 7 (c.toNat : Int) == []) || !Tq.pl c || Tq.we c == [c]) (by decide +kernel) c
  simpa [h, hp] using this
theorem sel_ct {c : UInt8} (h : sel 7 (c.toNat : Int) = []) (hp : Tq.pl c = false) : Tq.we c = [92, 117, 48, 48, Tq.hxU (c.toNat / 16), Tq.hxU (c.toNat % 16)] := by
  have := Qu.byte_all (p := fun c => !(sel 7 (c.toNat : Int) == []) || Tq.pl c || Tq.we c == [92, 117, 48, 48, Tq.hxU (c.toNat / 16), Tq.hxU (c.toNat % 16)]) (by decide +kernel) c
  simpa [h, hp] using this
theorem tshort_is2 {c x : Int} (hx : tsI c = x) (w : World) : Calls Tryd.prog 44 #[.int .u8 c] w fun e w' => e = .returned (.int .i64 x) ∧ w = w' := hx ▸ tshort_any c w
theorem tplain_is2 {c : Int} {x : Bool} (hx : x = plI c) (w : World) : Calls Tryd.prog 45 #[.int .u8 c] w fun e w' => e = .returned (.bool x) ∧ w = w' := hx ▸ tplain_any c w
theorem WR.ofd {w wr w' : World} {t u : List UInt8} {v v' : Value} {o : Obj} (h : WR w wr t v) (h1 : w'.ownsRow w.heap.size 5 1 v' (t.length + u.length) (bytV t ++ bytV u)) (h2 : (wr.alloc o).drew.grownBy w' v.ownBlock) : WR w w' (t ++ u) v' := WR.of h h1 (gDrew h2)
set_option maxHeartbeats 8000000 in
set_option maxRecDepth 100000 in
theorem trwrite_any {l : List UInt8} {s : ByteArray} (w : World) (hs : s = txt l) (hl : l.length ≤ 1000000) :
    Calls Tryd.prog 31 #[.string s] w fun e w' => e = .returned (.string (txt (Tq.wr l))) ∧ Below w.heap.size w w' := by
  obtain ⟨i0, hi, hz0, hz1, hz2⟩ := info_parts (show (Tryd.prog.info? 5).map (fun i => (i.zero, i.size, i.bytes)) = some (some (.int .u8 0), 1, 1) by kernel_rfl)
  have HS := Lib.hid hs
  have HL := Lib.hid hl
  have HZ := Lib.hid (show s.size = l.length by rw [hs, txt_size])
  have hsz : s.size ≤ 1000000 := by rw [hs, txt_size]; exact hl
  have R0 : WR w (w.alloc (.cells #[.int .u8 34] 5)) [34] (.slice (some ⟨w.heap.size, 0, none⟩) 1 1) := by
    refine ⟨?_, (Below.refl _ _).alloc (Nat.le_refl _) _⟩
    exact World.ownsRow_lit w #[.int .u8 34] 1 (Nat.le_refl _) (by decide) rfl
  clear hs hl
  go_enter Tryd.func31, Tryd.ntmps31
  go_wp2_with fail
  go_loopw [4, 5] (fun v i wr => ∃ k : Nat, k ≤ s.size ∧ i = .int .i64 k ∧ WR w wr (34 :: Tq.wes (l.take k)) v) (fun _ i _ => s.size - (intOf i).toNat)
  case atStart => exact ⟨0, Nat.zero_le _, rfl, R0⟩
  case round =>
    obtain ⟨k, hk, rfl, R⟩ := hrel
    clear R0
    have HR := Lib.hid R
    have hlen : (34 :: Tq.wes (l.take k)).length ≤ 6000001 := by
      have := wes_len (l.take k)
      have h2 : (l.take k).length ≤ k := by simp; omega
      simp; omega
    have HLEN := Lib.hid hlen
    clear R
    by_cases hlt : k < s.size
    · have hkl : k < l.length := by rw [← HZ.out]; exact hlt
      have hx := txt_at HS.out (k := k)
      obtain ⟨y, HY⟩ : ∃ y, Hid (y = bt l k) := ⟨_, rfl⟩
      rw [← HY.out] at hx
      obtain ⟨c, HCC⟩ : ∃ c, Hid (c = l.getD k 0) := ⟨_, rfl⟩
      have HC := Lib.hid (show y = (c.toNat : Int) by rw [HY.out, HCC.out]; rfl)
      have HE := Lib.hid (show Tq.wes (l.take (k + 1)) = Tq.wes (l.take k) ++ Tq.we c by rw [HCC.out, wes_take hkl]; simp [hkl])
      have hy0 : 0 ≤ y := by have := HC.out; omega
      have hy1 : y ≤ 255 := by have := c.toNat_lt; have := HC.out; omega
      have HKL := Lib.hid hkl
      clear hkl hlen
      go_wp2_with fail
      go_loopw [4, 7, 8] (fun v g i wx => ∃ (j : Nat) (B : Bool), j ≤ 7 ∧ i = .int .i64 j ∧ g = .bool B ∧ B = decide (sel j y ≠ []) ∧ WR w wx (34 :: Tq.wes (l.take k) ++ sel j y) v) (fun _ _ i _ => 7 - (intOf i).toNat)
      case atStart => exact ⟨0, false, by omega, rfl, rfl, rfl, by rw [sel, List.append_nil]; exact HR.out⟩
      case round =>
        obtain ⟨j, B, hj, rfl, rfl, hB, R2⟩ := hrel
        have HR2 := Lib.hid R2
        have HB := Lib.hid hB
        have hl2 : (34 :: Tq.wes (l.take k) ++ sel j y).length ≤ 6000020 := by have := sel_len j y; have := HLEN.out; rw [List.length_append]; omega
        clear R2 hB
        rcases (show j = 0 ∨ j = 1 ∨ j = 2 ∨ j = 3 ∨ j = 4 ∨ j = 5 ∨ j = 6 ∨ j = 7 by omega) with rfl | rfl | rfl | rfl | rfl | rfl | rfl | rfl
        · have hli : (((⟨#[98, 116, 110, 102, 114, 34, 92]⟩ : ByteArray)[0]'(by decide)).toNat : Int) = 98 := by decide
          by_cases hc : y = 8
          · have hce : ((8 : Int) == y) = true := by simp [hc]
            have N0 := Lib.hid (show sel 1 y = sel 0 y ++ [92, 98] from sel_yes 0 (by rw [hc]; decide))
            clear hc
            go_wp2_with fail
            refine (tshort_is2 (show tsI 98 = 8 by decide) _).mono ?_
            rintro e w3 ⟨rfl, rfl⟩
            go_wp2_with (at_builtin; refine wpApp _ rfl (.tmp 33) (.tmp 37) 49 rfl w.heap.size 5 i0 (.int .u8 0) 1 Tryd.underlying49 hi hz0 hz1 hz2 rfl _ (34 :: Tq.wes (l.take k) ++ sel 0 y).length (bytV (34 :: Tq.wes (l.take k) ++ sel 0 y)) rfl (HR2.out.1.alloc _) (some ⟨wr.heap.size, 0, none⟩) 2 2 _ [92, 98] rfl rfl (cells_two 92 98 92 98 (by decide) (by decide)) (fun h => by cases h) (by unfold maxLen; omega) (by omega) (by have := HR2.out.2.size; simp; omega) ?_; intro v3 w4 hown3 hg3 _; have F := Lib.hid (WR.of HR2.out hown3 hg3); clear hown3 hg3)
            go_roundw
            case rel => exact ⟨1, true, by omega, by go_num, rfl, (decide_eq_true (by rw [N0.out]; simp)).symm, by rw [N0.out, ← List.append_assoc]; exact F.out⟩
            case measure => simp [intOf]
          · have hce : ((8 : Int) == y) = false := by simp; omega
            have N0 := Lib.hid (show sel 1 y = sel 0 y from sel_no 0 (fun h => hc (by rw [← h]; rfl)))
            clear hc
            go_wp2_with fail
            refine (tshort_is2 (show tsI 98 = 8 by decide) _).mono ?_
            rintro e w3 ⟨rfl, rfl⟩
            go_wp2_with fail
            go_roundw
            case rel => exact ⟨1, B, by omega, by go_num, rfl, by rw [N0.out]; exact HB.out, by rw [N0.out]; exact HR2.out⟩
            case measure => simp [intOf]
        · have hli : (((⟨#[98, 116, 110, 102, 114, 34, 92]⟩ : ByteArray)[1]'(by decide)).toNat : Int) = 116 := by decide
          by_cases hc : y = 9
          · have hce : ((9 : Int) == y) = true := by simp [hc]
            have N0 := Lib.hid (show sel 2 y = sel 1 y ++ [92, 116] from sel_yes 1 (by rw [hc]; decide))
            clear hc
            go_wp2_with fail
            refine (tshort_is2 (show tsI 116 = 9 by decide) _).mono ?_
            rintro e w3 ⟨rfl, rfl⟩
            go_wp2_with (at_builtin; refine wpApp _ rfl (.tmp 33) (.tmp 37) 49 rfl w.heap.size 5 i0 (.int .u8 0) 1 Tryd.underlying49 hi hz0 hz1 hz2 rfl _ (34 :: Tq.wes (l.take k) ++ sel 1 y).length (bytV (34 :: Tq.wes (l.take k) ++ sel 1 y)) rfl (HR2.out.1.alloc _) (some ⟨wr.heap.size, 0, none⟩) 2 2 _ [92, 116] rfl rfl (cells_two 92 116 92 116 (by decide) (by decide)) (fun h => by cases h) (by unfold maxLen; omega) (by omega) (by have := HR2.out.2.size; simp; omega) ?_; intro v3 w4 hown3 hg3 _; have F := Lib.hid (WR.of HR2.out hown3 hg3); clear hown3 hg3)
            go_roundw
            case rel => exact ⟨2, true, by omega, by go_num, rfl, (decide_eq_true (by rw [N0.out]; simp)).symm, by rw [N0.out, ← List.append_assoc]; exact F.out⟩
            case measure => simp [intOf]
          · have hce : ((9 : Int) == y) = false := by simp; omega
            have N0 := Lib.hid (show sel 2 y = sel 1 y from sel_no 1 (fun h => hc (by rw [← h]; rfl)))
            clear hc
            go_wp2_with fail
            refine (tshort_is2 (show tsI 116 = 9 by decide) _).mono ?_
            rintro e w3 ⟨rfl, rfl⟩
            go_wp2_with fail
            go_roundw
            case rel => exact ⟨2, B, by omega, by go_num, rfl, by rw [N0.out]; exact HB.out, by rw [N0.out]; exact HR2.out⟩
            case measure => simp [intOf]
        · have hli : (((⟨#[98, 116, 110, 102, 114, 34, 92]⟩ : ByteArray)[2]'(by decide)).toNat : Int) = 110 := by decide
          by_cases hc : y = 10
          · have hce : ((10 : Int) == y) = true := by simp [hc]
            have N0 := Lib.hid (show sel 3 y = sel 2 y ++ [92, 110] from sel_yes 2 (by rw [hc]; decide))
            clear hc
            go_wp2_with fail
            refine (tshort_is2 (show tsI 110 = 10 by decide) _).mono ?_
            rintro e w3 ⟨rfl, rfl⟩
            go_wp2_with (at_builtin; refine wpApp _ rfl (.tmp 33) (.tmp 37) 49 rfl w.heap.size 5 i0 (.int .u8 0) 1 Tryd.underlying49 hi hz0 hz1 hz2 rfl _ (34 :: Tq.wes (l.take k) ++ sel 2 y).length (bytV (34 :: Tq.wes (l.take k) ++ sel 2 y)) rfl (HR2.out.1.alloc _) (some ⟨wr.heap.size, 0, none⟩) 2 2 _ [92, 110] rfl rfl (cells_two 92 110 92 110 (by decide) (by decide)) (fun h => by cases h) (by unfold maxLen; omega) (by omega) (by have := HR2.out.2.size; simp; omega) ?_; intro v3 w4 hown3 hg3 _; have F := Lib.hid (WR.of HR2.out hown3 hg3); clear hown3 hg3)
            go_roundw
            case rel => exact ⟨3, true, by omega, by go_num, rfl, (decide_eq_true (by rw [N0.out]; simp)).symm, by rw [N0.out, ← List.append_assoc]; exact F.out⟩
            case measure => simp [intOf]
          · have hce : ((10 : Int) == y) = false := by simp; omega
            have N0 := Lib.hid (show sel 3 y = sel 2 y from sel_no 2 (fun h => hc (by rw [← h]; rfl)))
            clear hc
            go_wp2_with fail
            refine (tshort_is2 (show tsI 110 = 10 by decide) _).mono ?_
            rintro e w3 ⟨rfl, rfl⟩
            go_wp2_with fail
            go_roundw
            case rel => exact ⟨3, B, by omega, by go_num, rfl, by rw [N0.out]; exact HB.out, by rw [N0.out]; exact HR2.out⟩
            case measure => simp [intOf]
        · have hli : (((⟨#[98, 116, 110, 102, 114, 34, 92]⟩ : ByteArray)[3]'(by decide)).toNat : Int) = 102 := by decide
          by_cases hc : y = 12
          · have hce : ((12 : Int) == y) = true := by simp [hc]
            have N0 := Lib.hid (show sel 4 y = sel 3 y ++ [92, 102] from sel_yes 3 (by rw [hc]; decide))
            clear hc
            go_wp2_with fail
            refine (tshort_is2 (show tsI 102 = 12 by decide) _).mono ?_
            rintro e w3 ⟨rfl, rfl⟩
            go_wp2_with (at_builtin; refine wpApp _ rfl (.tmp 33) (.tmp 37) 49 rfl w.heap.size 5 i0 (.int .u8 0) 1 Tryd.underlying49 hi hz0 hz1 hz2 rfl _ (34 :: Tq.wes (l.take k) ++ sel 3 y).length (bytV (34 :: Tq.wes (l.take k) ++ sel 3 y)) rfl (HR2.out.1.alloc _) (some ⟨wr.heap.size, 0, none⟩) 2 2 _ [92, 102] rfl rfl (cells_two 92 102 92 102 (by decide) (by decide)) (fun h => by cases h) (by unfold maxLen; omega) (by omega) (by have := HR2.out.2.size; simp; omega) ?_; intro v3 w4 hown3 hg3 _; have F := Lib.hid (WR.of HR2.out hown3 hg3); clear hown3 hg3)
            go_roundw
            case rel => exact ⟨4, true, by omega, by go_num, rfl, (decide_eq_true (by rw [N0.out]; simp)).symm, by rw [N0.out, ← List.append_assoc]; exact F.out⟩
            case measure => simp [intOf]
          · have hce : ((12 : Int) == y) = false := by simp; omega
            have N0 := Lib.hid (show sel 4 y = sel 3 y from sel_no 3 (fun h => hc (by rw [← h]; rfl)))
            clear hc
            go_wp2_with fail
            refine (tshort_is2 (show tsI 102 = 12 by decide) _).mono ?_
            rintro e w3 ⟨rfl, rfl⟩
            go_wp2_with fail
            go_roundw
            case rel => exact ⟨4, B, by omega, by go_num, rfl, by rw [N0.out]; exact HB.out, by rw [N0.out]; exact HR2.out⟩
            case measure => simp [intOf]
        · have hli : (((⟨#[98, 116, 110, 102, 114, 34, 92]⟩ : ByteArray)[4]'(by decide)).toNat : Int) = 114 := by decide
          by_cases hc : y = 13
          · have hce : ((13 : Int) == y) = true := by simp [hc]
            have N0 := Lib.hid (show sel 5 y = sel 4 y ++ [92, 114] from sel_yes 4 (by rw [hc]; decide))
            clear hc
            go_wp2_with fail
            refine (tshort_is2 (show tsI 114 = 13 by decide) _).mono ?_
            rintro e w3 ⟨rfl, rfl⟩
            go_wp2_with (at_builtin; refine wpApp _ rfl (.tmp 33) (.tmp 37) 49 rfl w.heap.size 5 i0 (.int .u8 0) 1 Tryd.underlying49 hi hz0 hz1 hz2 rfl _ (34 :: Tq.wes (l.take k) ++ sel 4 y).length (bytV (34 :: Tq.wes (l.take k) ++ sel 4 y)) rfl (HR2.out.1.alloc _) (some ⟨wr.heap.size, 0, none⟩) 2 2 _ [92, 114] rfl rfl (cells_two 92 114 92 114 (by decide) (by decide)) (fun h => by cases h) (by unfold maxLen; omega) (by omega) (by have := HR2.out.2.size; simp; omega) ?_; intro v3 w4 hown3 hg3 _; have F := Lib.hid (WR.of HR2.out hown3 hg3); clear hown3 hg3)
            go_roundw
            case rel => exact ⟨5, true, by omega, by go_num, rfl, (decide_eq_true (by rw [N0.out]; simp)).symm, by rw [N0.out, ← List.append_assoc]; exact F.out⟩
            case measure => simp [intOf]
          · have hce : ((13 : Int) == y) = false := by simp; omega
            have N0 := Lib.hid (show sel 5 y = sel 4 y from sel_no 4 (fun h => hc (by rw [← h]; rfl)))
            clear hc
            go_wp2_with fail
            refine (tshort_is2 (show tsI 114 = 13 by decide) _).mono ?_
            rintro e w3 ⟨rfl, rfl⟩
            go_wp2_with fail
            go_roundw
            case rel => exact ⟨5, B, by omega, by go_num, rfl, by rw [N0.out]; exact HB.out, by rw [N0.out]; exact HR2.out⟩
            case measure => simp [intOf]
        · have hli : (((⟨#[98, 116, 110, 102, 114, 34, 92]⟩ : ByteArray)[5]'(by decide)).toNat : Int) = 34 := by decide
          by_cases hc : y = 34
          · have hce : ((34 : Int) == y) = true := by simp [hc]
            have N0 := Lib.hid (show sel 6 y = sel 5 y ++ [92, 34] from sel_yes 5 (by rw [hc]; decide))
            clear hc
            go_wp2_with fail
            refine (tshort_is2 (show tsI 34 = 34 by decide) _).mono ?_
            rintro e w3 ⟨rfl, rfl⟩
            go_wp2_with (at_builtin; refine wpApp _ rfl (.tmp 33) (.tmp 37) 49 rfl w.heap.size 5 i0 (.int .u8 0) 1 Tryd.underlying49 hi hz0 hz1 hz2 rfl _ (34 :: Tq.wes (l.take k) ++ sel 5 y).length (bytV (34 :: Tq.wes (l.take k) ++ sel 5 y)) rfl (HR2.out.1.alloc _) (some ⟨wr.heap.size, 0, none⟩) 2 2 _ [92, 34] rfl rfl (cells_two 92 34 92 34 (by decide) (by decide)) (fun h => by cases h) (by unfold maxLen; omega) (by omega) (by have := HR2.out.2.size; simp; omega) ?_; intro v3 w4 hown3 hg3 _; have F := Lib.hid (WR.of HR2.out hown3 hg3); clear hown3 hg3)
            go_roundw
            case rel => exact ⟨6, true, by omega, by go_num, rfl, (decide_eq_true (by rw [N0.out]; simp)).symm, by rw [N0.out, ← List.append_assoc]; exact F.out⟩
            case measure => simp [intOf]
          · have hce : ((34 : Int) == y) = false := by simp; omega
            have N0 := Lib.hid (show sel 6 y = sel 5 y from sel_no 5 (fun h => hc (by rw [← h]; rfl)))
            clear hc
            go_wp2_with fail
            refine (tshort_is2 (show tsI 34 = 34 by decide) _).mono ?_
            rintro e w3 ⟨rfl, rfl⟩
            go_wp2_with fail
            go_roundw
            case rel => exact ⟨6, B, by omega, by go_num, rfl, by rw [N0.out]; exact HB.out, by rw [N0.out]; exact HR2.out⟩
            case measure => simp [intOf]
        · have hli : (((⟨#[98, 116, 110, 102, 114, 34, 92]⟩ : ByteArray)[6]'(by decide)).toNat : Int) = 92 := by decide
          by_cases hc : y = 92
          · have hce : ((92 : Int) == y) = true := by simp [hc]
            have N0 := Lib.hid (show sel 7 y = sel 6 y ++ [92, 92] from sel_yes 6 (by rw [hc]; decide))
            clear hc
            go_wp2_with fail
            refine (tshort_is2 (show tsI 92 = 92 by decide) _).mono ?_
            rintro e w3 ⟨rfl, rfl⟩
            go_wp2_with (at_builtin; refine wpApp _ rfl (.tmp 33) (.tmp 37) 49 rfl w.heap.size 5 i0 (.int .u8 0) 1 Tryd.underlying49 hi hz0 hz1 hz2 rfl _ (34 :: Tq.wes (l.take k) ++ sel 6 y).length (bytV (34 :: Tq.wes (l.take k) ++ sel 6 y)) rfl (HR2.out.1.alloc _) (some ⟨wr.heap.size, 0, none⟩) 2 2 _ [92, 92] rfl rfl (cells_two 92 92 92 92 (by decide) (by decide)) (fun h => by cases h) (by unfold maxLen; omega) (by omega) (by have := HR2.out.2.size; simp; omega) ?_; intro v3 w4 hown3 hg3 _; have F := Lib.hid (WR.of HR2.out hown3 hg3); clear hown3 hg3)
            go_roundw
            case rel => exact ⟨7, true, by omega, by go_num, rfl, (decide_eq_true (by rw [N0.out]; simp)).symm, by rw [N0.out, ← List.append_assoc]; exact F.out⟩
            case measure => simp [intOf]
          · have hce : ((92 : Int) == y) = false := by simp; omega
            have N0 := Lib.hid (show sel 7 y = sel 6 y from sel_no 6 (fun h => hc (by rw [← h]; rfl)))
            clear hc
            go_wp2_with fail
            refine (tshort_is2 (show tsI 92 = 92 by decide) _).mono ?_
            rintro e w3 ⟨rfl, rfl⟩
            go_wp2_with fail
            go_roundw
            case rel => exact ⟨7, B, by omega, by go_num, rfl, by rw [N0.out]; exact HB.out, by rw [N0.out]; exact HR2.out⟩
            case measure => simp [intOf]
        · cases B
          · have HN := Lib.hid (show sel 7 y = [] by
              have := HB.out
              by_cases h : sel 7 y = []
              · exact h
              · rw [decide_eq_true h] at this; cases this)
            have HR3 : Hid (WR w wr (34 :: Tq.wes (l.take k)) u4) := by have := HR2.out; rw [HN.out, List.append_nil] at this; exact this
            have HNC := Lib.hid (show sel 7 (c.toNat : Int) = [] by rw [← HC.out]; exact HN.out)
            have hl3 : (34 :: Tq.wes (l.take k)).length ≤ 6000020 := by have := HLEN.out; omega
            obtain ⟨z, HZP⟩ : ∃ z, Hid (z = plI y) := ⟨_, rfl⟩
            have HPL := Lib.hid (show Tq.pl c = z by rw [HZP.out, HC.out, plI_pl2])
            cases z
            · have HWE := Lib.hid (sel_ct HNC.out HPL.out)
              go_wp2_with fail
              refine (tplain_is2 HZP.out _).mono ?_
              rintro e w3 ⟨rfl, rfl⟩
              obtain ⟨A, HA⟩ : ∃ A : Int, Hid (A = ((Tq.hxU (c.toNat / 16)).toNat : Int)) := ⟨_, rfl⟩
              obtain ⟨D, HD⟩ : ∃ D : Int, Hid (D = ((Tq.hxU (c.toNat % 16)).toNat : Int)) := ⟨_, rfl⟩
              have w1 : IntKind.u8.wrap (y / 16) = y / 16 := by rw [IntKind.wrap_u8']; omega
              have w4 : y.tmod 16 = y % 16 := Int.tmod_eq_emod_of_nonneg hy0
              have w5 : y.tdiv 16 = y / 16 := Int.tdiv_eq_ediv_of_nonneg hy0
              have q0 : 0 ≤ y / 16 := by omega
              have q1 : y / 16 < 16 := by omega
              have q2 : 0 ≤ y % 16 := by omega
              have q3 : y % 16 < 16 := by omega
              have e1 : ∀ h : (y / 16).toNat < (⟨#[48, 49, 50, 51, 52, 53, 54, 55, 56, 57, 65, 66, 67, 68, 69, 70]⟩ : ByteArray).size, ((((⟨#[48, 49, 50, 51, 52, 53, 54, 55, 56, 57, 65, 66, 67, 68, 69, 70]⟩ : ByteArray)[(y / 16).toNat]'h).toNat : Nat) : Int) = A := fun h => by
                rw [HA.out, ← figU_at (n := c.toNat / 16) (by have := HC.out; omega)]
                simp only [show (y / 16).toNat = c.toNat / 16 by have := HC.out; omega]
              have e2 : ∀ h : (y % 16).toNat < (⟨#[48, 49, 50, 51, 52, 53, 54, 55, 56, 57, 65, 66, 67, 68, 69, 70]⟩ : ByteArray).size, ((((⟨#[48, 49, 50, 51, 52, 53, 54, 55, 56, 57, 65, 66, 67, 68, 69, 70]⟩ : ByteArray)[(y % 16).toNat]'h).toNat : Nat) : Int) = D := fun h => by
                rw [HD.out, ← figU_at (n := c.toNat % 16) (by omega)]
                simp only [show (y % 16).toNat = c.toNat % 16 by have := HC.out; omega]
              have HCS := Lib.hid (cells_six (w := wr) 92 117 48 48 (Tq.hxU (c.toNat / 16)) (Tq.hxU (c.toNat % 16)))
              rw [← HA.out, ← HD.out] at HCS
              have HOd := Lib.hid (HR3.out.1.alloc (.cells #[.int .u8 92, .int .u8 117, .int .u8 48, .int .u8 48, .int .u8 A, .int .u8 D] 5)).drew
              go_wp2_with fail
              go_region_law (first
                | (refine tstep_app rfl (.tmp 46) (.tmp 55) 49 rfl w.heap.size 5 i0 (.int .u8 0) 1 Tryd.underlying49 hi hz0 hz1 hz2 rfl u4 (34 :: Tq.wes (l.take k)).length (bytV (34 :: Tq.wes (l.take k))) rfl HOd.out (some ⟨wr.heap.size, 0, none⟩) 6 6 _ [92, 117, 48, 48, Tq.hxU (c.toNat / 16), Tq.hxU (c.toNat % 16)] rfl rfl HCS.out (fun h => by cases h) (by unfold maxLen; omega) (by omega) (by have := HR3.out.2.size; show w.heap.size ≤ (World.alloc _ _).heap.size; simp; omega) ?_; intro v2 w2 hown2 hg2; have F := Lib.hid (WR.ofd HR3.out hown2 hg2); clear hown2 hg2))
              all_goals go_wp2_with fail
              all_goals go_roundw
              all_goals first
                | exact ⟨k + 1, by omega, by go_num, by rw [HE.out, HWE.out, ← List.cons_append]; exact F.out⟩
                | (simp [intOf]; omega)
            · have HWE := Lib.hid (sel_pl HNC.out HPL.out)
              go_wp2_with fail
              refine (tplain_is2 HZP.out _).mono ?_
              rintro e w3 ⟨rfl, rfl⟩
              go_wp2_with (at_builtin; refine wpApp _ rfl (.tmp 42) (.tmp 44) 49 rfl w.heap.size 5 i0 (.int .u8 0) 1 Tryd.underlying49 hi hz0 hz1 hz2 rfl _ (34 :: Tq.wes (l.take k)).length (bytV (34 :: Tq.wes (l.take k))) rfl (HR3.out.1.alloc _) (some ⟨wr.heap.size, 0, none⟩) 1 1 _ [c] rfl rfl (cells_one' c y HC.out) (fun h => by cases h) (by unfold maxLen; omega) (by omega) (by have := HR3.out.2.size; simp; omega) ?_; intro v3 w4 hown3 hg3 _; have F := Lib.hid (WR.of HR3.out hown3 hg3); clear hown3 hg3)
              go_roundw
              case rel => exact ⟨k + 1, by omega, by go_num, by rw [HE.out, HWE.out, ← List.cons_append]; exact F.out⟩
              case measure => simp [intOf]; omega
          · have HWE := Lib.hid (show Tq.we c = sel 7 y by
              rw [HC.out]
              refine sel_we ?_
              rw [← HC.out]
              exact of_decide_eq_true HB.out.symm)
            go_wp2_with fail
            go_roundw
            case rel => exact ⟨k + 1, by omega, by go_num, by rw [HE.out, HWE.out, ← List.cons_append]; exact HR2.out⟩
            case measure => simp [intOf]; omega
    · obtain rfl : k = s.size := by omega
      have HK := Lib.hid (show l.take s.size = l by rw [HZ.out, List.take_length])
      clear hlt
      go_wp2_with (at_builtin; refine wpApp _ rfl (.tmp 57) (.tmp 58) 49 rfl w.heap.size 5 i0 (.int .u8 0) 1 Tryd.underlying49 hi hz0 hz1 hz2 rfl _ (34 :: Tq.wes (l.take s.size)).length (bytV (34 :: Tq.wes (l.take s.size))) rfl (HR.out.1.alloc _) (some ⟨wr.heap.size, 0, none⟩) 1 1 _ [34] rfl rfl (cells_one' 34 34 (by decide)) (fun h => by cases h) (by unfold maxLen; omega) (by omega) (by have := HR.out.2.size; simp; omega) ?_; intro v3 w3 hown3 hg3 _; have F := WR.of HR.out hown3 hg3; have HF2 := Lib.hid F.2; obtain ⟨A, n, c, S, rfl, hcv, hS⟩ := F.conv; rw [HK.out] at hS; have HSS := Lib.hid hS; clear F hown3 hg3 hS)
      go_ret
      exact ⟨by rw [HSS.out]; rfl, HF2.out⟩
end Go.Proofs.YtpdaelcoiilkkaaDoor
