/- The program's own Less, walked. -/
import Derived.Test.YthjlnafmpcppfaaGreatDoorDParts
namespace Go.Proofs.YthjlnafmpcppfaaGreatDoor
open Go.RowKit

theorem top_any {m : Bool} {d : ByteArray} {x : Int} (w : World) (hd : d.size ≤ 3000000) (h1 : -1000000000 ≤ x) (h2 : x ≤ 1000000000) :
    Calls Tryz.prog 69 #[fv m d x] w fun e w' => e = .returned (.int .i64 (d.size + x)) ∧ Below w.heap.size w w' := by
  go_enter Tryz.func69, Tryz.ntmps69
  go_wp2_with fail
  go_ret
  exact ⟨rfl, (Below.refl _ _).alloc (Nat.le_refl _) _⟩
theorem bytesLess_lex : ∀ a b : List UInt8, Op.bytesLess a b = lexL a b
  | [], [] => rfl
  | [], _ :: _ => rfl
  | _ :: _, [] => rfl
  | a :: s, b :: t => by
    unfold Op.bytesLess lexL
    rw [bytesLess_lex s t]
    by_cases h : a = b
    · subst h; simp
    · have := u8_ne h
      simp [h, UInt8.lt_iff_toNat_lt]
theorem nearer_val {D E : List UInt8} {x y : Int} : ltM D x E y = if (D.length : Int) + x = (E.length : Int) + y then Op.bytesLess D E else decide ((D.length : Int) + x < (E.length : Int) + y) := by
  rw [bytesLess_lex]
  unfold ltM
  rw [Int.add_comm x, Int.add_comm y, ltA_lex D E 0 (Nat.zero_le _) (Nat.zero_le _), List.drop_zero, List.drop_zero]
def nrr (p q : Bool) (D : List UInt8) (x : Int) (E : List UInt8) (y : Int) : Bool := if (p || q) = true then p else ltM D x E y
set_option maxHeartbeats 2000000 in
set_option maxRecDepth 100000 in
theorem nearer_any {D E : List UInt8} {m n : Bool} {d e : ByteArray} {x y : Int} (p q : Bool) (w : World) (hd : d = txt D) (he : e = txt E) (hD : D.length ≤ 3000000) (hE : E.length ≤ 3000000) (h1 : -1000000000 ≤ x) (h2 : x ≤ 1000000000) (h3 : -1000000000 ≤ y) (h4 : y ≤ 1000000000) (hp : p = ngt m D x) (hq : q = ngt n E y) :
    Calls Tryz.prog 46 #[fv m d x, fv n e y] w fun en w' => en = .returned (.bool (nrr p q D x E y)) ∧ Below w.heap.size w w' := by
  have NG1 := Lib.hid (fun w => nought_is (m := m) (x := x) p w hd hp)
  have NG2 := Lib.hid (fun w => nought_is (m := n) (x := y) q w he hq)
  have hds : d.size = D.length := by rw [hd, txt_size]
  have hes : e.size = E.length := by rw [he, txt_size]
  have TP1 := Lib.hid (fun w => top_any (m := m) (d := d) w (by omega) h1 h2)
  have TP2 := Lib.hid (fun w => top_any (m := n) (d := e) w (by omega) h3 h4)
  have HV := Lib.hid (show nrr false false D x E y = if (d.size : Int) + x = (e.size : Int) + y then Op.bytesLess d.toList e.toList else decide ((d.size : Int) + x < (e.size : Int) + y) by
    unfold nrr; rw [if_neg (by simp), nearer_val, hd, he, txt_list, txt_list, txt_size, txt_size])
  clear hd he hp hq hD hE hds hes
  obtain ⟨u, hu⟩ : ∃ u : Int, (d.size : Int) + x = u := ⟨_, rfl⟩
  obtain ⟨v', hv⟩ : ∃ v : Int, (e.size : Int) + y = v := ⟨_, rfl⟩
  rw [hu] at TP1 HV
  rw [hv] at TP2 HV
  clear hu hv h1 h2 h3 h4
  go_enter Tryz.func46, Tryz.ntmps46
  go_wp2_with fail
  refine (NG1.out _).mono ?_
  rintro en w1 ⟨rfl, rfl⟩
  cases p
  · go_wp2_with fail
    refine (NG2.out _).mono ?_
    rintro en w1 ⟨rfl, rfl⟩
    obtain ⟨W, hW⟩ : ∃ W, W = (((w.alloc (fo m d x)).alloc (fo n e y)).alloc (fo m d x)).alloc (fo n e y) := ⟨_, rfl⟩
    obtain ⟨b, hb⟩ : ∃ b, b = w.heap.size := ⟨_, rfl⟩
    obtain ⟨b', hb'⟩ : ∃ b, b = w.heap.size + 1 := ⟨_, rfl⟩
    have hB : Below w.heap.size w W := by rw [hW]; exact ((((Below.refl _ _).alloc (Nat.le_refl _) _).alloc (by simp) _).alloc (by simp; omega) _).alloc (by simp; omega) _
    have P1 : PS w b m d x W := ⟨hB, by rw [hW, hb]; simp <;> omega, by rw [hW, hb]; simp [go_sem], by rw [hW, hb]; simp [go_sem], by rw [hW, hb]; simp [go_sem]⟩
    have P2 : PS w b' n e y W := ⟨hB, by rw [hW, hb']; simp <;> omega, by rw [hW, hb']; simp [go_sem], by rw [hW, hb']; simp [go_sem], by rw [hW, hb']; simp [go_sem]⟩
    rw [← hW, ← hb', ← hb]
    clear hW hb hb' hB
    have HP1 := Lib.hid P1
    have HP2 := Lib.hid P2
    have c0 := P1.c0
    have c1 := P1.c1
    have c2 := P1.c2
    have e0 := P2.c0
    have e1 := P2.c1
    have e2 := P2.c2
    cases q
    · go_upto_region 3 with fail
      go_cut [17] (fun v wx => v = .bool (u != v') ∧ PS w b m d x wx ∧ PS w b' n e y wx)
      case first =>
        go_region_held3 (fun wx => (PS w b m d x wx ∧ PS w b' n e y wx) ∧ wx.cell? ⟨b, 0, none⟩ = some (.bool m) ∧ wx.cell? ⟨b, 1, none⟩ = some (.string d) ∧ wx.cell? ⟨b, 2, none⟩ = some (.int .i64 x) ∧ wx.cell? ⟨b', 0, none⟩ = some (.bool n) ∧ wx.cell? ⟨b', 1, none⟩ = some (.string e) ∧ wx.cell? ⟨b', 2, none⟩ = some (.int .i64 y))
          (((try go_split_ands); refine (fun h1 h2 => ⟨⟨h1, h2⟩, h1.c0, h1.c1, h1.c2, h2.c0, h2.c1, h2.c2⟩) ?_ ?_ <;> first | assumption | exact PS.drew (by assumption) | (refine PS.on ?_ hb; assumption)))
          ((first | (go_at_call 69; refine (TP1.out _).mono ?_; rintro en w1 ⟨rfl, hb⟩) | (go_at_call 69; refine (TP2.out _).mono ?_; rintro en w1 ⟨rfl, hb⟩)))
        rename_i hS2
        go_wp2_with fail
        go_meet
        exact ⟨rfl, hS2.1⟩
      case rest =>
        obtain ⟨rfl, P1, P2⟩ := hcut
        clear c0 c1 c2 e0 e1 e2 HP1 HP2
        have HP1 := Lib.hid P1
        have HP2 := Lib.hid P2
        have c0 := P1.c0
        have c1 := P1.c1
        have c2 := P1.c2
        have e0 := P2.c0
        have e1 := P2.c1
        have e2 := P2.c2
        by_cases huv : u = v'
        · have E1 := Lib.hid (show nrr false false D x E y = Op.bytesLess d.toList e.toList by rw [HV.out, if_pos huv])
          have huv' : (u != v') = false := by simp [huv]
          clear P1 P2
          rw [huv']
          clear huv huv' TP1 TP2 HV
          go_wp2_with fail
          go_ret
          exact ⟨ret_bool (by rw [E1.out]), HP1.out.below⟩
        · have E1 := Lib.hid (show nrr false false D x E y = decide (u < v') by rw [HV.out, if_neg huv])
          have huv' : (u != v') = true := by simpa using huv
          rw [huv']
          clear huv huv' HV
          go_upto_region 4 with fail
          go_region_held3 (fun wx => (PS w b m d x wx ∧ PS w b' n e y wx) ∧ wx.cell? ⟨b, 0, none⟩ = some (.bool m) ∧ wx.cell? ⟨b, 1, none⟩ = some (.string d) ∧ wx.cell? ⟨b, 2, none⟩ = some (.int .i64 x) ∧ wx.cell? ⟨b', 0, none⟩ = some (.bool n) ∧ wx.cell? ⟨b', 1, none⟩ = some (.string e) ∧ wx.cell? ⟨b', 2, none⟩ = some (.int .i64 y))
            (((try go_split_ands); refine (fun h1 h2 => ⟨⟨h1, h2⟩, h1.c0, h1.c1, h1.c2, h2.c0, h2.c1, h2.c2⟩) ?_ ?_ <;> first | assumption | exact PS.drew (by assumption) | (refine PS.on ?_ hb; assumption)))
            ((first | (go_at_call 69; refine (TP1.out _).mono ?_; rintro en w1 ⟨rfl, hb⟩) | (go_at_call 69; refine (TP2.out _).mono ?_; rintro en w1 ⟨rfl, hb⟩)))
          rename_i hS2
          go_wp2_with fail
          go_ret
          exact ⟨ret_bool (by rw [E1.out]), hS2.1.1.below⟩
    · have E1 := Lib.hid (show nrr false true D x E y = false by unfold nrr; rw [if_pos (by simp)])
      clear P1 P2 TP1 TP2 HV
      go_wp2_with fail
      refine (NG1.out _).mono ?_
      rintro en w1 ⟨rfl, rfl⟩
      go_wp2_with fail
      go_ret
      exact ⟨ret_bool (by rw [E1.out]), HP1.out.below.alloc HP1.out.below.size _⟩
  · have E1 := Lib.hid (show nrr true q D x E y = true by unfold nrr; rw [if_pos (by simp)])
    clear TP1 TP2 HV
    go_wp2_with fail
    refine (NG1.out _).mono ?_
    rintro en w1 ⟨rfl, rfl⟩
    go_wp2_with fail
    go_ret
    exact ⟨ret_bool (by rw [E1.out]), ((((Below.refl _ _).alloc (Nat.le_refl _) _).alloc (by simp) _).alloc (by simp; omega) _).alloc (by simp; omega) _⟩
theorem nearer_is {D E : List UInt8} {m n r : Bool} {d e : ByteArray} {x y : Int} (p q : Bool) (w : World) (hd : d = txt D) (he : e = txt E) (hD : D.length ≤ 3000000) (hE : E.length ≤ 3000000) (h1 : -1000000000 ≤ x) (h2 : x ≤ 1000000000) (h3 : -1000000000 ≤ y) (h4 : y ≤ 1000000000) (hp : p = ngt m D x) (hq : q = ngt n E y) (hr : r = nrr p q D x E y) :
    Calls Tryz.prog 46 #[fv m d x, fv n e y] w fun en w' => en = .returned (.bool r) ∧ Below w.heap.size w w' := by subst hr; exact nearer_any p q w hd he hD hE h1 h2 h3 h4 hp hq
theorem fv_eq {a b : List UInt8} (ha : norm a = true) (hb : norm b = true) : a = b ↔ (ptM a = ptM b ∧ ptD a = ptD b ∧ ptX a = ptX b) :=
  ⟨fun h => by rw [h]; exact ⟨rfl, rfl, rfl⟩, fun h => norm_inj ha hb h.1 h.2.1 h.2.2⟩
/-- What the program tells of two forms that are unlike. -/
def lessF (m n : Bool) (D : List UInt8) (x : Int) (E : List UInt8) (y : Int) : Bool :=
  if m ≠ n then m else if m = true then nrr (ngt n E y) (ngt m D x) E y D x else nrr (ngt m D x) (ngt n E y) D x E y
theorem ngt_norm {a : List UInt8} (h : norm a = true) : ngt (ptM a) (ptD a) (ptX a) = decide (ptD a = [48]) := by
  by_cases h2 : ptD a = [48]
  · have := (norm_unlike h).1 h2
    subst this
    obtain ⟨p1, p2, p3⟩ := nought_parts
    rw [p1, p2, p3]; rfl
  · unfold ngt; simp [h2]
theorem lessF_is {a b : List UInt8} (ha : norm a = true) (hb : norm b = true) (hne : a ≠ b) : less a b = lessF (ptM a) (ptM b) (ptD a) (ptX a) (ptD b) (ptX b) := by
  unfold less lessF
  rw [if_neg (by rw [ha, hb]; simp [hne]), ngt_norm ha, ngt_norm hb]
  have h0a : ptD a = [48] → ptM a = false := fun h => by rw [(norm_unlike ha).1 h]; exact nought_parts.1
  have h0b : ptD b = [48] → ptM b = false := fun h => by rw [(norm_unlike hb).1 h]; exact nought_parts.1
  have hab : ¬ (ptD a = [48] ∧ ptD b = [48]) := fun h => hne (by rw [(norm_unlike ha).1 h.1, (norm_unlike hb).1 h.2])
  unfold nrr
  by_cases e1 : ptD a = [48]
  · have e2 : ptD b ≠ [48] := fun h => hab ⟨e1, h⟩
    rw [if_pos e1, h0a e1]
    cases ptM b <;> simp [e1, e2]
  · rw [if_neg e1]
    by_cases e2 : ptD b = [48]
    · rw [if_pos e2, h0b e2]
      cases ptM a <;> simp [e1, e2]
    · rw [if_neg e2]
      cases ptM a <;> cases ptM b <;> simp [e1, e2]
end Go.Proofs.YthjlnafmpcppfaaGreatDoor
