/- The document's answer on Less, walked. -/
import Derived.Test.YthjlnafmpcppfaaGreatDoorParts
namespace Go.Proofs.YthjlnafmpcppfaaGreatDoor
open Go.RowKit

/-- From place i on: which numerals come first? -/
def ltA (d e : List UInt8) (i : Nat) : Bool :=
  if i < d.length ∧ i < e.length then (if bt d i = bt e i then ltA d e (i + 1) else decide (bt d i < bt e i)) else decide (d.length < e.length)
termination_by d.length - i
theorem ltA_on {d e : List UInt8} {i : Nat} (h1 : i < d.length) (h2 : i < e.length) (h : bt d i = bt e i) : ltA d e i = ltA d e (i + 1) := by rw [ltA, if_pos ⟨h1, h2⟩, if_pos h]
theorem ltA_off {d e : List UInt8} {i : Nat} (h1 : i < d.length) (h2 : i < e.length) (h : ¬ bt d i = bt e i) : ltA d e i = decide (bt d i < bt e i) := by rw [ltA, if_pos ⟨h1, h2⟩, if_neg h]
theorem ltA_end {d e : List UInt8} {i : Nat} (h : ¬ (i < d.length ∧ i < e.length)) : ltA d e i = decide (d.length < e.length) := by rw [ltA, if_neg h]
/-- Which of two sizes is less: numerals and exponents. -/
def ltM (d : List UInt8) (x : Int) (e : List UInt8) (y : Int) : Bool :=
  if x + d.length = y + e.length then ltA d e 0 else decide (x + d.length < y + e.length)
/-- The document's answer on Less. -/
def less (a b : List UInt8) : Bool :=
  if norm a = false ∨ norm b = false ∨ a = b then false else
  if ptD a = [48] then !ptM b else
  if ptD b = [48] then ptM a else
  if ptM a ≠ ptM b then ptM a else
  if ptM a = true then ltM (ptD b) (ptX b) (ptD a) (ptX a) else ltM (ptD a) (ptX a) (ptD b) (ptX b)
theorem ptD_len (l : List UInt8) : (ptD l).length ≤ l.length + 1 := by
  unfold ptD; split
  · simp
  · split
    · simp
    · simp; omega
theorem ptX_range (l : List UInt8) : -1000000000 ≤ ptX l ∧ ptX l ≤ 1000000000 := by
  unfold ptX; split
  · omega
  · exact powR_range l (q4 l) (q5 l) (q_order (l := l)).2.2.2.2.2.2.2
/-- The same, of what Parts gives alone. -/
def lessP (same ok is m n : Bool) (d e : List UInt8) (x y : Int) : Bool :=
  if ok = false ∨ is = false ∨ same = true then false else
  if d = [48] then !n else
  if e = [48] then m else
  if m ≠ n then m else
  if m = true then ltM e y d x else ltM d x e y
theorem less_P (a b : List UInt8) : less a b = lessP (decide (a = b)) (norm a) (norm b) (ptM a) (ptM b) (ptD a) (ptD b) (ptX a) (ptX b) := by
  unfold less lessP; simp only [decide_eq_true_eq]
set_option maxHeartbeats 2000000 in
set_option maxRecDepth 100000 in
theorem less_any {a b : List UInt8} {s t : ByteArray} (w : World) (hs : s = txt a) (ht : t = txt b) (hma : a.length ≤ 1000000) (hmb : b.length ≤ 1000000) :
    Calls Tryz.prog 30 #[.string s, .string t] w fun e w' => e = .returned (.bool (less a b)) ∧ Below w.heap.size w w' := by
  have PA := Lib.hid (fun w => parts_any (l := a) w hs hma)
  have PB := Lib.hid (fun w => parts_any (l := b) w ht hmb)
  have hst : (s.toList == t.toList) = decide (a = b) := by rw [hs, ht, txt_list, txt_list, leq]
  have hdl : (txt (ptD a)).size ≤ 1000001 := by have := ptD_len a; rw [txt_size]; omega
  have hel : (txt (ptD b)).size ≤ 1000001 := by have := ptD_len b; rw [txt_size]; omega
  have ⟨x1, x2⟩ := ptX_range a
  have ⟨y1, y2⟩ := ptX_range b
  clear hs ht hma hmb
  rw [less_P]
  generalize norm a = ok at *
  generalize norm b = is at *
  generalize ptM a = m at *
  generalize ptM b = n at *
  generalize ptD a = d at *
  generalize ptD b = e at *
  generalize ptX a = x at *
  generalize ptX b = y at *
  generalize decide (a = b) = same at *
  have HST := Lib.hid hst
  clear hst
  go_enter Tryz.func30, Tryz.ntmps30
  go_wp2_with fail
  refine (PA.out _).mono ?_
  rintro en w1 ⟨rfl, hb1⟩
  have HB1 := Lib.hid hb1
  clear hb1
  go_wp2_with fail
  refine (PB.out _).mono ?_
  rintro en w2 ⟨rfl, hb2⟩
  have HB2 := Lib.hid (HB1.out.trans (hb2.mono HB1.out.size))
  clear hb2
  go_upto_region 3 with fail
  go_cut [38] (fun v wx => v = .bool (!ok || !is || same) ∧ w2 = wx)
  case first =>
    cases ok
    · go_wp2_with fail
      go_meet
      exact ⟨rfl, rfl⟩
    · cases is
      · go_wp2_with fail
        go_meet
        exact ⟨rfl, rfl⟩
      · go_wp2_with fail
        go_meet
        exact ⟨by rw [HST.out]; rfl, rfl⟩
  case rest =>
    obtain ⟨rfl, rfl⟩ := hcut
    cases hbad : (!ok || !is || same)
    · have h1 : ok = true ∧ is = true ∧ same = false := by cases ok <;> cases is <;> cases same <;> simp_all
      obtain ⟨rfl, rfl, rfl⟩ := h1
      clear hbad
      go_upto_if 40 with fail
      rw [txt_list, leq]
      by_cases hd : d = [48]
      · have E := Lib.hid (show lessP false true true m n d e x y = !n by unfold lessP; rw [if_neg (by simp), if_pos hd])
        rw [show decide (d = [48]) = true by simp [hd]]
        clear hd
        go_wp2_with fail
        go_ret
        exact ⟨ret_bool (by rw [E.out]), HB2.out⟩
      · have HD := Lib.hid hd
        rw [show decide (d = [48]) = false by simp [hd]]
        clear hd
        go_upto_if 44 with fail
        rw [txt_list, leq]
        by_cases he : e = [48]
        · have E := Lib.hid (show lessP false true true m n d e x y = m by unfold lessP; rw [if_neg (by simp), if_neg HD.out, if_pos he])
          rw [show decide (e = [48]) = true by simp [he]]
          clear he
          go_wp2_with fail
          go_ret
          exact ⟨ret_bool (by rw [E.out]), HB2.out⟩
        · have HE := Lib.hid he
          rw [show decide (e = [48]) = false by simp [he]]
          clear he
          by_cases hmn : m = n
          · subst hmn
            have E := Lib.hid (show lessP false true true m m d e x y = ltM (if m = true then e else d) (if m = true then y else x) (if m = true then d else e) (if m = true then x else y) by
              unfold lessP; rw [if_neg (by simp), if_neg HD.out, if_neg HE.out, if_neg (by simp)]; cases m <;> rfl)
            have sz : (txt (if m = true then e else d)).size ≤ 1000001 ∧ (txt (if m = true then d else e)).size ≤ 1000001 ∧ -1000000000 ≤ (if m = true then y else x) ∧ (if m = true then y else x) ≤ 1000000000 ∧ -1000000000 ≤ (if m = true then x else y) ∧ (if m = true then x else y) ≤ 1000000000 := by
              cases m <;> exact ⟨by assumption, by assumption, by assumption, by assumption, by assumption, by assumption⟩
            obtain ⟨D, hD⟩ : ∃ D, D = (if m = true then e else d) := ⟨_, rfl⟩
            obtain ⟨F, hF⟩ : ∃ D, D = (if m = true then d else e) := ⟨_, rfl⟩
            obtain ⟨X, hX⟩ : ∃ D, D = (if m = true then y else x) := ⟨_, rfl⟩
            obtain ⟨Y, hY⟩ : ∃ D, D = (if m = true then x else y) := ⟨_, rfl⟩
            rw [← hD, ← hF, ← hX, ← hY] at sz
            replace E := Lib.hid (show lessP false true true m m d e x y = ltM D X F Y by rw [hD, hF, hX, hY]; exact E.out)
            have SZ := Lib.hid sz
            have HD' := Lib.hid hD
            have HF' := Lib.hid hF
            have HX' := Lib.hid hX
            have HY' := Lib.hid hY
            clear sz hD hF hX hY
            go_upto_if 50 with fail
            go_cut [6, 7, 10, 11] (fun p q r u wx => p = .string (txt D) ∧ q = .int .i64 X ∧ r = .string (txt F) ∧ u = .int .i64 Y ∧ w2 = wx)
            case first =>
              cases m
              · go_wp2_with fail
                go_meet
                exact ⟨by rw [HD'.out]; rfl, by rw [HX'.out]; rfl, by rw [HF'.out]; rfl, by rw [HY'.out]; rfl, rfl⟩
              · go_wp2_with fail
                go_meet
                exact ⟨by rw [HD'.out]; rfl, by rw [HX'.out]; rfl, by rw [HF'.out]; rfl, by rw [HY'.out]; rfl, rfl⟩
            case rest =>
              obtain ⟨rfl, rfl, rfl, rfl, rfl⟩ := hcut
              obtain ⟨z1, z2, z3, z4, z5, z6⟩ := SZ.out
              clear SZ HD HE HD' HF' HX' HY' hdl hel x1 x2 y1 y2
              obtain ⟨p, hp⟩ : ∃ p, p = txt D := ⟨_, rfl⟩
              obtain ⟨q, hq⟩ : ∃ q, q = txt F := ⟨_, rfl⟩
              rw [← hp] at z1 ⊢
              rw [← hq] at z2 ⊢
              have HP := Lib.hid hp
              have HQ := Lib.hid hq
              have HPL := Lib.hid (show p.size = D.length by rw [hp, txt_size])
              have HQL := Lib.hid (show q.size = F.length by rw [hq, txt_size])
              clear hp hq
              by_cases hne : X + p.size = Y + q.size
              · have E2 := Lib.hid (show ltM D X F Y = ltA D F 0 by unfold ltM; rw [← HPL.out, ← HQL.out, if_pos hne])
                have HNE := Lib.hid hne
                clear hne
                go_upto_if 63 with fail
                rw [show (X + (p.size : Int) != Y + (q.size : Int)) = false by simp [HNE.out]]
                go_wp2_with fail
                go_loopw [13] (fun v wr => ∃ k : Nat, v = .int .i64 k ∧ k ≤ p.size ∧ k ≤ q.size ∧ ltA D F 0 = ltA D F k ∧ Below w.heap.size w wr) (fun v _ => p.size - (intOf v).toNat)
                case atStart => exact ⟨0, rfl, by omega, by omega, rfl, HB2.out⟩
                case round =>
                  obtain ⟨k, rfl, hk1, hk2, hr, hbr⟩ := hrel
                  have HR := Lib.hid hr
                  have HBR := Lib.hid hbr
                  clear hr hbr
                  by_cases h1 : k < p.size
                  · by_cases h2 : k < q.size
                    · have hx := txt_at HP.out (k := k)
                      have hy := txt_at HQ.out (k := k)
                      by_cases g : bt D k = bt F k
                      · have E3 := Lib.hid (ltA_on (d := D) (e := F) (by have := HPL.out; omega) (by have := HQL.out; omega) g)
                        have hg : (bt D k != bt F k) = false := by simp [g]
                        clear g
                        go_wp2_with fail
                        go_quiet (fail)
                        go_wp2_with fail
                        go_roundw
                        case rel => exact ⟨k + 1, by go_num, by omega, by omega, by rw [HR.out, E3.out], belowDrewN HBR.out _⟩
                        case measure => simp [intOf]; omega
                      · have E3 := Lib.hid (ltA_off (d := D) (e := F) (by have := HPL.out; omega) (by have := HQL.out; omega) g)
                        have hg : (bt D k != bt F k) = true := by simp [g]
                        clear g
                        go_wp2_with fail
                        go_quiet (fail)
                        go_wp2_with fail
                        go_quiet (fail)
                        go_wp2_with fail
                        go_ret
                        exact ⟨ret_bool (by rw [E.out, E2.out, HR.out, E3.out]), belowDrewN (belowDrewN HBR.out _) _⟩
                    · have E3 := Lib.hid (ltA_end (d := D) (e := F) (i := k) (by have := HQL.out; omega))
                      go_wp2_with fail
                      go_ret
                      exact ⟨ret_bool (by rw [E.out, E2.out, HR.out, E3.out]; have := HPL.out; have := HQL.out; simp; omega), HBR.out⟩
                  · have E3 := Lib.hid (ltA_end (d := D) (e := F) (i := k) (by have := HPL.out; omega))
                    go_wp2_with fail
                    go_ret
                    exact ⟨ret_bool (by rw [E.out, E2.out, HR.out, E3.out]; have := HPL.out; have := HQL.out; simp; omega), HBR.out⟩
              · have E2 := Lib.hid (show ltM D X F Y = decide (X + p.size < Y + q.size) by unfold ltM; rw [← HPL.out, ← HQL.out, if_neg hne])
                go_upto_if 63 with fail
                rw [show (X + (p.size : Int) != Y + (q.size : Int)) = true by simp [hne]]
                clear hne
                go_wp2_with fail
                go_ret
                exact ⟨ret_bool (by rw [E.out, E2.out]), HB2.out⟩
          · have E := Lib.hid (show lessP false true true m n d e x y = m by unfold lessP; rw [if_neg (by simp), if_neg HD.out, if_neg HE.out, if_pos hmn])
            cases m
            · obtain rfl : n = true := by cases n <;> simp_all
              clear hmn
              go_wp2_with fail
              go_ret
              exact ⟨ret_bool (by rw [E.out]), HB2.out⟩
            · obtain rfl : n = false := by cases n <;> simp_all
              clear hmn
              go_wp2_with fail
              go_ret
              exact ⟨ret_bool (by rw [E.out]), HB2.out⟩
    · have h1 := Lib.hid (show lessP same ok is m n d e x y = false by unfold lessP; rw [if_pos]; cases ok <;> cases is <;> cases same <;> simp_all)
      clear hbad
      go_wp2_with fail
      go_ret
      exact ⟨ret_bool (by rw [h1.out]), HB2.out⟩
end Go.Proofs.YthjlnafmpcppfaaGreatDoor
