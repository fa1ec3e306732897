/- The document's answer on whether a text is a number's, walked. -/
import Derived.Test.YthjlnafmpcppfaaGreatDoorRun
import Derived.Deep.DeepCutAuto
import Derived.Deep.LoopGhost
import Derived.Below
namespace Go.Proofs.YthjlnafmpcppfaaGreatDoor
open Go.RowKit

/-- Where a number's parts begin and end. -/
def q0 (l : List UInt8) : Nat := if bt l 0 = 45 then 1 else 0
def q1 (l : List UInt8) : Nat := runE l (q0 l)
def bad1 (l : List UInt8) : Bool := decide (q1 l = q0 l ∨ bt l (q0 l) = 48 ∧ q0 l + 1 < q1 l)
def dot (l : List UInt8) : Bool := decide (bt l (q1 l) = 46)
def q2 (l : List UInt8) : Nat := if dot l = true then q1 l + 1 else q1 l
def q3 (l : List UInt8) : Nat := if dot l = true then runE l (q2 l) else q1 l
def exq (l : List UInt8) : Bool := decide (bt l (q3 l) = 101 ∨ bt l (q3 l) = 69)
def sgn (l : List UInt8) : Bool := decide (bt l (q3 l + 1) = 43 ∨ bt l (q3 l + 1) = 45)
def q4 (l : List UInt8) : Nat := if exq l = true then (if sgn l = true then q3 l + 1 + 1 else q3 l + 1) else q3 l
def q5 (l : List UInt8) : Nat := if exq l = true then runE l (q4 l) else q3 l
/-- Is it a number's text? -/
def isB (l : List UInt8) : Bool := !bad1 l && (!dot l || decide (q3 l ≠ q2 l)) && (!exq l || decide (q5 l ≠ q4 l)) && decide (q5 l = l.length)
theorem bt_far {l : List UInt8} {k : Nat} (h : l.length ≤ k) : bt l k = 0 := by simp [bt, List.getElem?_eq_none h]
def IsPost (w : World) (l : List UInt8) (e : Ending) (w' : World) : Prop :=
  ∃ a b c d f g : Int, e = .returned (.tuple #[.agg #[.int .i64 a, .int .i64 b, .int .i64 c, .int .i64 d, .int .i64 f, .int .i64 g], .bool (isB l)]) ∧
    (isB l = true → a = q0 l ∧ b = q1 l ∧ c = q2 l ∧ d = q3 l ∧ f = q4 l ∧ g = q5 l) ∧ Below w.heap.size w w'
abbrev six (a b c d e f : Int) : Obj := .cells #[.int .i64 a, .int .i64 b, .int .i64 c, .int .i64 d, .int .i64 e, .int .i64 f] 57

theorem run_is {l : List UInt8} {s : ByteArray} (i : Nat) (x y : Int) (w : World) (hs : s = txt l) (hi : i ≤ l.length) (hm : l.length ≤ 1000000) (hx : x = i) (hy : y = runE l i) :
    Calls Tryz.prog 67 #[.string s, .int .i64 x] w fun e w' => e = .returned (.int .i64 y) ∧ w = w' := by subst hx; subst hy; exact run_any i w hs hi hm
theorem below2 (w : World) (a b c d e f : Int) (a' b' c' d' e' f' : Int) : Below w.heap.size w ((w.alloc (six a b c d e f)).alloc (six a' b' c' d' e' f')) := ((Below.refl _ _).alloc (Nat.le_refl _) _).alloc (by simp) _
theorem q3_ge (l : List UInt8) : q1 l ≤ q3 l := by
  unfold q3; split
  · rename_i h
    have := runE_ge l (q2 l); unfold q2 at *; rw [if_pos h] at *; omega
  · exact Nat.le_refl _
theorem eqd (a b : Int) : (a == b) = decide (a = b) := by rw [Bool.eq_iff_iff]; simp
set_option maxHeartbeats 2000000 in
set_option maxRecDepth 100000 in
theorem is_any {l : List UInt8} {s : ByteArray} (w : World) (hs : s = txt l) (hm : l.length ≤ 1000000) :
    Calls Tryz.prog 41 #[.string s] w (IsPost w l) := by
  have HZ := Lib.hid (show s.size = l.length by rw [hs, txt_size])
  have HS := Lib.hid hs
  have hsz : s.size ≤ 1000000 := by have := HZ.out; omega
  have hq0 : q0 l ≤ s.size := by
    have := HZ.out
    unfold q0; split
    · rename_i h
      rcases Nat.eq_zero_or_pos l.length with h2 | h2
      · rw [bt_far (by omega)] at h; omega
      · omega
    · omega
  have hq1 : q1 l ≤ s.size := by have := HZ.out; have := runE_le l (q0 l) (by omega); unfold q1; omega
  have hq01 : q0 l ≤ q1 l := runE_ge l (q0 l)
  have hdl : dot l = true → q1 l < s.size := fun h => by
    have := HZ.out
    rcases Nat.lt_or_ge (q1 l) s.size with h2 | h2
    · exact h2
    · unfold dot at h; rw [bt_far (by omega)] at h; cases h
  have hq3 : q3 l ≤ s.size := by
    have := HZ.out
    unfold q3; split
    · rename_i h
      have h1 := hdl h
      have : q2 l = q1 l + 1 := by unfold q2; rw [if_pos h]
      have := runE_le l (q2 l) (by omega); omega
    · exact hq1
  have hel : exq l = true → q3 l < s.size := fun h => by
    have := HZ.out
    rcases Nat.lt_or_ge (q3 l) s.size with h2 | h2
    · exact h2
    · unfold exq at h; rw [bt_far (by omega)] at h; cases h
  have Hdl := Lib.hid hdl
  have Hel := Lib.hid hel
  clear hs hm hdl hel
  go_enter Tryz.func41, Tryz.ntmps41
  go_upto_region 3 with fail
  go_cut [15] (fun x wx => x = .bool (decide (bt l 0 = 45)) ∧ wx = (w.alloc (six 0 0 0 0 0 0)).alloc (six 0 0 0 0 0 0))
  case first =>
    by_cases h : 0 < s.size
    · have hx := txt_at HS.out (k := 0)
      go_wp2_with fail
      go_meet
      exact ⟨by rw [eqd], rfl⟩
    · have E := Lib.hid (bt_far (l := l) (k := 0) (by have := HZ.out; omega))
      go_wp2_with fail
      go_meet
      exact ⟨by rw [E.out]; rfl, rfl⟩
  case rest =>
    obtain ⟨rfl, rfl⟩ := hcut
    go_upto_if 15 with fail
    go_cut [5] (fun x wx => x = .int .i64 (q0 l : Int) ∧ wx = (w.alloc (six 0 0 0 0 0 0)).alloc (six 0 0 0 0 0 0))
    case first =>
      by_cases h : bt l 0 = 45
      · have E := Lib.hid (show q0 l = 1 by simp [q0, h])
        go_wp2_with fail
        go_meet
        exact ⟨by rw [E.out]; rfl, rfl⟩
      · have E := Lib.hid (show q0 l = 0 by simp [q0, h])
        go_wp2_with fail
        go_meet
        exact ⟨by rw [E.out]; rfl, rfl⟩
    case rest =>
      obtain ⟨rfl, rfl⟩ := hcut
      go_upto_region 8 with (go_at_call 67; refine (run_is (q0 l) _ (q1 l : Int) _ HS.out (by have := HZ.out; omega) (by have := HZ.out; omega) rfl rfl).mono ?_; rintro e w' ⟨rfl, rfl⟩)
      go_cut [44] (fun x wx => x = .bool (bad1 l) ∧ wx = (w.alloc (six 0 0 0 0 0 0)).alloc (six (q0 l) (q1 l) 0 0 0 0))
      case first =>
        by_cases g1 : q1 l = q0 l
        · have E := Lib.hid (show bad1 l = true by simp [bad1, g1])
          have g1' : ((q1 l : Int) == (q0 l : Int)) = true := by simp; omega
          clear g1
          go_wp2_with fail
          go_meet
          exact ⟨by rw [E.out], rfl⟩
        · have g1' : ((q1 l : Int) == (q0 l : Int)) = false := by simp; omega
          have g3 : q0 l < s.size := by omega
          have hx := txt_at HS.out (k := q0 l)
          by_cases g2 : bt l (q0 l) = 48
          · by_cases g4 : (q0 l : Int) + 1 < q1 l
            · have E := Lib.hid (show bad1 l = true by simp [bad1, g2]; omega)
              go_wp2_with fail
              go_meet
              exact ⟨by rw [E.out], rfl⟩
            · have E := Lib.hid (show bad1 l = false by simp [bad1, g2, g1]; omega)
              go_wp2_with fail
              go_meet
              exact ⟨by rw [E.out], rfl⟩
          · have E := Lib.hid (show bad1 l = false by simp [bad1, g2, g1])
            go_wp2_with fail
            go_meet
            exact ⟨by rw [E.out], rfl⟩
      case rest =>
        obtain ⟨rfl, rfl⟩ := hcut
        by_cases hbad : bad1 l = true
        · have E : isB l = false := by simp [isB, hbad]
          rw [hbad]
          clear hbad
          go_wp2_with fail
          refine bodyPost_ret (v := .tuple #[.agg #[.int .i64 (q0 l), .int .i64 (q1 l), .int .i64 0, .int .i64 0, .int .i64 0, .int .i64 0], .bool false]) (by simp [results, Tryz.results41, go_sem]) rfl ?_
          exact ⟨_, _, _, _, _, _, by rw [E], fun h => by rw [E] at h; (cases h), below2 ..⟩
        · have hbad : bad1 l = false := by simpa using hbad
          rw [hbad]
          go_upto_region 12 with fail
          go_cut [59] (fun x wx => x = .bool (dot l) ∧ wx = (w.alloc (six 0 0 0 0 0 0)).alloc (six (q0 l) (q1 l) (q1 l) (q1 l) 0 0))
          case first =>
            by_cases h : q1 l < s.size
            · have hx := txt_at HS.out (k := q1 l)
              go_wp2_with fail
              go_meet
              exact ⟨by rw [eqd]; rfl, rfl⟩
            · have E := Lib.hid (show dot l = false by unfold dot; rw [bt_far (by have := HZ.out; omega)]; rfl)
              go_wp2_with fail
              go_meet
              exact ⟨by rw [E.out], rfl⟩
          case rest =>
            obtain ⟨rfl, rfl⟩ := hcut
            go_upto_if 59 with fail
            go_cut [5] (fun x wx => x = .int .i64 (q3 l : Int) ∧ (dot l = true → q3 l ≠ q2 l) ∧ wx = (w.alloc (six 0 0 0 0 0 0)).alloc (six (q0 l) (q1 l) (q2 l) (q3 l) 0 0))
            case first =>
              by_cases hdot : dot l = true
              · have h1 := Hdl.out hdot
                have e2 : q2 l = q1 l + 1 := by unfold q2; rw [if_pos hdot]
                have e3 : q3 l = runE l (q1 l + 1) := by unfold q3; rw [if_pos hdot, e2]
                have HE2 := Lib.hid e2
                have HE3 := Lib.hid e3
                have HD := Lib.hid hdot
                rw [hdot]
                by_cases g : q3 l = q2 l
                · have E : isB l = false := by simp [isB, hdot, g]
                  have g1 : ((q3 l : Int) == (q1 l : Int) + 1) = true := by rw [eqd]; simp; omega
                  clear hdot e2 e3 g
                  go_wp2_with (go_at_call 67; refine (run_is (q1 l + 1) _ (q3 l : Int) _ HS.out (by have := HZ.out; omega) (by have := HZ.out; omega) (by omega) (by rw [HE3.out])).mono ?_; rintro e w' ⟨rfl, rfl⟩)
                  refine bodyPost_ret (v := .tuple #[.agg #[.int .i64 (q0 l), .int .i64 (q1 l), .int .i64 ((q1 l : Int) + 1), .int .i64 (q3 l), .int .i64 0, .int .i64 0], .bool false]) (by simp [results, Tryz.results41, go_sem]) rfl ?_
                  exact ⟨_, _, _, _, _, _, by rw [E], fun h => by rw [E] at h; (cases h), below2 ..⟩
                · have g1 : ((q3 l : Int) == (q1 l : Int) + 1) = false := by rw [eqd]; simp; omega
                  have HG := Lib.hid g
                  clear hdot e2 e3 g
                  go_wp2_with (go_at_call 67; refine (run_is (q1 l + 1) _ (q3 l : Int) _ HS.out (by have := HZ.out; omega) (by have := HZ.out; omega) (by omega) (by rw [HE3.out])).mono ?_; rintro e w' ⟨rfl, rfl⟩)
                  go_meet
                  exact ⟨rfl, fun _ => HG.out, by rw [show ((q2 l : Nat) : Int) = (q1 l : Int) + 1 by have := HE2.out; omega]⟩
              · have hdot : dot l = false := by simpa using hdot
                have e2 : q2 l = q1 l := by unfold q2; rw [if_neg (by rw [hdot]; simp)]
                have e3 : q3 l = q1 l := by unfold q3; rw [if_neg (by rw [hdot]; simp)]
                have HE2 := Lib.hid e2
                have HE3 := Lib.hid e3
                have HD := Lib.hid hdot
                rw [hdot]
                clear hdot e2 e3
                go_wp2_with fail
                go_meet
                exact ⟨by rw [HE3.out], fun h => by rw [HD.out] at h; (cases h), by rw [HE2.out, HE3.out]⟩
            case rest =>
              obtain ⟨rfl, hdg, rfl⟩ := hcut
              have HDG := Lib.hid hdg
              clear hdg
              go_upto_region 20 with fail
              go_cut [95] (fun x wx => x = .bool (exq l) ∧ wx = (w.alloc (six 0 0 0 0 0 0)).alloc (six (q0 l) (q1 l) (q2 l) (q3 l) (q3 l) (q3 l)))
              case first =>
                by_cases h : q3 l < s.size
                · have hx := txt_at HS.out (k := q3 l)
                  by_cases g : bt l (q3 l) = 101
                  · have E := Lib.hid (show exq l = true by simp [exq, g])
                    go_wp2_with fail
                    go_meet
                    exact ⟨by rw [E.out], rfl⟩
                  · have E := Lib.hid (show exq l = decide (bt l (q3 l) = 69) by simp [exq, g])
                    go_wp2_with fail
                    go_meet
                    exact ⟨by rw [E.out, eqd, eqd]; simp [g], rfl⟩
                · have E := Lib.hid (show exq l = false by unfold exq; rw [bt_far (by have := HZ.out; omega)]; rfl)
                  go_wp2_with fail
                  go_meet
                  exact ⟨by rw [E.out], rfl⟩
              case rest =>
                obtain ⟨rfl, rfl⟩ := hcut
                go_upto_if 95 with fail
                go_cut [5] (fun x wx => x = .int .i64 (q5 l : Int) ∧ (exq l = true → q5 l ≠ q4 l) ∧ wx = (w.alloc (six 0 0 0 0 0 0)).alloc (six (q0 l) (q1 l) (q2 l) (q3 l) (q4 l) (q5 l)))
                case first =>
                  by_cases hexq : exq l = true
                  · have h1 := Hel.out hexq
                    have e5 : q5 l = runE l (q4 l) := by unfold q5; rw [if_pos hexq]
                    have e4 : q4 l = if sgn l = true then q3 l + 1 + 1 else q3 l + 1 := by unfold q4; rw [if_pos hexq]
                    have h4 : q4 l ≤ s.size := by
                      rw [e4]; split
                      · rename_i hsg
                        have := HZ.out
                        rcases Nat.lt_or_ge (q3 l + 1) s.size with h2 | h2
                        · omega
                        · unfold sgn at hsg; rw [bt_far (by omega)] at hsg; cases hsg
                      · omega
                    have HE5 := Lib.hid e5
                    have HE4 := Lib.hid e4
                    have HX := Lib.hid hexq
                    rw [hexq]
                    clear hexq e5 e4
                    go_upto_region 22 with fail
                    go_cut [113] (fun x wx => x = .bool (sgn l) ∧ wx = (w.alloc (six 0 0 0 0 0 0)).alloc (six (q0 l) (q1 l) (q2 l) (q3 l) (q3 l) (q3 l)))
                    case first =>
                      by_cases h : q3 l + 1 < s.size
                      · have hx := txt_at HS.out (k := q3 l + 1)
                        by_cases g : bt l (q3 l + 1) = 43
                        · have E := Lib.hid (show sgn l = true by simp [sgn, g])
                          go_wp2_with fail
                          go_meet
                          exact ⟨by rw [E.out], rfl⟩
                        · have E := Lib.hid (show sgn l = decide (bt l (q3 l + 1) = 45) by simp [sgn, g])
                          go_wp2_with fail
                          go_meet
                          exact ⟨by rw [E.out, eqd, eqd]; simp [g], rfl⟩
                      · have E := Lib.hid (show sgn l = false by unfold sgn; rw [bt_far (by have := HZ.out; omega)]; rfl)
                        go_wp2_with fail
                        go_meet
                        exact ⟨by rw [E.out], rfl⟩
                    case rest =>
                      obtain ⟨rfl, rfl⟩ := hcut
                      go_upto_if 113 with fail
                      go_cut [5] (fun x wx => x = .int .i64 (q4 l : Int) ∧ wx = (w.alloc (six 0 0 0 0 0 0)).alloc (six (q0 l) (q1 l) (q2 l) (q3 l) (q3 l) (q3 l)))
                      case first =>
                        by_cases h : sgn l = true
                        · have E := Lib.hid (show q4 l = q3 l + 1 + 1 by rw [HE4.out, if_pos h])
                          rw [h]
                          clear h
                          go_wp2_with fail
                          go_meet
                          exact ⟨by rw [E.out]; rfl, rfl⟩
                        · have E := Lib.hid (show q4 l = q3 l + 1 by rw [HE4.out, if_neg h])
                          have h : sgn l = false := by simpa using h
                          rw [h]
                          clear h
                          go_wp2_with fail
                          go_meet
                          exact ⟨by rw [E.out]; rfl, rfl⟩
                      case rest =>
                        obtain ⟨rfl, rfl⟩ := hcut
                        by_cases g : q5 l = q4 l
                        · have E : isB l = false := by simp [isB, HX.out, g]
                          have g1 : ((q5 l : Int) == (q4 l : Int)) = true := by rw [eqd]; simp; omega
                          clear g
                          go_wp2_with (go_at_call 67; refine (run_is (q4 l) _ (q5 l : Int) _ HS.out (by have := HZ.out; omega) (by have := HZ.out; omega) rfl (by rw [HE5.out])).mono ?_; rintro e w' ⟨rfl, rfl⟩)
                          refine bodyPost_ret (v := .tuple #[.agg #[.int .i64 (q0 l), .int .i64 (q1 l), .int .i64 (q2 l), .int .i64 (q3 l), .int .i64 (q4 l), .int .i64 (q5 l)], .bool false]) (by simp [results, Tryz.results41, go_sem]) rfl ?_
                          exact ⟨_, _, _, _, _, _, by rw [E], fun h => by rw [E] at h; (cases h), below2 ..⟩
                        · have g1 : ((q5 l : Int) == (q4 l : Int)) = false := by rw [eqd]; simp; omega
                          have HG := Lib.hid g
                          clear g
                          go_wp2_with (go_at_call 67; refine (run_is (q4 l) _ (q5 l : Int) _ HS.out (by have := HZ.out; omega) (by have := HZ.out; omega) rfl (by rw [HE5.out])).mono ?_; rintro e w' ⟨rfl, rfl⟩)
                          go_meet
                          exact ⟨rfl, fun _ => HG.out, rfl⟩
                  · have hexq : exq l = false := by simpa using hexq
                    have e4 : q4 l = q3 l := by unfold q4; rw [if_neg (by rw [hexq]; simp)]
                    have e5 : q5 l = q3 l := by unfold q5; rw [if_neg (by rw [hexq]; simp)]
                    have HE4 := Lib.hid e4
                    have HE5 := Lib.hid e5
                    have HX := Lib.hid hexq
                    rw [hexq]
                    clear hexq e4 e5
                    go_wp2_with fail
                    go_meet
                    exact ⟨by rw [HE5.out], fun h => by rw [HX.out] at h; (cases h), by rw [HE4.out, HE5.out]⟩
                case rest =>
                  obtain ⟨rfl, heg, rfl⟩ := hcut
                  have HEG := Lib.hid heg
                  clear heg
                  have HB := Lib.hid hbad
                  clear hbad
                  have E := Lib.hid (show isB l = ((q5 l : Int) == (s.size : Int)) by
                    have hz := HZ.out
                    have h1 : (!dot l || decide (q3 l ≠ q2 l)) = true := by
                      cases h : dot l
                      · rfl
                      · simp [HDG.out h]
                    have h2 : (!exq l || decide (q5 l ≠ q4 l)) = true := by
                      cases h : exq l
                      · rfl
                      · simp [HEG.out h]
                    unfold isB
                    rw [HB.out, h1, h2, hz, eqd]
                    simp only [Bool.not_false, Bool.true_and, Int.natCast_inj])
                  go_wp2_with fail
                  refine bodyPost_ret (v := .tuple #[.agg #[.int .i64 (q0 l), .int .i64 (q1 l), .int .i64 (q2 l), .int .i64 (q3 l), .int .i64 (q4 l), .int .i64 (q5 l)], .bool ((q5 l : Int) == (s.size : Int))]) (by simp [results, Tryz.results41, go_sem]) rfl ?_
                  exact ⟨_, _, _, _, _, _, by rw [E.out], fun _ => ⟨rfl, rfl, rfl, rfl, rfl, rfl⟩, below2 ..⟩
end Go.Proofs.YthjlnafmpcppfaaGreatDoor
