/- Numbers' texts: where their parts begin and end, and what these tell, as plain functions of bytes. -/
import Derived.Test.YtbeefjhcbphiaaaGreatDoorHb
import Derived.Test.YtbeefjhcbphiaaaGreatDoorProg
import Derived.LoopTactic
import Derived.Outline
import Derived.Deep.DeepCutAuto
import Derived.Deep.LoopGhost
import Derived.Below
import Derived.Laws.BytesArg
import Derived.Laws.NewBlocks
namespace Go.Proofs.YtbeefjhcbphiaaaGreatDoor.De
open Go.RowKit

/-- Is a byte a numeral? -/
def nmr (c : Int) : Bool := decide (48 ≤ c) && decide (c ≤ 57)
/-- Where a run of numerals ends that begins at i. -/
def runE (l : List UInt8) (i : Nat) : Nat := if i < l.length ∧ nmr (bt l i) = true then runE l (i + 1) else i
termination_by l.length - i
theorem runE_on {l : List UInt8} {i : Nat} (h : i < l.length) (h2 : nmr (bt l i) = true) : runE l i = runE l (i + 1) := by rw [runE, if_pos ⟨h, h2⟩]
theorem runE_end {l : List UInt8} {i : Nat} (h : ¬ (i < l.length ∧ nmr (bt l i) = true)) : runE l i = i := by rw [runE, if_neg h]
theorem runE_ge (l : List UInt8) (i : Nat) : i ≤ runE l i := by
  by_cases h : i < l.length ∧ nmr (bt l i) = true
  · have := runE_ge l (i + 1); rw [runE_on h.1 h.2]; omega
  · rw [runE_end h]; exact Nat.le_refl _
termination_by l.length - i
theorem runE_le (l : List UInt8) (i : Nat) (hi : i ≤ l.length) : runE l i ≤ l.length := by
  by_cases h : i < l.length ∧ nmr (bt l i) = true
  · have := runE_le l (i + 1) (by omega); rw [runE_on h.1 h.2]; exact this
  · rw [runE_end h]; exact hi
termination_by l.length - i
end Go.Proofs.YtbeefjhcbphiaaaGreatDoor.De
/- The document's answers on numerals, and on runs of them, walked. -/
namespace Go.Proofs.YtbeefjhcbphiaaaGreatDoor.De
open Go.RowKit

theorem numeral_any (c : Int) (w : World) : Calls Tryz.prog 146 #[.int .u8 c] w fun e w' => e = .returned (.bool (nmr c)) ∧ w = w' := by
  by_cases h1 : 48 ≤ c
  · by_cases h2 : c ≤ 57
    · go_enter Tryz.func146, Tryz.ntmps146
      go_wp2
      go_ret
      exact ⟨ret_bool (by simp [nmr, h1, h2]), rfl⟩
    · go_enter Tryz.func146, Tryz.ntmps146
      go_wp2
      go_ret
      exact ⟨ret_bool (by simp [nmr, h2]), rfl⟩
  · go_enter Tryz.func146, Tryz.ntmps146
    go_wp2
    go_ret
    exact ⟨ret_bool (by simp [nmr]; omega), rfl⟩
theorem numeral_is {c : Int} {p : Bool} (h : nmr c = p) (w : World) : Calls Tryz.prog 146 #[.int .u8 c] w fun e w' => e = .returned (.bool p) ∧ w = w' := h ▸ numeral_any c w

theorem run_any {l : List UInt8} {s : ByteArray} (i : Nat) (w : World) (hs : s = txt l) (hi : i ≤ l.length) (hm : l.length ≤ 1000000) :
    Calls Tryz.prog 137 #[.string s, .int .i64 i] w fun e w' => e = .returned (.int .i64 (runE l i)) ∧ w = w' := by
  have HZ := Lib.hid (show s.size = l.length by rw [hs, txt_size])
  have HS := Lib.hid hs
  have hsz : s.size ≤ 1000000 := by have := HZ.out; omega
  have his : i ≤ s.size := by have := HZ.out; omega
  clear hs hi hm
  go_enter Tryz.func137, Tryz.ntmps137
  go_wp2
  go_loop [1] (fun j => ∃ k : Nat, k ≤ s.size ∧ j = .int .i64 k ∧ runE l i = runE l k) (fun j => s.size - (intOf j).toNat)
  case atStart => exact ⟨i, his, rfl, rfl⟩
  case round =>
    obtain ⟨k, hk, rfl, hr⟩ := hrel
    have HR := Lib.hid hr
    clear hr
    by_cases hlt : k < s.size
    · have hx := txt_at HS.out (k := k)
      obtain ⟨x, hbx⟩ : ∃ x, bt l k = x := ⟨_, rfl⟩
      rw [hbx] at hx
      by_cases hn : nmr x = true
      · have HE := Lib.hid (runE_on (l := l) (i := k) (by have := HZ.out; omega) (by rw [hbx]; exact hn))
        clear hbx
        go_wp2_with (go_at_call 146; refine (numeral_is hn _).mono ?_; rintro e w' ⟨rfl, rfl⟩)
        go_round
        case rel => exact ⟨k + 1, by omega, by go_num, by rw [HR.out, HE.out]⟩
        case measure => simp [intOf]; omega
      · have hn : nmr x = false := by simpa using hn
        have HE := Lib.hid (runE_end (l := l) (i := k) (by rw [hbx, hn]; simp))
        clear hbx
        go_wp2_with (go_at_call 146; refine (numeral_is hn _).mono ?_; rintro e w' ⟨rfl, rfl⟩)
        go_ret
        exact ⟨ret_int (by rw [HR.out, HE.out]), rfl⟩
    · have HE := Lib.hid (runE_end (l := l) (i := k) (by have := HZ.out; omega))
      go_wp2
      go_ret
      exact ⟨ret_int (by rw [HR.out, HE.out]), rfl⟩
end Go.Proofs.YtbeefjhcbphiaaaGreatDoor.De
/- The document's answer on whether a text is a number's, walked. -/
namespace Go.Proofs.YtbeefjhcbphiaaaGreatDoor.De
open Go.RowKit

/-- Where a number's parts begin and end. -/
def q0 (l : List UInt8) : Nat := if bt l 0 = 45 then 1 else 0
def q1 (l : List UInt8) : Nat := runE l (q0 l)
def bad1 (l : List UInt8) : Bool := decide (q1 l = q0 l ∨ bt l (q0 l) = 48 ∧ q0 l + 1 < q1 l)
def dot (l : List UInt8) : Bool := decide (bt l (q1 l) = 46)
def q2 (l : List UInt8) : Nat := if dot l = true then q1 l + 1 else q1 l
def q3 (l : List UInt8) : Nat := if dot l = true then runE l (q2 l) else q1 l
def exq (l : List UInt8) : Bool := decide (bt l (q3 l) = 101 ∨ bt l (q3 l) = 69)
def sgn (l : List UInt8) : Bool := decide (bt l (q3 l + 1) = 43 ∨ bt l (q3 l + 1) = 45)
def q4 (l : List UInt8) : Nat := if exq l = true then (if sgn l = true then q3 l + 1 + 1 else q3 l + 1) else q3 l
def q5 (l : List UInt8) : Nat := if exq l = true then runE l (q4 l) else q3 l
/-- Is it a number's text? -/
def isB (l : List UInt8) : Bool := !bad1 l && (!dot l || decide (q3 l ≠ q2 l)) && (!exq l || decide (q5 l ≠ q4 l)) && decide (q5 l = l.length)
theorem bt_far {l : List UInt8} {k : Nat} (h : l.length ≤ k) : bt l k = 0 := by simp [bt, List.getElem?_eq_none h]
def IsPost (w : World) (l : List UInt8) (e : Ending) (w' : World) : Prop :=
  ∃ a b c d f g : Int, e = .returned (.tuple #[.agg #[.int .i64 a, .int .i64 b, .int .i64 c, .int .i64 d, .int .i64 f, .int .i64 g], .bool (isB l)]) ∧
    (isB l = true → a = q0 l ∧ b = q1 l ∧ c = q2 l ∧ d = q3 l ∧ f = q4 l ∧ g = q5 l) ∧ Below w.heap.size w w'
abbrev six (a b c d e f : Int) : Obj := .cells #[.int .i64 a, .int .i64 b, .int .i64 c, .int .i64 d, .int .i64 e, .int .i64 f] 166

theorem run_is {l : List UInt8} {s : ByteArray} (i : Nat) (x y : Int) (w : World) (hs : s = txt l) (hi : i ≤ l.length) (hm : l.length ≤ 1000000) (hx : x = i) (hy : y = runE l i) :
    Calls Tryz.prog 137 #[.string s, .int .i64 x] w fun e w' => e = .returned (.int .i64 y) ∧ w = w' := by subst hx; subst hy; exact run_any i w hs hi hm
theorem below2 (w : World) (a b c d e f : Int) (a' b' c' d' e' f' : Int) : Below w.heap.size w ((w.alloc (six a b c d e f)).alloc (six a' b' c' d' e' f')) := ((Below.refl _ _).alloc (Nat.le_refl _) _).alloc (by simp) _
theorem q3_ge (l : List UInt8) : q1 l ≤ q3 l := by
  unfold q3; split
  · rename_i h
    have := runE_ge l (q2 l); unfold q2 at *; rw [if_pos h] at *; omega
  · exact Nat.le_refl _
theorem eqd (a b : Int) : (a == b) = decide (a = b) := by rw [Bool.eq_iff_iff]; simp
set_option maxHeartbeats 2000000 in
set_option maxRecDepth 100000 in
theorem is_any {l : List UInt8} {s : ByteArray} (w : World) (hs : s = txt l) (hm : l.length ≤ 1000000) :
    Calls Tryz.prog 124 #[.string s] w (IsPost w l) := by
  have HZ := Lib.hid (show s.size = l.length by rw [hs, txt_size])
  have HS := Lib.hid hs
  have hsz : s.size ≤ 1000000 := by have := HZ.out; omega
  have hq0 : q0 l ≤ s.size := by
    have := HZ.out
    unfold q0; split
    · rename_i h
      rcases Nat.eq_zero_or_pos l.length with h2 | h2
      · rw [bt_far (by omega)] at h; omega
      · omega
    · omega
  have hq1 : q1 l ≤ s.size := by have := HZ.out; have := runE_le l (q0 l) (by omega); unfold q1; omega
  have hq01 : q0 l ≤ q1 l := runE_ge l (q0 l)
  have hdl : dot l = true → q1 l < s.size := fun h => by
    have := HZ.out
    rcases Nat.lt_or_ge (q1 l) s.size with h2 | h2
    · exact h2
    · unfold dot at h; rw [bt_far (by omega)] at h; cases h
  have hq3 : q3 l ≤ s.size := by
    have := HZ.out
    unfold q3; split
    · rename_i h
      have h1 := hdl h
      have : q2 l = q1 l + 1 := by unfold q2; rw [if_pos h]
      have := runE_le l (q2 l) (by omega); omega
    · exact hq1
  have hel : exq l = true → q3 l < s.size := fun h => by
    have := HZ.out
    rcases Nat.lt_or_ge (q3 l) s.size with h2 | h2
    · exact h2
    · unfold exq at h; rw [bt_far (by omega)] at h; cases h
  have Hdl := Lib.hid hdl
  have Hel := Lib.hid hel
  clear hs hm hdl hel
  go_enter Tryz.func124, Tryz.ntmps124
  go_upto_region 3 with fail
  go_cut [15] (fun x wx => x = .bool (decide (bt l 0 = 45)) ∧ wx = (w.alloc (six 0 0 0 0 0 0)).alloc (six 0 0 0 0 0 0))
  case first =>
    by_cases h : 0 < s.size
    · have hx := txt_at HS.out (k := 0)
      go_wp2_with fail
      go_meet
      exact ⟨by rw [eqd], rfl⟩
    · have E := Lib.hid (bt_far (l := l) (k := 0) (by have := HZ.out; omega))
      go_wp2_with fail
      go_meet
      exact ⟨by rw [E.out]; rfl, rfl⟩
  case rest =>
    obtain ⟨rfl, rfl⟩ := hcut
    go_upto_if 15 with fail
    go_cut [5] (fun x wx => x = .int .i64 (q0 l : Int) ∧ wx = (w.alloc (six 0 0 0 0 0 0)).alloc (six 0 0 0 0 0 0))
    case first =>
      by_cases h : bt l 0 = 45
      · have E := Lib.hid (show q0 l = 1 by simp [q0, h])
        go_wp2_with fail
        go_meet
        exact ⟨by rw [E.out]; rfl, rfl⟩
      · have E := Lib.hid (show q0 l = 0 by simp [q0, h])
        go_wp2_with fail
        go_meet
        exact ⟨by rw [E.out]; rfl, rfl⟩
    case rest =>
      obtain ⟨rfl, rfl⟩ := hcut
      go_upto_region 8 with (go_at_call 137; refine (run_is (q0 l) _ (q1 l : Int) _ HS.out (by have := HZ.out; omega) (by have := HZ.out; omega) rfl rfl).mono ?_; rintro e w' ⟨rfl, rfl⟩)
      go_cut [44] (fun x wx => x = .bool (bad1 l) ∧ wx = (w.alloc (six 0 0 0 0 0 0)).alloc (six (q0 l) (q1 l) 0 0 0 0))
      case first =>
        by_cases g1 : q1 l = q0 l
        · have E := Lib.hid (show bad1 l = true by simp [bad1, g1])
          have g1' : ((q1 l : Int) == (q0 l : Int)) = true := by simp; omega
          clear g1
          go_wp2_with fail
          go_meet
          exact ⟨by rw [E.out], rfl⟩
        · have g1' : ((q1 l : Int) == (q0 l : Int)) = false := by simp; omega
          have g3 : q0 l < s.size := by omega
          have hx := txt_at HS.out (k := q0 l)
          by_cases g2 : bt l (q0 l) = 48
          · by_cases g4 : (q0 l : Int) + 1 < q1 l
            · have E := Lib.hid (show bad1 l = true by simp [bad1, g2]; omega)
              go_wp2_with fail
              go_meet
              exact ⟨by rw [E.out], rfl⟩
            · have E := Lib.hid (show bad1 l = false by simp [bad1, g2, g1]; omega)
              go_wp2_with fail
              go_meet
              exact ⟨by rw [E.out], rfl⟩
          · have E := Lib.hid (show bad1 l = false by simp [bad1, g2, g1])
            go_wp2_with fail
            go_meet
            exact ⟨by rw [E.out], rfl⟩
      case rest =>
        obtain ⟨rfl, rfl⟩ := hcut
        by_cases hbad : bad1 l = true
        · have E : isB l = false := by simp [isB, hbad]
          rw [hbad]
          clear hbad
          go_wp2_with fail
          refine bodyPost_ret (v := .tuple #[.agg #[.int .i64 (q0 l), .int .i64 (q1 l), .int .i64 0, .int .i64 0, .int .i64 0, .int .i64 0], .bool false]) (by simp [results, Tryz.results124, go_sem]) rfl ?_
          exact ⟨_, _, _, _, _, _, by rw [E], fun h => by rw [E] at h; (cases h), below2 ..⟩
        · have hbad : bad1 l = false := by simpa using hbad
          rw [hbad]
          go_upto_region 12 with fail
          go_cut [59] (fun x wx => x = .bool (dot l) ∧ wx = (w.alloc (six 0 0 0 0 0 0)).alloc (six (q0 l) (q1 l) (q1 l) (q1 l) 0 0))
          case first =>
            by_cases h : q1 l < s.size
            · have hx := txt_at HS.out (k := q1 l)
              go_wp2_with fail
              go_meet
              exact ⟨by rw [eqd]; rfl, rfl⟩
            · have E := Lib.hid (show dot l = false by unfold dot; rw [bt_far (by have := HZ.out; omega)]; rfl)
              go_wp2_with fail
              go_meet
              exact ⟨by rw [E.out], rfl⟩
          case rest =>
            obtain ⟨rfl, rfl⟩ := hcut
            go_upto_if 59 with fail
            go_cut [5] (fun x wx => x = .int .i64 (q3 l : Int) ∧ (dot l = true → q3 l ≠ q2 l) ∧ wx = (w.alloc (six 0 0 0 0 0 0)).alloc (six (q0 l) (q1 l) (q2 l) (q3 l) 0 0))
            case first =>
              by_cases hdot : dot l = true
              · have h1 := Hdl.out hdot
                have e2 : q2 l = q1 l + 1 := by unfold q2; rw [if_pos hdot]
                have e3 : q3 l = runE l (q1 l + 1) := by unfold q3; rw [if_pos hdot, e2]
                have HE2 := Lib.hid e2
                have HE3 := Lib.hid e3
                have HD := Lib.hid hdot
                rw [hdot]
                by_cases g : q3 l = q2 l
                · have E : isB l = false := by simp [isB, hdot, g]
                  have g1 : ((q3 l : Int) == (q1 l : Int) + 1) = true := by rw [eqd]; simp; omega
                  clear hdot e2 e3 g
                  go_wp2_with (go_at_call 137; refine (run_is (q1 l + 1) _ (q3 l : Int) _ HS.out (by have := HZ.out; omega) (by have := HZ.out; omega) (by omega) (by rw [HE3.out])).mono ?_; rintro e w' ⟨rfl, rfl⟩)
                  refine bodyPost_ret (v := .tuple #[.agg #[.int .i64 (q0 l), .int .i64 (q1 l), .int .i64 ((q1 l : Int) + 1), .int .i64 (q3 l), .int .i64 0, .int .i64 0], .bool false]) (by simp [results, Tryz.results124, go_sem]) rfl ?_
                  exact ⟨_, _, _, _, _, _, by rw [E], fun h => by rw [E] at h; (cases h), below2 ..⟩
                · have g1 : ((q3 l : Int) == (q1 l : Int) + 1) = false := by rw [eqd]; simp; omega
                  have HG := Lib.hid g
                  clear hdot e2 e3 g
                  go_wp2_with (go_at_call 137; refine (run_is (q1 l + 1) _ (q3 l : Int) _ HS.out (by have := HZ.out; omega) (by have := HZ.out; omega) (by omega) (by rw [HE3.out])).mono ?_; rintro e w' ⟨rfl, rfl⟩)
                  go_meet
                  exact ⟨rfl, fun _ => HG.out, by rw [show ((q2 l : Nat) : Int) = (q1 l : Int) + 1 by have := HE2.out; omega]⟩
              · have hdot : dot l = false := by simpa using hdot
                have e2 : q2 l = q1 l := by unfold q2; rw [if_neg (by rw [hdot]; simp)]
                have e3 : q3 l = q1 l := by unfold q3; rw [if_neg (by rw [hdot]; simp)]
                have HE2 := Lib.hid e2
                have HE3 := Lib.hid e3
                have HD := Lib.hid hdot
                rw [hdot]
                clear hdot e2 e3
                go_wp2_with fail
                go_meet
                exact ⟨by rw [HE3.out], fun h => by rw [HD.out] at h; (cases h), by rw [HE2.out, HE3.out]⟩
            case rest =>
              obtain ⟨rfl, hdg, rfl⟩ := hcut
              have HDG := Lib.hid hdg
              clear hdg
              go_upto_region 20 with fail
              go_cut [95] (fun x wx => x = .bool (exq l) ∧ wx = (w.alloc (six 0 0 0 0 0 0)).alloc (six (q0 l) (q1 l) (q2 l) (q3 l) (q3 l) (q3 l)))
              case first =>
                by_cases h : q3 l < s.size
                · have hx := txt_at HS.out (k := q3 l)
                  by_cases g : bt l (q3 l) = 101
                  · have E := Lib.hid (show exq l = true by simp [exq, g])
                    go_wp2_with fail
                    go_meet
                    exact ⟨by rw [E.out], rfl⟩
                  · have E := Lib.hid (show exq l = decide (bt l (q3 l) = 69) by simp [exq, g])
                    go_wp2_with fail
                    go_meet
                    exact ⟨by rw [E.out, eqd, eqd]; simp [g], rfl⟩
                · have E := Lib.hid (show exq l = false by unfold exq; rw [bt_far (by have := HZ.out; omega)]; rfl)
                  go_wp2_with fail
                  go_meet
                  exact ⟨by rw [E.out], rfl⟩
              case rest =>
                obtain ⟨rfl, rfl⟩ := hcut
                go_upto_if 95 with fail
                go_cut [5] (fun x wx => x = .int .i64 (q5 l : Int) ∧ (exq l = true → q5 l ≠ q4 l) ∧ wx = (w.alloc (six 0 0 0 0 0 0)).alloc (six (q0 l) (q1 l) (q2 l) (q3 l) (q4 l) (q5 l)))
                case first =>
                  by_cases hexq : exq l = true
                  · have h1 := Hel.out hexq
                    have e5 : q5 l = runE l (q4 l) := by unfold q5; rw [if_pos hexq]
                    have e4 : q4 l = if sgn l = true then q3 l + 1 + 1 else q3 l + 1 := by unfold q4; rw [if_pos hexq]
                    have h4 : q4 l ≤ s.size := by
                      rw [e4]; split
                      · rename_i hsg
                        have := HZ.out
                        rcases Nat.lt_or_ge (q3 l + 1) s.size with h2 | h2
                        · omega
                        · unfold sgn at hsg; rw [bt_far (by omega)] at hsg; cases hsg
                      · omega
                    have HE5 := Lib.hid e5
                    have HE4 := Lib.hid e4
                    have HX := Lib.hid hexq
                    rw [hexq]
                    clear hexq e5 e4
                    go_upto_region 22 with fail
                    go_cut [113] (fun x wx => x = .bool (sgn l) ∧ wx = (w.alloc (six 0 0 0 0 0 0)).alloc (six (q0 l) (q1 l) (q2 l) (q3 l) (q3 l) (q3 l)))
                    case first =>
                      by_cases h : q3 l + 1 < s.size
                      · have hx := txt_at HS.out (k := q3 l + 1)
                        by_cases g : bt l (q3 l + 1) = 43
                        · have E := Lib.hid (show sgn l = true by simp [sgn, g])
                          go_wp2_with fail
                          go_meet
                          exact ⟨by rw [E.out], rfl⟩
                        · have E := Lib.hid (show sgn l = decide (bt l (q3 l + 1) = 45) by simp [sgn, g])
                          go_wp2_with fail
                          go_meet
                          exact ⟨by rw [E.out, eqd, eqd]; simp [g], rfl⟩
                      · have E := Lib.hid (show sgn l = false by unfold sgn; rw [bt_far (by have := HZ.out; omega)]; rfl)
                        go_wp2_with fail
                        go_meet
                        exact ⟨by rw [E.out], rfl⟩
                    case rest =>
                      obtain ⟨rfl, rfl⟩ := hcut
                      go_upto_if 113 with fail
                      go_cut [5] (fun x wx => x = .int .i64 (q4 l : Int) ∧ wx = (w.alloc (six 0 0 0 0 0 0)).alloc (six (q0 l) (q1 l) (q2 l) (q3 l) (q3 l) (q3 l)))
                      case first =>
                        by_cases h : sgn l = true
                        · have E := Lib.hid (show q4 l = q3 l + 1 + 1 by rw [HE4.out, if_pos h])
                          rw [h]
                          clear h
                          go_wp2_with fail
                          go_meet
                          exact ⟨by rw [E.out]; rfl, rfl⟩
                        · have E := Lib.hid (show q4 l = q3 l + 1 by rw [HE4.out, if_neg h])
                          have h : sgn l = false := by simpa using h
                          rw [h]
                          clear h
                          go_wp2_with fail
                          go_meet
                          exact ⟨by rw [E.out]; rfl, rfl⟩
                      case rest =>
                        obtain ⟨rfl, rfl⟩ := hcut
                        by_cases g : q5 l = q4 l
                        · have E : isB l = false := by simp [isB, HX.out, g]
                          have g1 : ((q5 l : Int) == (q4 l : Int)) = true := by rw [eqd]; simp; omega
                          clear g
                          go_wp2_with (go_at_call 137; refine (run_is (q4 l) _ (q5 l : Int) _ HS.out (by have := HZ.out; omega) (by have := HZ.out; omega) rfl (by rw [HE5.out])).mono ?_; rintro e w' ⟨rfl, rfl⟩)
                          refine bodyPost_ret (v := .tuple #[.agg #[.int .i64 (q0 l), .int .i64 (q1 l), .int .i64 (q2 l), .int .i64 (q3 l), .int .i64 (q4 l), .int .i64 (q5 l)], .bool false]) (by simp [results, Tryz.results124, go_sem]) rfl ?_
                          exact ⟨_, _, _, _, _, _, by rw [E], fun h => by rw [E] at h; (cases h), below2 ..⟩
                        · have g1 : ((q5 l : Int) == (q4 l : Int)) = false := by rw [eqd]; simp; omega
                          have HG := Lib.hid g
                          clear g
                          go_wp2_with (go_at_call 137; refine (run_is (q4 l) _ (q5 l : Int) _ HS.out (by have := HZ.out; omega) (by have := HZ.out; omega) rfl (by rw [HE5.out])).mono ?_; rintro e w' ⟨rfl, rfl⟩)
                          go_meet
                          exact ⟨rfl, fun _ => HG.out, rfl⟩
                  · have hexq : exq l = false := by simpa using hexq
                    have e4 : q4 l = q3 l := by unfold q4; rw [if_neg (by rw [hexq]; simp)]
                    have e5 : q5 l = q3 l := by unfold q5; rw [if_neg (by rw [hexq]; simp)]
                    have HE4 := Lib.hid e4
                    have HE5 := Lib.hid e5
                    have HX := Lib.hid hexq
                    rw [hexq]
                    clear hexq e4 e5
                    go_wp2_with fail
                    go_meet
                    exact ⟨by rw [HE5.out], fun h => by rw [HX.out] at h; (cases h), by rw [HE4.out, HE5.out]⟩
                case rest =>
                  obtain ⟨rfl, heg, rfl⟩ := hcut
                  have HEG := Lib.hid heg
                  clear heg
                  have HB := Lib.hid hbad
                  clear hbad
                  have E := Lib.hid (show isB l = ((q5 l : Int) == (s.size : Int)) by
                    have hz := HZ.out
                    have h1 : (!dot l || decide (q3 l ≠ q2 l)) = true := by
                      cases h : dot l
                      · rfl
                      · simp [HDG.out h]
                    have h2 : (!exq l || decide (q5 l ≠ q4 l)) = true := by
                      cases h : exq l
                      · rfl
                      · simp [HEG.out h]
                    unfold isB
                    rw [HB.out, h1, h2, hz, eqd]
                    simp only [Bool.not_false, Bool.true_and, Int.natCast_inj])
                  go_wp2_with fail
                  refine bodyPost_ret (v := .tuple #[.agg #[.int .i64 (q0 l), .int .i64 (q1 l), .int .i64 (q2 l), .int .i64 (q3 l), .int .i64 (q4 l), .int .i64 (q5 l)], .bool ((q5 l : Int) == (s.size : Int))]) (by simp [results, Tryz.results124, go_sem]) rfl ?_
                  exact ⟨_, _, _, _, _, _, by rw [E.out], fun _ => ⟨rfl, rfl, rfl, rfl, rfl, rfl⟩, below2 ..⟩
end Go.Proofs.YtbeefjhcbphiaaaGreatDoor.De
/- The written exponent, walked. -/
namespace Go.Proofs.YtbeefjhcbphiaaaGreatDoor.De
open Go.RowKit

/-- The numerals from i to e, onto n; none: beyond bounds on the way. -/
def powA (l : List UInt8) (e i : Nat) (n : Int) : Option Int :=
  if i < e then (if 10 * n + (bt l i - 48) > 1000000000 then none else powA l e (i + 1) (10 * n + (bt l i - 48))) else some n
termination_by e - i
/-- The written exponent, and whether it is within bounds. -/
def powR (l : List UInt8) (i e : Nat) : Int × Bool := match powA l e i 0 with
  | none => (0, false)
  | some n => (if i < e ∧ bt l (i - 1) = 45 then -n else n, true)
theorem powA_end {l : List UInt8} {e i : Nat} {n : Int} (h : ¬ i < e) : powA l e i n = some n := by rw [powA, if_neg h]
theorem powA_big {l : List UInt8} {e i : Nat} {n : Int} (h : i < e) (h2 : 10 * n + (bt l i - 48) > 1000000000) : powA l e i n = none := by rw [powA, if_pos h, if_pos h2]
theorem powA_on {l : List UInt8} {e i : Nat} {n : Int} (h : i < e) (h2 : ¬ 10 * n + (bt l i - 48) > 1000000000) : powA l e i n = powA l e (i + 1) (10 * n + (bt l i - 48)) := by rw [powA, if_pos h, if_neg h2]
theorem ret_ib' {a b : Int} {p q : Bool} (h : (a, p) = (b, q)) : Ending.returned (.tuple #[.int .i64 a, .bool p]) = .returned (.tuple #[.int .i64 b, .bool q]) := by cases h; rfl

set_option maxHeartbeats 1000000 in
theorem power_any {l : List UInt8} {s : ByteArray} (a b c d : Int) (i e : Nat) (w : World) (hs : s = txt l) (hi : i ≤ e) (he : e ≤ l.length) (hm : l.length ≤ 1000000)
    (hn : ∀ k, i ≤ k → k < e → nmr (bt l k) = true) (h1 : i < e → 1 ≤ i) :
    Calls Tryz.prog 125 #[.string s, .agg #[.int .i64 a, .int .i64 b, .int .i64 c, .int .i64 d, .int .i64 i, .int .i64 e]] w fun en w' => en = .returned (.tuple #[.int .i64 (powR l i e).1, .bool (powR l i e).2]) ∧ w' = w.alloc (.cells #[.int .i64 a, .int .i64 b, .int .i64 c, .int .i64 d, .int .i64 i, .int .i64 e] 166) := by
  have HZ := Lib.hid (show s.size = l.length by rw [hs, txt_size])
  have HS := Lib.hid hs
  have HN := Lib.hid hn
  have hsz : s.size ≤ 1000000 := by have := HZ.out; omega
  have hes : e ≤ s.size := by have := HZ.out; omega
  clear hs hm hn he
  go_enter Tryz.func125, Tryz.ntmps125
  go_wp2_with fail
  go_loop [6, 7] (fun m j => ∃ (n : Int) (k : Nat), i ≤ k ∧ k ≤ e ∧ 0 ≤ n ∧ n ≤ 1000000000 ∧ m = .int .i64 n ∧ j = .int .i64 k ∧ powA l e i 0 = powA l e k n) (fun _ j => e - (intOf j).toNat)
  case atStart => exact ⟨0, i, Nat.le_refl _, hi, by omega, by omega, rfl, rfl, rfl⟩
  case round =>
    obtain ⟨n, k, hk1, hk2, hn1, hn2, rfl, rfl, hr⟩ := hrel
    have HR := Lib.hid hr
    clear hr
    by_cases hlt : k < e
    · have hx := txt_at HS.out (k := k)
      have hnm := HN.out k hk1 hlt
      have h48 : 48 ≤ bt l k ∧ bt l k ≤ 57 := by simpa [nmr] using hnm
      clear hnm
      by_cases hbig : 10 * n + (bt l k - 48) > 1000000000
      · have E := Lib.hid (show powR l i e = (0, false) by unfold powR; rw [HR.out, powA_big hlt hbig])
        go_wp2_with fail
        refine bodyPost_ret (v := .tuple #[.int .i64 0, .bool false]) (by simp [results, Tryz.results125, go_sem]) rfl ?_
        exact ⟨ret_ib' (by rw [E.out]), rfl⟩
      · have E := Lib.hid (powA_on hlt hbig)
        go_wp2_with fail
        go_round
        case rel => exact ⟨10 * n + (bt l k - 48), k + 1, by omega, by omega, by omega, by omega, by go_num, by go_num, by rw [HR.out, E.out]⟩
        case measure => simp [intOf]; omega
    · have E := Lib.hid (show powR l i e = (if i < e ∧ bt l (i - 1) = 45 then -n else n, true) by unfold powR; rw [HR.out, powA_end hlt])
      by_cases hie : i < e
      · have h1' := h1 hie
        obtain ⟨i', rfl⟩ : ∃ i', i = i' + 1 := ⟨i - 1, by omega⟩
        have hx := txt_at HS.out (k := i')
        by_cases g : bt l i' = 45
        · have E2 := Lib.hid (show powR l (i' + 1) e = (-n, true) by rw [E.out, if_pos ⟨hie, by simpa using g⟩])
          go_wp2_with fail
          refine bodyPost_ret (v := .tuple #[.int .i64 (-n), .bool true]) (by simp [results, Tryz.results125, go_sem]) rfl ?_
          exact ⟨ret_ib' (by rw [E2.out]), rfl⟩
        · have E2 := Lib.hid (show powR l (i' + 1) e = (n, true) by rw [E.out, if_neg (fun h => g (by simpa using h.2))])
          go_wp2_with fail
          refine bodyPost_ret (v := .tuple #[.int .i64 n, .bool true]) (by simp [results, Tryz.results125, go_sem]) rfl ?_
          exact ⟨ret_ib' (by rw [E2.out]), rfl⟩
      · have E2 := Lib.hid (show powR l i e = (n, true) by rw [E.out, if_neg (fun h => hie h.1)])
        go_wp2_with fail
        refine bodyPost_ret (v := .tuple #[.int .i64 n, .bool true]) (by simp [results, Tryz.results125, go_sem]) rfl ?_
        exact ⟨ret_ib' (by rw [E2.out]), rfl⟩
end Go.Proofs.YtbeefjhcbphiaaaGreatDoor.De
/- The document's answer on a number's numerals, walked: it calls itself. -/
namespace Go.Proofs.YtbeefjhcbphiaaaGreatDoor.De
open Go.RowKit

/-- A number's numerals. -/
def itoN (n : Nat) : List UInt8 := if n < 10 then [UInt8.ofNat (48 + n)] else itoN (n / 10) ++ [UInt8.ofNat (48 + n % 10)]
def itoL (n : Int) : List UInt8 := if n < 0 then 45 :: itoN (-n).toNat else itoN n.toNat
theorem itoN_lt {n : Nat} (h : n < 10) : itoN n = [UInt8.ofNat (48 + n)] := by rw [itoN, if_pos h]
theorem itoN_ge {n : Nat} (h : ¬ n < 10) : itoN n = itoN (n / 10) ++ itoN (n % 10) := by rw [itoN, if_neg h, itoN_lt (n := n % 10) (by omega)]

theorem itoN_len (n : Nat) : (itoN n).length ≤ n + 1 := by
  induction n using Nat.strongRecOn with
  | ind n ih =>
    by_cases h : n < 10
    · rw [itoN_lt h]; simp
    · rw [itoN, if_neg h]
      have := ih (n / 10) (by omega)
      simp; omega
theorem itoa_small (n : Nat) (hn : n < 10) (w : World) : Calls Tryz.prog 126 #[.int .i64 n] w fun e w' => e = .returned (.string (txt (itoN n))) ∧ Below w.heap.size w w' := by
  have h1 : ¬ (n : Int) < 0 := by omega
  have h2 : (n : Int) < 10 := by omega
  have e1 : IntKind.u8.wrap (48 + (n : Int)) = 48 + n := by rw [show IntKind.u8.wrap (48 + (n : Int)) = (48 + (n : Int)) % 256 by simp [IntKind.wrap, IntKind.bits, IntKind.signed]]; omega
  have hcv : (convert 48 9 (.slice (some ⟨w.heap.size, 0, none⟩) 1 1)).run Tryz.prog (w.alloc (.cells #[.int .u8 (48 + (n : Int))] 5)) = .ok (.string (txt (itoN n))) (w.alloc (.cells #[.int .u8 (48 + (n : Int))] 5)) := by
    have := run_convert_bytes_arg (P := Tryz.prog) (w.alloc (.cells #[.int .u8 (48 + (n : Int))] 5)) 48 5 Tryz.underlying48 Tryz.underlying5 w.heap.size 0 1 1 [48 + (n : Int)] rfl (fun i hi => by
      obtain rfl : i = 0 := by omega
      rw [World.cell?_alloc_at _ _ _ _ rfl]; rfl) 9 Tryz.underlying9
    rw [this, itoN_lt hn]
    have e : (48 + (n : Int)).toNat = 48 + n := by omega
    simp [strOfNums, txt, e]
  go_enter Tryz.func126, Tryz.ntmps126
  go_wp2
  go_ret
  exact ⟨rfl, (Below.refl _ _).alloc (Nat.le_refl _) _⟩
theorem itoa_nat (n : Nat) (hn : n ≤ 1000000000000000000) : ∀ (x : Int) (w : World), x = n → Calls Tryz.prog 126 #[.int .i64 x] w fun e w' => e = .returned (.string (txt (itoN n))) ∧ Below w.heap.size w w' := by
  induction n using Nat.strongRecOn with
  | ind n ih =>
    intro x w hx
    subst hx
    by_cases h : n < 10
    · exact itoa_small n h w
    · have h1 : ¬ (n : Int) < 0 := by omega
      have h2 : ¬ (n : Int) < 10 := by omega
      have h0 : (0 : Int) ≤ n := by omega
      have hb : (n : Int) ≤ 1000000000000000000 := by omega
      have E := txt_app (itoN (n / 10)) (itoN (n % 10))
      rw [← itoN_ge h] at E
      have I1 := ih (n / 10) (by omega) (by omega)
      have I2 := ih (n % 10) (by omega) (by omega)
      have s1 : (txt (itoN (n / 10))).size ≤ 1000000000000000001 := by have := itoN_len (n / 10); rw [txt_size]; omega
      have s2 : (txt (itoN (n % 10))).size ≤ 1000000000000000001 := by have := itoN_len (n % 10); rw [txt_size]; omega
      generalize txt (itoN (n / 10)) = A at *
      generalize txt (itoN (n % 10)) = B at *
      replace E := Lib.hid E
      replace I1 := Lib.hid I1
      replace I2 := Lib.hid I2
      clear ih
      go_enter Tryz.func126, Tryz.ntmps126
      go_wp2_with fail
      refine (I1.out _ _ (by omega)).mono ?_
      rintro e w1 ⟨rfl, hb1⟩
      go_wp2_with fail
      refine (I2.out _ _ (by omega)).mono ?_
      rintro e w2 ⟨rfl, hb2⟩
      go_wp2_with fail
      go_ret
      exact ⟨ret_str E.out, hb1.trans (hb2.mono hb1.size)⟩
theorem itoa_any (n : Int) (h1 : -1000000000000000000 ≤ n) (h2 : n ≤ 1000000000000000000) (w : World) : Calls Tryz.prog 126 #[.int .i64 n] w fun e w' => e = .returned (.string (txt (itoL n))) ∧ Below w.heap.size w w' := by
  by_cases h : n < 0
  · have E : txt [45] ++ txt (itoN (-n).toNat) = txt (itoL n) := by rw [txt_app, itoL, if_pos h]; rfl
    have I := itoa_nat (-n).toNat (by omega)
    have s1 : (txt (itoN (-n).toNat)).size ≤ 1000000000000000001 := by have := itoN_len (-n).toNat; rw [txt_size]; omega
    generalize txt (itoN (-n).toNat) = A at *
    replace E := Lib.hid E
    replace I := Lib.hid I
    go_enter Tryz.func126, Tryz.ntmps126
    go_wp2_with fail
    refine (I.out _ _ (by omega)).mono ?_
    rintro e w1 ⟨rfl, hb1⟩
    go_wp2_with fail
    go_ret
    exact ⟨ret_str E.out, hb1⟩
  · rw [itoL, if_neg h]
    exact itoa_nat n.toNat (by omega) n w (by omega)
end Go.Proofs.YtbeefjhcbphiaaaGreatDoor.De
