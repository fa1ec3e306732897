/- The document's small words: a numeral, two digits, a byte at a place. -/
import Derived.Test.YtgmlbcdakblpiaaDoorDp
namespace Go.Proofs.YtgmlbcdakblpiaaDoor
open Go.RowKit
namespace Da

theorem num_is {c : Int} {b : Bool} (w : World) (h : b = dg c) : Calls Tryd.prog 63 #[.int .u8 c] w fun e w' => e = .returned (.bool b) ∧ w = w' := by
  unfold dg at h
  by_cases h1 : 48 ≤ c
  · by_cases h2 : c ≤ 57
    · have E := Lib.hid (show b = true by rw [h]; simp; omega)
      clear h
      go_enter Tryd.func63, Tryd.ntmps63
      go_wp2_with fail
      go_ret
      exact ⟨ret_bool E.out.symm, rfl⟩
    · have E := Lib.hid (show b = false by rw [h]; simp; omega)
      clear h
      go_enter Tryd.func63, Tryd.ntmps63
      go_wp2_with fail
      go_ret
      exact ⟨ret_bool E.out.symm, rfl⟩
  · have E := Lib.hid (show b = false by rw [h]; simp; omega)
    clear h
    go_enter Tryd.func63, Tryd.ntmps63
    go_wp2_with fail
    go_ret
    exact ⟨ret_bool E.out.symm, rfl⟩
/-- Two digits at a place, or -1. -/
def tw (l : List UInt8) (i : Nat) : Int := if t2 l i = true then v2 l i else -1
theorem tw_pos {l : List UInt8} {i : Nat} : 0 ≤ tw l i ↔ t2 l i = true := by
  unfold tw
  by_cases h : t2 l i = true
  · rw [if_pos h]; have := t2_v h; exact ⟨fun _ => h, fun _ => this.1⟩
  · rw [if_neg h]; exact ⟨fun g => absurd g (by omega), fun g => absurd g h⟩
theorem tw_le (l : List UInt8) (i : Nat) : -1 ≤ tw l i ∧ tw l i ≤ 99 := by
  unfold tw
  split
  · rename_i h; have := t2_v h; omega
  · omega
set_option maxHeartbeats 4000000 in
set_option maxRecDepth 100000 in
theorem two_is {l : List UInt8} {s : ByteArray} {x y : Int} (i : Nat) (w : World) (hs : s = txt l) (hl : l.length ≤ 1000000) (hi : i ≤ 1000100) (hx : x = i) (hy : y = tw l i) :
    Calls Tryd.prog 42 #[.string s, .int .i64 x] w fun e w' => e = .returned (.int .i64 y) ∧ Below w.heap.size w w' := by
  subst hx
  have zs : s.size = l.length := by rw [hs, txt_size]
  have hsz : s.size ≤ 1000000 := by omega
  unfold tw at hy
  by_cases h1 : i + 2 ≤ s.size
  · have ha := txt_at hs (k := i)
    have hb := txt_at hs (k := i + 1)
    have hil : i < s.size := by omega
    have hil1 : i + 1 < s.size := by omega
    obtain ⟨a, haa⟩ : ∃ a, a = bt l i := ⟨_, rfl⟩
    obtain ⟨b, hbb⟩ : ∃ a, a = bt l (i + 1) := ⟨_, rfl⟩
    rw [← haa] at ha
    rw [← hbb] at hb
    have ht : t2 l i = (dg a && dg b) := by rw [t2, dd, dd, haa, hbb]
    have hv : v2 l i = 10 * (a - 48) + (b - 48) := by rw [v2, haa, hbb]
    rw [ht, hv] at hy
    have CA := Lib.hid (fun w => num_is (c := a) w rfl)
    have CB := Lib.hid (fun w => num_is (c := b) w rfl)
    have HY := Lib.hid hy
    clear hs hl zs haa hbb ht hv hy
    cases ga : dg a
    · have E := Lib.hid (show y = -1 by rw [HY.out, ga]; rfl)
      rw [ga] at CA
      clear ga CB HY
      go_enter Tryd.func42, Tryd.ntmps42
      go_wp2_with (go_at_call 63; refine (CA.out _).mono ?_; rintro e w' ⟨rfl, rfl⟩)
      go_ret
      exact ⟨ret_int E.out.symm, Below.refl _ _⟩
    · have a48 := dg_iff.1 ga
      rw [ga] at CA
      cases gb : dg b
      · have E := Lib.hid (show y = -1 by rw [HY.out, gb]; simp)
        rw [gb] at CB
        clear ga gb HY a48
        go_enter Tryd.func42, Tryd.ntmps42
        go_wp2_with fail
        refine (CA.out _).mono ?_
        rintro e w' ⟨rfl, rfl⟩
        go_wp2_with fail
        refine (CB.out _).mono ?_
        rintro e w' ⟨rfl, rfl⟩
        go_wp2_with fail
        go_ret
        exact ⟨ret_int E.out.symm, Below.refl _ _⟩
      · have b48 := dg_iff.1 gb
        have E := Lib.hid (show 10 * (a - 48) + (b - 48) = y by rw [HY.out, ga, gb]; rfl)
        rw [gb] at CB
        obtain ⟨a0, a1⟩ := a48
        obtain ⟨b0, b1⟩ := b48
        clear ga gb HY
        go_enter Tryd.func42, Tryd.ntmps42
        go_wp2_with fail
        refine (CA.out _).mono ?_
        rintro e w' ⟨rfl, rfl⟩
        go_wp2_with fail
        refine (CB.out _).mono ?_
        rintro e w' ⟨rfl, rfl⟩
        go_upto_region 3 with fail
        go_quiet (fail)
        go_wp2_with fail
        go_ret
        exact ⟨ret_int (by rw [← E.out]), below_dn (Below.refl _ _) _⟩
  · have E := Lib.hid (show y = -1 by
      rw [hy, if_neg]
      intro h
      have := t2_in h
      omega)
    clear hs hl zs hy
    go_enter Tryd.func42, Tryd.ntmps42
    go_wp2_with fail
    go_ret
    exact ⟨ret_int E.out.symm, Below.refl _ _⟩
theorem at_is {l : List UInt8} {s : ByteArray} {x c : Int} {b : Bool} (i : Nat) (w : World) (hs : s = txt l) (_hl : l.length ≤ 1000000) (_hi : i ≤ 1000100) (hx : x = i) (hc : c ≠ 0) (hb : b = decide (bt l i = c)) :
    Calls Tryd.prog 40 #[.string s, .int .i64 x, .int .u8 c] w fun e w' => e = .returned (.bool b) ∧ Below w.heap.size w w' := by
  subst hx
  have zs : s.size = l.length := by rw [hs, txt_size]
  by_cases h1 : i < s.size
  · have ha := txt_at hs (k := i)
    obtain ⟨a, haa⟩ : ∃ a, a = bt l i := ⟨_, rfl⟩
    rw [← haa] at ha hb
    clear hs zs haa
    by_cases h : a = c
    · have E := Lib.hid (show b = true by rw [hb, decide_eq_true h])
      have h' : (a == c) = true := by simpa using h
      clear hb h
      go_enter Tryd.func40, Tryd.ntmps40
      go_wp2_with fail
      go_ret
      exact ⟨ret_bool E.out.symm, Below.refl _ _⟩
    · have E := Lib.hid (show b = false by rw [hb, decide_eq_false h])
      have h' : (a == c) = false := by simpa using h
      clear hb h
      go_enter Tryd.func40, Tryd.ntmps40
      go_wp2_with fail
      go_ret
      exact ⟨ret_bool E.out.symm, Below.refl _ _⟩
  · have E := Lib.hid (show b = false by
      rw [hb, decide_eq_false]
      rw [bt_far (by omega)]; exact fun e => hc e.symm)
    clear hs zs hb
    go_enter Tryd.func40, Tryd.ntmps40
    go_wp2_with fail
    go_ret
    exact ⟨ret_bool E.out.symm, Below.refl _ _⟩
set_option maxHeartbeats 4000000 in
theorem rdays_is {y m n : Int} (w : World) (h0 : 0 ≤ y) (_h1 : y ≤ 100000) (hn : n = days y m) : Calls Tryd.prog 43 #[.int .i64 y, .int .i64 m] w fun e w' => e = .returned (.int .i64 n) ∧ Below w.heap.size w w' := by
  unfold days at hn
  by_cases m2 : m = 2
  · subst m2
    rw [if_pos rfl] at hn
    obtain ⟨p, hp⟩ : ∃ p, p = y % 4 := ⟨_, rfl⟩
    obtain ⟨q, hq⟩ : ∃ p, p = y % 100 := ⟨_, rfl⟩
    obtain ⟨r, hr⟩ : ∃ p, p = y % 400 := ⟨_, rfl⟩
    unfold leap at hn
    rw [← hp, ← hq, ← hr] at hn
    have p1 : y.tmod 4 = p := by rw [Int.tmod_eq_emod_of_nonneg h0, hp]
    have q1 : y.tmod 100 = q := by rw [Int.tmod_eq_emod_of_nonneg h0, hq]
    have r1 : y.tmod 400 = r := by rw [Int.tmod_eq_emod_of_nonneg h0, hr]
    have p2 := hp.symm
    have q2 := hq.symm
    have r2 := hr.symm
    have hp0 : 0 ≤ p ∧ p < 4 := by omega
    have hq0 : 0 ≤ q ∧ q < 100 := by omega
    have hr0 : 0 ≤ r ∧ r < 400 := by omega
    obtain ⟨hp0, hp9⟩ := hp0
    obtain ⟨hq0, hq9⟩ := hq0
    obtain ⟨hr0, hr9⟩ := hr0
    have hb' := Lib.hid hn
    clear hp hq hr hn
    by_cases c : r = 0
    · have c' : (r == 0) = true := by simp [c]
      have E := Lib.hid (show n = 29 by rw [hb'.out]; simp [c])
      clear c
      go_enter Tryd.func43, Tryd.ntmps43
      go_wp2_with fail
      go_ret
      exact ⟨ret_int E.out.symm, Below.refl _ _⟩
    · have c' : (r == 0) = false := by simp [c]
      by_cases a : p = 0
      · have a' : (p == 0) = true := by simp [a]
        by_cases b0 : q = 0
        · have b' : (q != 0) = false := by simp [b0]
          have E := Lib.hid (show n = 28 by rw [hb'.out]; simp [c, b0])
          clear c a b0
          go_enter Tryd.func43, Tryd.ntmps43
          go_wp2_with fail
          go_ret
          exact ⟨ret_int E.out.symm, Below.refl _ _⟩
        · have b' : (q != 0) = true := by simp [b0]
          have E := Lib.hid (show n = 29 by rw [hb'.out]; simp [a, b0])
          clear c a b0
          go_enter Tryd.func43, Tryd.ntmps43
          go_wp2_with fail
          go_ret
          exact ⟨ret_int E.out.symm, Below.refl _ _⟩
      · have a' : (p == 0) = false := by simp [a]
        have E := Lib.hid (show n = 28 by rw [hb'.out]; simp [a, c])
        clear c a
        go_enter Tryd.func43, Tryd.ntmps43
        go_wp2_with fail
        go_ret
        exact ⟨ret_int E.out.symm, Below.refl _ _⟩
  · rw [if_neg m2] at hn
    have q2 : (m == 2) = false := by simpa using m2
    by_cases h4 : m = 4 ∨ m = 6 ∨ m = 9 ∨ m = 11
    · rw [if_pos h4] at hn
      have E := Lib.hid hn
      clear hn m2 h0 q2
      rcases h4 with rfl | rfl | rfl | rfl
      all_goals
        go_enter Tryd.func43, Tryd.ntmps43
        go_wp2_with fail
        go_ret
        exact ⟨ret_int E.out.symm, Below.refl _ _⟩
    · rw [if_neg h4] at hn
      have E := Lib.hid hn
      have q4 : (m == 4) = false := by simp; omega
      have q6 : (m == 6) = false := by simp; omega
      have q9 : (m == 9) = false := by simp; omega
      have q11 : (m == 11) = false := by simp; omega
      clear hn m2 h4 h0
      go_enter Tryd.func43, Tryd.ntmps43
      go_wp2_with fail
      go_ret
      exact ⟨ret_int E.out.symm, Below.refl _ _⟩
end Da
end Go.Proofs.YtgmlbcdakblpiaaDoor
