/- The program's own Less, walked to its end. -/
import Derived.Test.YthjlnafmpcppfaaGreatDoorDLess
namespace Go.Proofs.YthjlnafmpcppfaaGreatDoor
open Go.RowKit

set_option maxHeartbeats 4000000 in
theorem dless_any {a b : List UInt8} {s t : ByteArray} (w : World) (htab : Tab w) (hs : s = txt a) (ht : t = txt b) (hma : a.length ≤ 1000000) (hmb : b.length ≤ 1000000) :
    Calls Tryz.prog 29 #[.string s, .string t] w fun e w' => e = .returned (.bool (less a b)) ∧ Below w.heap.size w w' := by
  obtain ⟨m, hm⟩ : ∃ M, M = ptM a := ⟨_, rfl⟩
  obtain ⟨d, hd⟩ : ∃ T, T = txt (ptD a) := ⟨_, rfl⟩
  obtain ⟨x, hx⟩ : ∃ X, X = ptX a := ⟨_, rfl⟩
  obtain ⟨n, hn⟩ : ∃ M, M = ptM b := ⟨_, rfl⟩
  obtain ⟨e, he⟩ : ∃ T, T = txt (ptD b) := ⟨_, rfl⟩
  obtain ⟨y, hy⟩ : ∃ X, X = ptX b := ⟨_, rfl⟩
  obtain ⟨ok, hok⟩ : ∃ X, X = norm a := ⟨_, rfl⟩
  obtain ⟨is, his⟩ : ∃ X, X = norm b := ⟨_, rfl⟩
  have K1 := Lib.hid (fun w h => known_is hs hma hm hd hx hok w h)
  have K2 := Lib.hid (fun w h => known_is ht hmb hn he hy his w h)
  have rx := ptX_range a
  have ry := ptX_range b
  have la := ptD_len a
  have lb := ptD_len b
  have NX := Lib.hid (fun w => nearer_is (D := ptD a) (E := ptD b) (m := m) (n := n) (d := d) (e := e) (x := x) (y := y) _ _ w hd he (by omega) (by omega) (by omega) (by omega) (by omega) (by omega) rfl rfl rfl)
  have NY := Lib.hid (fun w => nearer_is (D := ptD b) (E := ptD a) (m := n) (n := m) (d := e) (e := d) (x := y) (y := x) _ _ w he hd (by omega) (by omega) (by omega) (by omega) (by omega) (by omega) rfl rfl rfl)
  have HOFF := Lib.hid (show ok = false ∨ is = false → less a b = false by
    intro h; unfold less; rw [if_pos]; rw [← hok, ← his]; exact h.elim Or.inl (fun h => Or.inr (Or.inl h)))
  have HSAME := Lib.hid (show a = b → less a b = false ∧ m = n ∧ d = e ∧ x = y by
    intro h; exact ⟨by unfold less; rw [if_pos (Or.inr (Or.inr h))], by rw [hm, hn, h], by rw [hd, he, h], by rw [hx, hy, h]⟩)
  have HDIFF := Lib.hid (show ok = true → is = true → a ≠ b → ¬ (m = n ∧ d.toList = e.toList ∧ x = y) by
    intro h1 h2 h3 h4
    apply h3
    refine norm_inj (by rw [← hok, h1]) (by rw [← his, h2]) (by rw [← hm, ← hn, h4.1]) ?_ (by rw [← hx, ← hy, h4.2.2])
    have := h4.2.1
    rwa [hd, he, txt_list, txt_list] at this)
  have HL := Lib.hid (show ok = true → is = true → a ≠ b → less a b = lessF m n (ptD a) x (ptD b) y by
    intro h1 h2 h3
    rw [lessF_is (by rw [← hok, h1]) (by rw [← his, h2]) h3, hm, hn, hx, hy])
  have HTAB := Lib.hid htab
  clear hm hd hx hn he hy hok his hs ht hma hmb rx ry la lb htab
  go_enter Tryz.func29, Tryz.ntmps29
  go_wp2_with fail
  refine (K1.out _ HTAB.out).mono ?_
  rintro en w1 ⟨rfl, hb1⟩
  have P1 := Lib.hid (PS.new hb1 m d x)
  clear hb1
  go_wp2_with fail
  refine (K2.out _ (HTAB.out.on P1.out.below)).mono ?_
  rintro en w2 ⟨rfl, hb2⟩
  have Q1 := Lib.hid (P1.out.on hb2)
  clear hb2 P1 K1 K2
  obtain ⟨p, hp⟩ : ∃ b, b = w1.heap.size := ⟨_, rfl⟩
  obtain ⟨q, hq⟩ : ∃ b, b = w2.heap.size := ⟨_, rfl⟩
  have R1 := Lib.hid (show PS w p m d x (w2.alloc (fo n e y)) by rw [hp]; exact Q1.out.on ((Below.refl _ _).alloc (Nat.le_refl _) _))
  have R2 := Lib.hid (show PS w q n e y (w2.alloc (fo n e y)) by rw [hq]; exact PS.new Q1.out.below n e y)
  rw [← hp]
  have HQ := Lib.hid hq
  clear hp hq Q1
  go_upto_region 3 with fail
  rw [← HQ.out]
  generalize hW : w2.alloc (Obj.cells #[Value.bool n, Value.string e, Value.int IntKind.i64 y] 46) = W at *
  clear hW HQ
  have c0 := R1.out.c0
  have c1 := R1.out.c1
  have c2 := R1.out.c2
  have e0 := R2.out.c0
  have e1 := R2.out.c1
  have e2 := R2.out.c2
  go_cut [29] (fun v wx => v = .bool (!ok || !is || decide (a = b)) ∧ W = wx)
  case first =>
    cases ok
    · go_wp2_with fail
      go_meet
      exact ⟨rfl, rfl⟩
    · cases is
      · go_wp2_with fail
        go_meet
        exact ⟨rfl, rfl⟩
      · by_cases hab : a = b
        · obtain ⟨_, h1, h2, h3⟩ := HSAME.out hab
          have E := Lib.hid (show decide (a = b) = true by simp [hab])
          clear HL HDIFF HOFF HSAME hab NX NY R1 R2
          subst h1
          subst h2
          subst h3
          go_wp2_with fail
          go_meet
          exact ⟨by rw [E.out]; rfl, rfl⟩
        · have E := Lib.hid (show decide (a = b) = false by simp [hab])
          have D := Lib.hid (HDIFF.out rfl rfl hab)
          clear HL HDIFF HOFF HSAME hab NX NY
          go_wp2_with fail
          all_goals first
            | (go_meet; exact ⟨by rw [E.out]; rfl, rfl⟩)
            | (exfalso; exact D.out ⟨by assumption, by assumption, by assumption⟩)
  case rest =>
    obtain ⟨rfl, rfl⟩ := hcut
    by_cases hoff : ok = false ∨ is = false
    · have E := Lib.hid (HOFF.out hoff)
      have hb : (!ok || !is || decide (a = b)) = true := by rcases hoff with h | h <;> simp [h]
      rw [hb]
      clear hb hoff HL HDIFF HOFF HSAME NX NY
      go_wp2_with fail
      go_ret
      exact ⟨ret_bool E.out.symm, R1.out.below⟩
    · obtain rfl : ok = true := by cases ok <;> simp_all
      obtain rfl : is = true := by cases is <;> simp_all
      by_cases hab : a = b
      · have E := Lib.hid (HSAME.out hab).1
        have hb : (!true || !true || decide (a = b)) = true := by simp [hab]
        rw [hb]
        clear hb hoff hab HL HDIFF HOFF HSAME NX NY
        go_wp2_with fail
        go_ret
        exact ⟨ret_bool E.out.symm, R1.out.below⟩
      · have E := Lib.hid (HL.out rfl rfl hab)
        have hb : (!true || !true || decide (a = b)) = false := by simp [hab]
        rw [hb]
        clear hb hoff hab HL HDIFF HOFF HSAME
        cases m
        · cases n
          · have E2 := Lib.hid (show nrr (ngt false (ptD a) x) (ngt false (ptD b) y) (ptD a) x (ptD b) y = less a b by rw [E.out]; rfl)
            go_wp2_with fail
            refine (NX.out _).mono ?_
            rintro en w3 ⟨rfl, hb3⟩
            have HB3 := Lib.hid (R1.out.below.trans (hb3.mono R1.out.below.size))
            clear hb3
            go_wp2_with fail
            go_ret
            exact ⟨ret_bool E2.out, HB3.out⟩
          · have E2 := Lib.hid (show less a b = false by rw [E.out]; rfl)
            go_wp2_with fail
            go_ret
            exact ⟨ret_bool E2.out.symm, R1.out.below⟩
        · cases n
          · have E2 := Lib.hid (show less a b = true by rw [E.out]; rfl)
            go_wp2_with fail
            go_ret
            exact ⟨ret_bool E2.out.symm, R1.out.below⟩
          · have E2 := Lib.hid (show nrr (ngt true (ptD b) y) (ngt true (ptD a) x) (ptD b) y (ptD a) x = less a b by rw [E.out]; rfl)
            go_wp2_with fail
            refine (NY.out _).mono ?_
            rintro en w3 ⟨rfl, hb3⟩
            have HB3 := Lib.hid (R1.out.below.trans (hb3.mono R1.out.below.size))
            clear hb3
            go_wp2_with fail
            go_ret
            exact ⟨ret_bool E2.out, HB3.out⟩
end Go.Proofs.YthjlnafmpcppfaaGreatDoor
