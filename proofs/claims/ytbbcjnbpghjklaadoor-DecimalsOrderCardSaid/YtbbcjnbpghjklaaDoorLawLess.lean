/- The law DecimalsLess, walked. -/
import Derived.Test.YtbbcjnbpghjklaaDoorLawLives
namespace Go.Proofs.YtbbcjnbpghjklaaDoor
open Go.RowKit

theorem itoN_short (k : Nat) : ∀ n, n < 10 ^ (k + 1) → (itoN n).length ≤ k + 1 := by
  induction k with
  | zero => intro n h; rw [itoN_lt (by simpa using h)]; simp
  | succ k ih =>
    intro n h
    by_cases h2 : n < 10
    · rw [itoN_lt h2]; simp
    · rw [itoN, if_neg h2]
      have := ih (n / 10) (by rw [Nat.div_lt_iff_lt_mul (by omega)]; rw [Nat.pow_succ] at h; exact h)
      simp; omega
theorem rd_len (l : List UInt8) : (rd l).1.length ≤ 2 * l.length + 20 := by
  unfold rd
  split
  · simp
  · split
    · simp
    · split
      · simp
      · split
        · simp
        · rename_i h
          have h1 := trimL_len (trimR (rdD l))
          have h2 := trimR_len (rdD l)
          have h3 := rdD_len l
          have h4 : (itoL (rdN l)).length ≤ 12 := by
            rw [itoL_sg]
            have := itoN_short 10 (rdN l).natAbs (by have : (10 : Nat) ^ (10 + 1) = 100000000000 := by decide
                                                     omega)
            have h5 : (sg (decide (rdN l < 0))).length ≤ 1 := by unfold sg; split <;> simp
            simp; omega
          have h6 : (if bt l 0 = 45 then [(45 : UInt8)] else []).length ≤ 1 := by split <;> simp
          unfold rdT
          simp only [List.length_append]
          simp; omega
theorem as_txt (s : ByteArray) : s = txt s.data.toList := by cases s; rfl
theorem as_len (s : ByteArray) : s.data.toList.length = s.size := by cases s; rfl
set_option maxHeartbeats 2000000 in
set_option maxRecDepth 100000 in
theorem lawless_any (s t : ByteArray) (w : World) (htab : Tab w) : Calls Tryd.prog 4 #[.string s, .string t] w fun e w' => e = .returned (.bool true) ∧ Below w.heap.size w w' := by
  have HL := Lib.hid lives_any
  have HB0 := Lib.hid (Below.refl w.heap.size w)
  have HT := Lib.hid htab
  clear htab
  by_cases h1 : s.size ≤ 3000
  · by_cases h2 : t.size ≤ 3000
    · obtain ⟨a, ha⟩ : ∃ a, a = s.data.toList := ⟨_, rfl⟩
      obtain ⟨b, hb⟩ : ∃ b, b = t.data.toList := ⟨_, rfl⟩
      have hs : s = txt a := by rw [ha]; exact as_txt s
      have ht : t = txt b := by rw [hb]; exact as_txt t
      have la : a.length ≤ 3000 := by rw [ha, as_len]; exact h1
      have lb : b.length ≤ 3000 := by rw [hb, as_len]; exact h2
      clear ha hb
      have ra := rd_len a
      have rb := rd_len b
      have RA := Lib.hid (fun w => read_any (l := a) w hs (by omega))
      have RB := Lib.hid (fun w => read_any (l := b) w ht (by omega))
      have D1 := Lib.hid (fun w h => dless_any (a := a) (b := b) w h hs ht (by omega) (by omega))
      have E1 := Lib.hid (fun w => less_any (a := a) (b := b) w hs ht (by omega) (by omega))
      have D2 := Lib.hid (fun w h => dless_any (a := (rd a).1) (b := (rd b).1) w h rfl rfl (by omega) (by omega))
      have E2 := Lib.hid (fun w => less_any (a := (rd a).1) (b := (rd b).1) w rfl rfl (by omega) (by omega))
      have D3 := Lib.hid (fun w h => dless_any (a := (rd b).1) (b := (rd a).1) w h rfl rfl (by omega) (by omega))
      have E3 := Lib.hid (fun w => less_any (a := (rd b).1) (b := (rd a).1) w rfl rfl (by omega) (by omega))
      clear hs ht la lb ra rb
      generalize (rd a).2 = ca at *
      generalize (rd b).2 = cb at *
      generalize (rd a).1 = x at *
      generalize (rd b).1 = y at *
      generalize less a b = p at *
      generalize less x y = q at *
      generalize less y x = r at *
      generalize txt x = x at *
      generalize txt y = y at *
      go_enter Tryd.func4, Tryd.ntmps4
      go_wp2_with fail
      refine (RA.out _).mono ?_
      rintro e w1 ⟨rfl, hb⟩
      have HB1 := Lib.hid (HB0.out.trans (hb.mono HB0.out.size))
      clear hb
      go_wp2_with fail
      refine (RB.out _).mono ?_
      rintro e w2 ⟨rfl, hb⟩
      have HB2 := Lib.hid (HB1.out.trans (hb.mono HB1.out.size))
      clear hb
      go_wp2_with fail
      refine (D1.out _ (HT.out.on HB2.out)).mono ?_
      rintro e w3 ⟨rfl, hb⟩
      have HB3 := Lib.hid (HB2.out.trans (hb.mono HB2.out.size))
      clear hb
      go_wp2_with fail
      refine (E1.out _).mono ?_
      rintro e w4 ⟨rfl, hb⟩
      have HB4 := Lib.hid (HB3.out.trans (hb.mono HB3.out.size))
      clear hb
      go_wp2_with fail
      refine (D2.out _ (HT.out.on HB4.out)).mono ?_
      rintro e w5 ⟨rfl, hb⟩
      have HB5 := Lib.hid (HB4.out.trans (hb.mono HB4.out.size))
      clear hb
      go_wp2_with fail
      refine (E2.out _).mono ?_
      rintro e w6 ⟨rfl, hb⟩
      have HB6 := Lib.hid (HB5.out.trans (hb.mono HB5.out.size))
      clear hb
      go_wp2_with fail
      refine (D3.out _ (HT.out.on HB6.out)).mono ?_
      rintro e w7 ⟨rfl, hb⟩
      have HB7 := Lib.hid (HB6.out.trans (hb.mono HB6.out.size))
      clear hb
      go_wp2_with fail
      refine (E3.out _).mono ?_
      rintro e w8 ⟨rfl, hb⟩
      have HB8 := Lib.hid (HB7.out.trans (hb.mono HB7.out.size))
      clear hb
      go_wp2_with fail
      refine (HL.out _ (HT.out.on HB8.out)).mono ?_
      rintro e w9 ⟨rfl, hb⟩
      have HB9 := Lib.hid (HB8.out.trans (hb.mono HB8.out.size))
      clear hb
      go_wp2_with fail
      go_ret
      exact ⟨rfl, HB9.out⟩
    · go_enter Tryd.func4, Tryd.ntmps4
      go_wp2_with fail
      refine (HL.out _ (HT.out.on HB0.out)).mono ?_
      rintro e w1 ⟨rfl, hb⟩
      have HB1 := Lib.hid (HB0.out.trans (hb.mono HB0.out.size))
      clear hb
      go_wp2_with fail
      go_ret
      exact ⟨rfl, HB1.out⟩
  · go_enter Tryd.func4, Tryd.ntmps4
    go_wp2_with fail
    refine (HL.out _ (HT.out.on HB0.out)).mono ?_
    rintro e w1 ⟨rfl, hb⟩
    have HB1 := Lib.hid (HB0.out.trans (hb.mono HB0.out.size))
    clear hb
    go_wp2_with fail
    go_ret
    exact ⟨rfl, HB1.out⟩
end Go.Proofs.YtbbcjnbpghjklaaDoor
