/- The laws FloatsRead and FloatsLess, walked. -/
import Derived.Test.YthjlnafmpcppfaaGreatDoorFq
namespace Go.Proofs.YthjlnafmpcppfaaGreatDoor
open Go.RowKit
namespace Fl

theorem itoN_short (k : Nat) : ∀ n, n < 10 ^ (k + 1) → (itoN n).length ≤ k + 1 := by
  induction k with
  | zero => intro n h; rw [itoN_lt (by simpa using h)]; simp
  | succ k ih =>
    intro n h
    by_cases h2 : n < 10
    · rw [itoN_lt h2]; simp
    · rw [itoN, if_neg h2]
      have := ih (n / 10) (by rw [Nat.div_lt_iff_lt_mul (by omega)]; rw [Nat.pow_succ] at h; exact h)
      simp; omega
theorem rd_len (l : List UInt8) : (rd l).1.length ≤ 2 * l.length + 20 := by
  unfold rd
  split
  · simp
  · split
    · simp
    · split
      · simp
      · split
        · simp
        · rename_i h
          have h1 := trimL_len (trimR (rdD l))
          have h2 := trimR_len (rdD l)
          have h3 := rdD_len l
          have h4 : (itoL (rdN l)).length ≤ 12 := by
            rw [itoL_sg]
            have := itoN_short 10 (rdN l).natAbs (by have : (10 : Nat) ^ (10 + 1) = 100000000000 := by decide
                                                     omega)
            have h5 : (sg (decide (rdN l < 0))).length ≤ 1 := by unfold sg; split <;> simp
            simp; omega
          have h6 : (if bt l 0 = 45 then [(45 : UInt8)] else []).length ≤ 1 := by split <;> simp
          unfold rdT
          simp only [List.length_append]
          simp; omega
theorem rdF_len (l : List UInt8) : (rdF l).1.length ≤ 2 * l.length + 22 := by
  have hm := mn_len l
  unfold rdF
  split
  · simp only [List.length_append, List.length_cons, List.length_nil]; omega
  · split
    · simp
    · split
      · have h1 := rd_len (mn l ++ st (l.drop (sg0 l)))
        have h2 := st_len (l.drop (sg0 l))
        rw [List.length_append] at h1
        rw [List.length_drop] at h2
        omega
      · simp
theorem as_txt (s : ByteArray) : s = txt s.data.toList := by cases s; rfl
theorem as_len (s : ByteArray) : s.data.toList.length = s.size := by cases s; rfl
set_option maxHeartbeats 4000000 in
set_option maxRecDepth 100000 in
theorem read_any' (s : ByteArray) (w : World) (hT : AllT w) : Calls Tryz.prog 3 #[.string s] w fun e w' => e = .returned (.bool true) ∧ Below w.heap.size w w' := by
  have HL := Lib.hid flives_any
  have HB0 := Lib.hid (Below.refl w.heap.size w)
  have HT := Lib.hid hT
  clear hT
  by_cases h1 : s.size ≤ 1000
  · obtain ⟨l, hl⟩ : ∃ l, l = s.data.toList := ⟨_, rfl⟩
    have hs : s = txt l := by rw [hl]; exact as_txt s
    have la : l.length ≤ 1000 := by rw [hl, as_len]; exact h1
    have lu := rdF_len l
    obtain ⟨U, hU⟩ : ∃ U, U = txt (rdF l).1 := ⟨_, rfl⟩
    obtain ⟨c, hc⟩ : ∃ c, c = (rdF l).2 := ⟨_, rfl⟩
    obtain ⟨x, hx⟩ : ∃ x, x = flIs l := ⟨_, rfl⟩
    obtain ⟨y, hy⟩ : ∃ y, y = flIs (rdF l).1 := ⟨_, rfl⟩
    have C1 := Lib.hid (fun w h => fread_is (l := l) w hs (by omega) h)
    have C2 := Lib.hid (fun w => fread_ref (l := l) w hs (by omega))
    rw [← hU, ← hc] at C1 C2
    have C3 := Lib.hid (fun w h => is_is (x := x) w hs (by omega) hx h)
    have C4 := Lib.hid (fun w => ris_any (x := x) w hs (by omega) hx)
    have C5 := Lib.hid (fun w h => is_is (x := y) w hU (by omega) hy h)
    have C6 := Lib.hid (fun w => ris_any (x := y) w hU (by omega) hy)
    clear hl hs la lu hU hc hx hy
    go_enter Tryz.func3, Tryz.ntmps3
    go_wp2_with fail
    refine (C1.out _ (HT.out.below HB0.out)).mono ?_
    rintro e w1 ⟨rfl, hb⟩
    have HB1 := Lib.hid (II.below_tr HB0.out hb)
    clear hb
    go_wp2_with fail
    refine (C2.out _).mono ?_
    rintro e w2 ⟨rfl, hb⟩
    have HB2 := Lib.hid (II.below_tr HB1.out hb)
    clear hb
    go_wp2_with fail
    refine (C3.out _ (HT.out.below HB2.out).dec).mono ?_
    rintro e w3 ⟨rfl, hb⟩
    have HB3 := Lib.hid (II.below_tr HB2.out hb)
    clear hb
    go_wp2_with fail
    refine (C4.out _).mono ?_
    rintro e w4 ⟨rfl, hb⟩
    have HB4 := Lib.hid (II.below_tr HB3.out hb)
    clear hb
    go_wp2_with fail
    refine (C5.out _ (HT.out.below HB4.out).dec).mono ?_
    rintro e w5 ⟨rfl, hb⟩
    have HB5 := Lib.hid (II.below_tr HB4.out hb)
    clear hb
    go_wp2_with fail
    refine (C6.out _).mono ?_
    rintro e w6 ⟨rfl, hb⟩
    have HB6 := Lib.hid (II.below_tr HB5.out hb)
    clear hb
    go_wp2_with fail
    refine (HL.out _ (HT.out.below HB6.out)).mono ?_
    rintro e w7 ⟨rfl, hb⟩
    have HB7 := Lib.hid (II.below_tr HB6.out hb)
    clear hb
    go_wp2_with fail
    go_ret
    exact ⟨rfl, HB7.out⟩
  · go_enter Tryz.func3, Tryz.ntmps3
    go_wp2_with fail
    refine (HL.out _ (HT.out.below HB0.out)).mono ?_
    rintro e w1 ⟨rfl, hb⟩
    have HB1 := Lib.hid (II.below_tr HB0.out hb)
    clear hb
    go_wp2_with fail
    go_ret
    exact ⟨rfl, HB1.out⟩
set_option maxHeartbeats 4000000 in
set_option maxRecDepth 100000 in
theorem less_any' (s t : ByteArray) (w : World) (hT : AllT w) : Calls Tryz.prog 4 #[.string s, .string t] w fun e w' => e = .returned (.bool true) ∧ Below w.heap.size w w' := by
  have HL := Lib.hid flives_any
  have HB0 := Lib.hid (Below.refl w.heap.size w)
  have HT := Lib.hid hT
  clear hT
  by_cases h1 : s.size ≤ 1000
  · by_cases h2 : t.size ≤ 1000
    · obtain ⟨a, ha⟩ : ∃ a, a = s.data.toList := ⟨_, rfl⟩
      obtain ⟨b, hb⟩ : ∃ b, b = t.data.toList := ⟨_, rfl⟩
      have hs : s = txt a := by rw [ha]; exact as_txt s
      have ht : t = txt b := by rw [hb]; exact as_txt t
      have la : a.length ≤ 1000 := by rw [ha, as_len]; exact h1
      have lb : b.length ≤ 1000 := by rw [hb, as_len]; exact h2
      have lu := rdF_len a
      have lv := rdF_len b
      obtain ⟨U, hU⟩ : ∃ U, U = txt (rdF a).1 := ⟨_, rfl⟩
      obtain ⟨V, hV⟩ : ∃ V, V = txt (rdF b).1 := ⟨_, rfl⟩
      obtain ⟨c, hc⟩ : ∃ c, c = (rdF a).2 := ⟨_, rfl⟩
      obtain ⟨d, hd⟩ : ∃ d, d = (rdF b).2 := ⟨_, rfl⟩
      obtain ⟨x, hx⟩ : ∃ x, x = flLess a b := ⟨_, rfl⟩
      obtain ⟨y, hy⟩ : ∃ y, y = flLess (rdF a).1 (rdF b).1 := ⟨_, rfl⟩
      obtain ⟨z, hz⟩ : ∃ z, z = flLess (rdF b).1 (rdF a).1 := ⟨_, rfl⟩
      have C1 := Lib.hid (fun w => fread_ref (l := a) w hs (by omega))
      have C2 := Lib.hid (fun w => fread_ref (l := b) w ht (by omega))
      rw [← hU, ← hc] at C1
      rw [← hV, ← hd] at C2
      have C3 := Lib.hid (fun w h => less_is (x := x) w hs ht (by omega) (by omega) hx h)
      have C4 := Lib.hid (fun w => rless_any (x := x) w hs ht (by omega) (by omega) hx)
      have C5 := Lib.hid (fun w h => less_is (x := y) w hU hV (by omega) (by omega) hy h)
      have C6 := Lib.hid (fun w => rless_any (x := y) w hU hV (by omega) (by omega) hy)
      have C7 := Lib.hid (fun w h => less_is (x := z) w hV hU (by omega) (by omega) hz h)
      have C8 := Lib.hid (fun w => rless_any (x := z) w hV hU (by omega) (by omega) hz)
      clear ha hb hs ht la lb lu lv hU hV hc hd hx hy hz
      go_enter Tryz.func4, Tryz.ntmps4
      go_wp2_with fail
      refine (C1.out _).mono ?_
      rintro e w1 ⟨rfl, hb⟩
      have HB1 := Lib.hid (II.below_tr HB0.out hb)
      clear hb
      go_wp2_with fail
      refine (C2.out _).mono ?_
      rintro e w2 ⟨rfl, hb⟩
      have HB2 := Lib.hid (II.below_tr HB1.out hb)
      clear hb
      go_wp2_with fail
      refine (C3.out _ (HT.out.below HB2.out).dec).mono ?_
      rintro e w3 ⟨rfl, hb⟩
      have HB3 := Lib.hid (II.below_tr HB2.out hb)
      clear hb
      go_wp2_with fail
      refine (C4.out _).mono ?_
      rintro e w4 ⟨rfl, hb⟩
      have HB4 := Lib.hid (II.below_tr HB3.out hb)
      clear hb
      go_wp2_with fail
      refine (C5.out _ (HT.out.below HB4.out).dec).mono ?_
      rintro e w5 ⟨rfl, hb⟩
      have HB5 := Lib.hid (II.below_tr HB4.out hb)
      clear hb
      go_wp2_with fail
      refine (C6.out _).mono ?_
      rintro e w6 ⟨rfl, hb⟩
      have HB6 := Lib.hid (II.below_tr HB5.out hb)
      clear hb
      go_wp2_with fail
      refine (C7.out _ (HT.out.below HB6.out).dec).mono ?_
      rintro e w7 ⟨rfl, hb⟩
      have HB7 := Lib.hid (II.below_tr HB6.out hb)
      clear hb
      go_wp2_with fail
      refine (C8.out _).mono ?_
      rintro e w8 ⟨rfl, hb⟩
      have HB8 := Lib.hid (II.below_tr HB7.out hb)
      clear hb
      go_wp2_with fail
      refine (HL.out _ (HT.out.below HB8.out)).mono ?_
      rintro e w9 ⟨rfl, hb⟩
      have HB9 := Lib.hid (II.below_tr HB8.out hb)
      clear hb
      go_wp2_with fail
      go_ret
      exact ⟨rfl, HB9.out⟩
    · go_enter Tryz.func4, Tryz.ntmps4
      go_wp2_with fail
      refine (HL.out _ (HT.out.below HB0.out)).mono ?_
      rintro e w1 ⟨rfl, hb⟩
      have HB1 := Lib.hid (II.below_tr HB0.out hb)
      clear hb
      go_wp2_with fail
      go_ret
      exact ⟨rfl, HB1.out⟩
  · go_enter Tryz.func4, Tryz.ntmps4
    go_wp2_with fail
    refine (HL.out _ (HT.out.below HB0.out)).mono ?_
    rintro e w1 ⟨rfl, hb⟩
    have HB1 := Lib.hid (II.below_tr HB0.out hb)
    clear hb
    go_wp2_with fail
    go_ret
    exact ⟨rfl, HB1.out⟩
end Fl
end Go.Proofs.YthjlnafmpcppfaaGreatDoor
