/- The document's answers on Normal and Parts, walked. -/
import Derived.Test.YthjlnafmpcppfaaGreatDoorRead
namespace Go.Proofs.YthjlnafmpcppfaaGreatDoor
open Go.RowKit

def norm (l : List UInt8) : Bool := decide ((rd l).2 = 0) && decide ((rd l).1 = l)
theorem txt_inj {a b : List UInt8} (h : txt a = txt b) : a = b := by have := congrArg ByteArray.toList h; rwa [txt_list, txt_list] at this
theorem leq (a b : List UInt8) : (a == b) = decide (a = b) := by rw [Bool.eq_iff_iff]; simp
set_option maxHeartbeats 1000000 in
theorem normal_any {l : List UInt8} {s : ByteArray} (w : World) (hs : s = txt l) (hm : l.length ≤ 1000000) :
    Calls Tryz.prog 28 #[.string s] w fun e w' => e = .returned (.bool (norm l)) ∧ Below w.heap.size w w' := by
  have HS := Lib.hid hs
  have R := Lib.hid (read_any (l := l) w hs hm)
  clear hs hm
  obtain ⟨t, ht⟩ : ∃ t, (rd l).1 = t := ⟨_, rfl⟩
  obtain ⟨c, hc⟩ : ∃ c, (rd l).2 = c := ⟨_, rfl⟩
  have HN := Lib.hid (show norm l = (decide (c = 0) && decide (t = l)) by unfold norm; rw [ht, hc])
  rw [ht, hc] at R
  clear ht hc
  by_cases h0 : c = 0
  · subst h0
    go_enter Tryz.func28, Tryz.ntmps28
    go_wp2_with fail
    refine R.out.mono ?_
    rintro e w1 ⟨rfl, hb⟩
    have HB := Lib.hid hb
    clear hb
    go_wp2_with fail
    go_ret
    exact ⟨ret_bool (by rw [HN.out, HS.out, txt_list, txt_list, leq]; simp), HB.out⟩
  · have h1 : (c == 0) = false := by simpa using h0
    go_enter Tryz.func28, Tryz.ntmps28
    go_wp2_with fail
    refine R.out.mono ?_
    rintro e w1 ⟨rfl, hb⟩
    have HB := Lib.hid hb
    clear hb
    go_wp2_with fail
    go_ret
    exact ⟨ret_bool (by rw [HN.out]; simp [h0]), HB.out⟩
/-- The document's answer on Parts: below nought?, the numerals, the exponent; is it a normal form? -/
def ptM (l : List UInt8) : Bool := norm l && (decide (l ≠ [48]) && decide (bt l 0 = 45))
def ptD (l : List UInt8) : List UInt8 := if norm l = false then [] else if l = [48] then [48] else (l.take (q1 l)).drop (q0 l)
def ptX (l : List UInt8) : Int := if norm l = false ∨ l = [48] then 0 else (powR l (q4 l) (q5 l)).1
theorem rd_is {l : List UInt8} (h : norm l = true) : isB l = true ∧ (powR l (q4 l) (q5 l)).2 = true := by
  unfold norm at h
  have h1 : (rd l).2 = 0 := by simp at h; exact h.1
  cases h2 : isB l
  · rw [rd_syntax h2] at h1; simp at h1
  · cases h3 : (powR l (q4 l) (q5 l)).2
    · rw [rd_exp h2 h3] at h1; simp at h1
    · exact ⟨rfl, rfl⟩
abbrev four (m : Bool) (d : ByteArray) (x : Int) (ok : Bool) : Value := .tuple #[.bool m, .string d, .int .i64 x, .bool ok]
theorem four_is {m m' : Bool} {d d' : ByteArray} {x x' : Int} {ok ok' : Bool} (h1 : m = m') (h2 : d = d') (h3 : x = x') (h4 : ok = ok') : Ending.returned (four m d x ok) = .returned (four m' d' x' ok') := by rw [h1, h2, h3, h4]
set_option maxHeartbeats 1000000 in
theorem parts_any {l : List UInt8} {s : ByteArray} (w : World) (hs : s = txt l) (hm : l.length ≤ 1000000) :
    Calls Tryz.prog 47 #[.string s] w fun e w' => e = .returned (four (ptM l) (txt (ptD l)) (ptX l) (norm l)) ∧ Below w.heap.size w w' := by
  have HZ := Lib.hid (show s.size = l.length by rw [hs, txt_size])
  have HS := Lib.hid hs
  have HM := Lib.hid hm
  have hsz : s.size ≤ 1000000 := by have := HZ.out; omega
  obtain ⟨o1, o2, o3, o4, o5, o6, o7, o8⟩ := q_order (l := l)
  have O7 := Lib.hid o7
  have O8 := Lib.hid o8
  have o6' : q5 l ≤ s.size := by have := HZ.out; omega
  clear hs hm o6 o7 o8
  go_enter Tryz.func47, Tryz.ntmps47
  go_wp2_with fail
  refine (normal_any w HS.out HM.out).mono ?_
  rintro e w1 ⟨rfl, hb1⟩
  have HB1 := Lib.hid hb1
  clear hb1
  by_cases hN : norm l = true
  · have HN := Lib.hid hN
    rw [hN]
    clear hN
    go_upto_if 14 with fail
    rw [show (s.toList == [48]) = decide (l = [48]) by rw [HS.out, txt_list, leq]]
    by_cases h48 : l = [48]
    · have H48 := Lib.hid h48
      rw [show decide (l = [48]) = true by simp [h48]]
      clear h48
      go_wp2_with fail
      refine bodyPost_ret (v := four false ⟨#[48]⟩ 0 true) (by simp [results, Tryz.results47, go_sem]) rfl ?_
      exact ⟨four_is (by unfold ptM; rw [show decide (l ≠ [48]) = false by simp [H48.out]]; simp) (by unfold ptD; rw [if_neg (by rw [HN.out]; simp), if_pos H48.out]; rfl) (by unfold ptX; rw [if_pos (Or.inr H48.out)]) (by rw [HN.out]), HB1.out⟩
    · have H48 := Lib.hid h48
      rw [show decide (l = [48]) = false by simp [h48]]
      clear h48
      have ⟨hB, hpb⟩ := rd_is HN.out
      have hs0 : 0 < s.size := by have := isB_size hB; have := HZ.out; omega
      have HB := Lib.hid hB
      have HPB := Lib.hid hpb
      clear hB hpb
      go_wp2_with fail
      refine (is_any w1 HS.out HM.out).mono ?_
      rintro e w2 ⟨a, b, c, d, f, g, rfl, hp, hb2⟩
      obtain ⟨rfl, rfl, rfl, rfl, rfl, rfl⟩ := hp HB.out
      have HB2 := Lib.hid (HB1.out.trans (hb2.mono HB1.out.size))
      clear hp hb2
      go_wp2_with fail
      refine (power_any _ _ _ _ (q4 l) (q5 l) _ HS.out o5 (by have := HZ.out; omega) HM.out O8.out O7.out).mono ?_
      rintro e w3 ⟨rfl, rfl⟩
      obtain ⟨pn, hpn⟩ : ∃ x, (powR l (q4 l) (q5 l)).1 = x := ⟨_, rfl⟩
      rw [hpn, HPB.out]
      have HPN := Lib.hid hpn
      clear hpn
      have hx := txt_at HS.out (k := 0)
      have HDT := Lib.hid (show s.extract (q0 l) (q1 l) = txt (ptD l) by unfold ptD; rw [if_neg (by rw [HN.out]; simp), if_neg H48.out, HS.out, txt_cut])
      have HX := Lib.hid (show ptX l = pn by unfold ptX; rw [if_neg (fun h => h.elim (by rw [HN.out]; simp) H48.out)]; exact HPN.out)
      have HMI := Lib.hid (show ptM l = decide (bt l 0 = 45) by unfold ptM; rw [HN.out, show decide (l ≠ [48]) = true by simp [H48.out]]; simp)
      go_upto_region 7 with fail
      go_quiet (fail)
      go_wp2_with fail
      refine bodyPost_ret (v := four (bt l 0 == 45) (s.extract (q0 l) (q1 l)) pn true) (by simp [results, Tryz.results47, go_sem]) rfl ?_
      exact ⟨four_is (by rw [HMI.out, eqd]) HDT.out HX.out.symm HN.out.symm, belowDrewN ((HB2.out.alloc HB2.out.size _).alloc (Nat.le_trans HB2.out.size (by simp)) _) _⟩
  · have hN : norm l = false := by simpa using hN
    have HN := Lib.hid hN
    rw [hN]
    clear hN
    go_wp2_with fail
    refine bodyPost_ret (v := four false ⟨#[]⟩ 0 false) (by simp [results, Tryz.results47, go_sem]) rfl ?_
    exact ⟨four_is (by unfold ptM; rw [HN.out]; rfl) (by unfold ptD; rw [if_pos HN.out]; rfl) (by unfold ptX; rw [if_pos (Or.inl HN.out)]) (by rw [HN.out]), HB1.out⟩
end Go.Proofs.YthjlnafmpcppfaaGreatDoor
