/- The document's order of normal forms, walked. -/
import Derived.Test.YtonfaphllpjmpaaDoorInR
namespace Go.Proofs.YtonfaphllpjmpaaDoor
open Go.RowKit

theorem below_tr {W w w' : World} (h : Below W.heap.size W w) (h' : Below w.heap.size w w') : Below W.heap.size W w' := h.trans (h'.mono h.size)
theorem inormal_any {l : List UInt8} {s : ByteArray} {x : Bool} (w : World) (hs : s = txt l) (hl : l.length ≤ 100000) (hx : x = In.nor l) :
    Calls Tryd.prog 28 #[.string s] w fun e w' => e = .returned (.bool x) ∧ Below w.heap.size w w' := by
  obtain ⟨R, hR⟩ : ∃ R, R = In.rd l := ⟨_, rfl⟩
  have HC := Lib.hid (iread_any w hs hl hR)
  have HS := Lib.hid hs
  have HX := Lib.hid (show x = decide (R = .ok l) by rw [hx, In.nor, hR])
  clear hs hl hx hR
  go_enter Tryd.func28, Tryd.ntmps28
  go_wp2_with fail
  refine HC.out.mono ?_
  rintro e w1 ⟨rfl, hb⟩
  have HB := Lib.hid hb
  clear hb HC
  cases R with
  | ok t =>
    obtain ⟨S, hS⟩ : ∃ S, S = txt t := ⟨_, rfl⟩
    rw [irv, ← hS]
    have hq := iseq_txt hS HS.out
    have HE : Hid (x = decide (t = l)) := Lib.hid (by rw [HX.out]; simp)
    rw [← HE.out] at hq
    clear hS
    go_wp2_with fail
    go_ret
    exact ⟨rfl, HB.out⟩
  | syn =>
    obtain rfl : x = false := by rw [HX.out]; simp
    rw [irv]
    go_wp2_with fail
    go_ret
    exact ⟨rfl, HB.out⟩
  | big =>
    obtain rfl : x = false := by rw [HX.out]; simp
    rw [irv]
    go_wp2_with fail
    go_ret
    exact ⟨rfl, HB.out⟩
theorem In.nfI_inj {a b : Int} (h : In.nfI a = In.nfI b) : a = b := by
  have := congrArg In.val h
  rwa [In.val_nfI, In.val_nfI] at this
theorem nfI_neg {v : Int} (h : v < 0) : In.nfI v = 45 :: In.dN 10 (-v).toNat := by rw [In.nfI, if_pos h]
theorem nfI_pos {v : Int} (h : ¬ v < 0) : In.nfI v = In.dN 10 v.toNat := by rw [In.nfI, if_neg h]
theorem nfI_head (v : Int) : 0 < (In.nfI v).length ∧ ((bt (In.nfI v) 0 == 45) = decide (v < 0)) := by
  by_cases h : v < 0
  · rw [nfI_neg h, decide_eq_true h]; exact ⟨by simp, rfl⟩
  · rw [nfI_pos h, decide_eq_false h]
    refine ⟨In.dN_len_pos _, ?_⟩
    by_cases h0 : v.toNat = 0
    · rw [h0, In.dN_zero (by omega)]; rfl
    · obtain ⟨d, r, e, h1, h2⟩ := In.dN_head (b := 10) (by omega) (by omega) h0
      rw [e]
      show (((In.ch d).toNat : Int) == 45) = false
      have := (In.ch_signs (d := d) (by omega)).2
      simp only [beq_eq_false_iff_ne, ne_eq]
      intro h
      exact this (UInt8.toNat_inj.1 (by have : ((45 : UInt8).toNat : Int) = 45 := rfl; omega))
set_option maxHeartbeats 4000000 in
theorem icmp_any {l k : List UInt8} {s t : ByteArray} {x : Int} (w : World) (hs : s = txt l) (ht : t = txt k) (hl : l.length ≤ 100000) (hk : k.length ≤ 100000) (hx : x = In.cm l k) :
    Calls Tryd.prog 12 #[.string s, .string t] w fun e w' => e = .returned (.int .i64 x) ∧ Below w.heap.size w w' := by
  obtain ⟨A, hA⟩ : ∃ A, A = In.nor l := ⟨_, rfl⟩
  obtain ⟨B, hB⟩ : ∃ B, B = In.nor k := ⟨_, rfl⟩
  have CA := Lib.hid (fun w => inormal_any (x := A) w hs hl hA)
  have CB := Lib.hid (fun w => inormal_any (x := B) w ht hk hB)
  have HA := Lib.hid hA
  have HB := Lib.hid hB
  have HX := Lib.hid hx
  have HS := Lib.hid hs
  have HT := Lib.hid ht
  have HSZ := Lib.hid (show s.size = l.length by rw [hs, txt_size])
  have HTZ := Lib.hid (show t.size = k.length by rw [ht, txt_size])
  have hs1 : s.size ≤ 100000 := by rw [HSZ.out]; exact hl
  have ht1 : t.size ≤ 100000 := by rw [HTZ.out]; exact hk
  have hx0 := txt_at hs (k := 0)
  have hz0 := txt_at ht (k := 0)
  have hq := iseq_txt hs ht
  obtain ⟨y, HY⟩ : ∃ y, Hid (y = bt l 0) := ⟨_, rfl⟩
  obtain ⟨z, HZ⟩ : ∃ z, Hid (z = bt k 0) := ⟨_, rfl⟩
  rw [← HY.out] at hx0
  rw [← HZ.out] at hz0
  clear hs ht hl hk hx hA hB
  cases A
  · obtain rfl : x = 0 := by rw [HX.out, In.cm, if_neg (fun h => by rw [← HA.out] at h; cases h.1)]
    go_enter Tryd.func12, Tryd.ntmps12
    go_wp2_with fail
    refine (CA.out _).mono ?_
    rintro e w1 ⟨rfl, hb⟩
    have HB1 := Lib.hid hb
    clear hb
    go_wp2_with fail
    go_ret
    exact ⟨rfl, HB1.out⟩
  cases B
  · obtain rfl : x = 0 := by rw [HX.out, In.cm, if_neg (fun h => by rw [← HB.out] at h; cases h.2)]
    go_enter Tryd.func12, Tryd.ntmps12
    go_wp2_with fail
    refine (CA.out _).mono ?_
    rintro e w1 ⟨rfl, hb⟩
    have HB1 := Lib.hid hb
    clear hb
    go_wp2_with fail
    refine (CB.out _).mono ?_
    rintro e w2 ⟨rfl, hb⟩
    have HB2 := Lib.hid (below_tr HB1.out hb)
    clear hb
    go_wp2_with fail
    go_ret
    exact ⟨rfl, HB2.out⟩
  obtain ⟨a, ha, rfl⟩ := In.nor_iff.1 HA.out.symm
  obtain ⟨b, hb, rfl⟩ := In.nor_iff.1 HB.out.symm
  have HXE := Lib.hid (show x = In.sgn a b by rw [HX.out, In.cm_nfI ha hb])
  obtain ⟨p1, p2⟩ := nfI_head a
  obtain ⟨q1, q2⟩ := nfI_head b
  rw [← HY.out] at p2
  rw [← HZ.out] at q2
  rw [← HSZ.out] at p1
  rw [← HTZ.out] at q1
  have HFA := Lib.hid ha
  have HFB := Lib.hid hb
  clear ha hb HX
  by_cases heq : a = b
  · obtain rfl : x = 0 := by rw [HXE.out, heq]; simp [In.sgn]
    have hq2 : (s.toList == t.toList) = true := by rw [hq, heq]; simp
    clear hq heq p2 q2
    go_enter Tryd.func12, Tryd.ntmps12
    go_wp2_with fail
    refine (CA.out _).mono ?_
    rintro e w1 ⟨rfl, hb⟩
    have HB1 := Lib.hid hb
    clear hb
    go_wp2_with fail
    refine (CB.out _).mono ?_
    rintro e w2 ⟨rfl, hb⟩
    have HB2 := Lib.hid (below_tr HB1.out hb)
    clear hb
    go_wp2_with fail
    go_ret
    exact ⟨rfl, HB2.out⟩
  · have hq2 : (s.toList == t.toList) = false := by rw [hq]; simp only [decide_eq_false_iff_not]; exact fun h => heq (In.nfI_inj h)
    have HEQ := Lib.hid heq
    clear hq heq
    by_cases na : a < 0
    · rw [decide_eq_true na] at p2
      by_cases nb : b < 0
      · rw [decide_eq_true nb] at q2
        obtain ⟨O, HO⟩ : ∃ O, Hid (O = decide ((-a).toNat < (-b).toNat)) := ⟨_, rfl⟩
        have HU := Lib.hid (show t.extract 1 t.size = txt (In.dN 10 (-b).toNat) by rw [HT.out, nfI_neg nb, txt_cut, txt_size, List.take_length]; rfl)
        have HV := Lib.hid (show s.extract 1 s.size = txt (In.dN 10 (-a).toNat) by rw [HS.out, nfI_neg na, txt_cut, txt_size, List.take_length]; rfl)
        have HOV := Lib.hid (fun w => over_any (x := O) w HU.out HV.out HO.out)
        have HNA := Lib.hid na
        have HNB := Lib.hid nb
        clear na nb
        cases O
        · obtain rfl : x = -1 := by
            have := of_decide_eq_false HO.out.symm
            have := HEQ.out; have := HNA.out; have := HNB.out
            rw [HXE.out, In.sgn, if_pos (by omega)]
          go_enter Tryd.func12, Tryd.ntmps12
          go_wp2_with fail
          refine (CA.out _).mono ?_
          rintro e w1 ⟨rfl, hb⟩
          have HB1 := Lib.hid hb
          clear hb
          go_wp2_with fail
          refine (CB.out _).mono ?_
          rintro e w2 ⟨rfl, hb⟩
          have HB2 := Lib.hid (below_tr HB1.out hb)
          clear hb
          go_wp2_with fail
          go_quiet (first | (go_at_call 26; refine (HOV.out _).mono ?_; rintro _ _ ⟨rfl, rfl⟩; exact ⟨rfl, _, rfl⟩))
          go_wp2_with fail
          go_ret
          exact ⟨rfl, below_tr HB2.out ⟨rfl, rfl, rfl, Nat.le_refl _, fun _ _ => rfl⟩⟩
        · obtain rfl : x = 1 := by
            have := of_decide_eq_true HO.out.symm
            have := HEQ.out; have := HNA.out; have := HNB.out
            rw [HXE.out, In.sgn, if_neg (by omega), if_pos (by omega)]
          go_enter Tryd.func12, Tryd.ntmps12
          go_wp2_with fail
          refine (CA.out _).mono ?_
          rintro e w1 ⟨rfl, hb⟩
          have HB1 := Lib.hid hb
          clear hb
          go_wp2_with fail
          refine (CB.out _).mono ?_
          rintro e w2 ⟨rfl, hb⟩
          have HB2 := Lib.hid (below_tr HB1.out hb)
          clear hb
          go_wp2_with fail
          go_quiet (first | (go_at_call 26; refine (HOV.out _).mono ?_; rintro _ _ ⟨rfl, rfl⟩; exact ⟨rfl, _, rfl⟩))
          go_wp2_with fail
          go_ret
          exact ⟨rfl, below_tr HB2.out ⟨rfl, rfl, rfl, Nat.le_refl _, fun _ _ => rfl⟩⟩
      · rw [decide_eq_false nb] at q2
        obtain rfl : x = -1 := by rw [HXE.out, In.sgn, if_pos (by omega)]
        clear na nb
        go_enter Tryd.func12, Tryd.ntmps12
        go_wp2_with fail
        refine (CA.out _).mono ?_
        rintro e w1 ⟨rfl, hb⟩
        have HB1 := Lib.hid hb
        clear hb
        go_wp2_with fail
        refine (CB.out _).mono ?_
        rintro e w2 ⟨rfl, hb⟩
        have HB2 := Lib.hid (below_tr HB1.out hb)
        clear hb
        go_wp2_with fail
        go_ret
        exact ⟨rfl, HB2.out⟩
    · rw [decide_eq_false na] at p2
      by_cases nb : b < 0
      · rw [decide_eq_true nb] at q2
        obtain rfl : x = 1 := by rw [HXE.out, In.sgn, if_neg (by omega), if_pos (by omega)]
        clear na nb
        go_enter Tryd.func12, Tryd.ntmps12
        go_wp2_with fail
        refine (CA.out _).mono ?_
        rintro e w1 ⟨rfl, hb⟩
        have HB1 := Lib.hid hb
        clear hb
        go_wp2_with fail
        refine (CB.out _).mono ?_
        rintro e w2 ⟨rfl, hb⟩
        have HB2 := Lib.hid (below_tr HB1.out hb)
        clear hb
        go_wp2_with fail
        go_ret
        exact ⟨rfl, HB2.out⟩
      · rw [decide_eq_false nb] at q2
        obtain ⟨O, HO⟩ : ∃ O, Hid (O = decide (b.toNat < a.toNat)) := ⟨_, rfl⟩
        have HOV := Lib.hid (fun w => over_any (x := O) w (show s = txt (In.dN 10 a.toNat) by rw [HS.out, nfI_pos na]) (show t = txt (In.dN 10 b.toNat) by rw [HT.out, nfI_pos nb]) HO.out)
        have HNA := Lib.hid na
        have HNB := Lib.hid nb
        clear na nb
        cases O
        · obtain rfl : x = -1 := by
            have := of_decide_eq_false HO.out.symm
            have := HEQ.out; have := HNA.out; have := HNB.out
            rw [HXE.out, In.sgn, if_pos (by omega)]
          go_enter Tryd.func12, Tryd.ntmps12
          go_wp2_with fail
          refine (CA.out _).mono ?_
          rintro e w1 ⟨rfl, hb⟩
          have HB1 := Lib.hid hb
          clear hb
          go_wp2_with fail
          refine (CB.out _).mono ?_
          rintro e w2 ⟨rfl, hb⟩
          have HB2 := Lib.hid (below_tr HB1.out hb)
          clear hb
          go_wp2_with fail
          go_quiet (first | (go_at_call 26; refine (HOV.out _).mono ?_; rintro _ _ ⟨rfl, rfl⟩; exact ⟨rfl, _, rfl⟩))
          go_wp2_with fail
          go_ret
          exact ⟨rfl, below_tr HB2.out ⟨rfl, rfl, rfl, Nat.le_refl _, fun _ _ => rfl⟩⟩
        · obtain rfl : x = 1 := by
            have := of_decide_eq_true HO.out.symm
            have := HEQ.out; have := HNA.out; have := HNB.out
            rw [HXE.out, In.sgn, if_neg (by omega), if_pos (by omega)]
          go_enter Tryd.func12, Tryd.ntmps12
          go_wp2_with fail
          refine (CA.out _).mono ?_
          rintro e w1 ⟨rfl, hb⟩
          have HB1 := Lib.hid hb
          clear hb
          go_wp2_with fail
          refine (CB.out _).mono ?_
          rintro e w2 ⟨rfl, hb⟩
          have HB2 := Lib.hid (below_tr HB1.out hb)
          clear hb
          go_wp2_with fail
          go_quiet (first | (go_at_call 26; refine (HOV.out _).mono ?_; rintro _ _ ⟨rfl, rfl⟩; exact ⟨rfl, _, rfl⟩))
          go_wp2_with fail
          go_ret
          exact ⟨rfl, below_tr HB2.out ⟨rfl, rfl, rfl, Nat.le_refl _, fun _ _ => rfl⟩⟩
end Go.Proofs.YtonfaphllpjmpaaDoor
