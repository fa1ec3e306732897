/- What landed: read, Read, Of, Long. -/
import Derived.Test.YtgmlbcdakblpiaaDoorDw
namespace Go.Proofs.YtgmlbcdakblpiaaDoor
open Go.RowKit
namespace Da

abbrev e0 : ByteArray := ⟨#[]⟩
def rw3 (l : List UInt8) : Value :=
  if en l = l.length ∧ kd l ≠ 0 then (if ok (pD l) (pT l) (pZ l) = true then .tuple #[wv (txt (pD l)) (txt (pT l)) (txt (pF l)) (txt (pZ l)), .int .i64 0] else .tuple #[wv e0 e0 e0 e0, .int .i64 9]) else .tuple #[wv e0 e0 e0 e0, .int .i64 3]
theorem drop_nil {l : List UInt8} : l.drop (en l) = [] ↔ en l = l.length := by
  have := en_le l
  rw [List.drop_eq_nil_iff]
  omega
set_option maxHeartbeats 4000000 in
set_option maxRecDepth 100000 in
theorem read_is {l : List UInt8} {s : ByteArray} (w : World) (hs : s = txt l) (hl : l.length ≤ 1000000) :
    Calls Tryd.prog 19 #[.string s] w fun e w' => e = .returned (rw3 l) ∧ Below w.heap.size w w' := by
  obtain ⟨A, hA⟩ : ∃ A, A = txt (pD l) := ⟨_, rfl⟩
  obtain ⟨B, hB⟩ : ∃ A, A = txt (pT l) := ⟨_, rfl⟩
  obtain ⟨C, hC⟩ : ∃ A, A = txt (pF l) := ⟨_, rfl⟩
  obtain ⟨E, hE⟩ : ∃ A, A = txt (pZ l) := ⟨_, rfl⟩
  obtain ⟨R, hR⟩ : ∃ A, A = txt (l.drop (en l)) := ⟨_, rfl⟩
  have CS := Lib.hid (fun w => split_is w hs hl)
  rw [spv, ← hA, ← hB, ← hC, ← hE, ← hR] at CS
  have he := txt_empty hR
  obtain ⟨k, hk⟩ : ∃ k : Int, k = (kd l : Nat) := ⟨_, rfl⟩
  have CK := Lib.hid (fun w => kind_is (C := C) w hA hB hE (k := k) hk)
  have hle := pF_le l
  obtain ⟨x, hx⟩ : ∃ x, x = ok (pD l) (pT l) (pZ l) := ⟨_, rfl⟩
  have CM := Lib.hid (fun (h : kd l ≠ 0) w => may_is (C := C) (x := x) w (sh_of h) hA hB hE hx)
  by_cases hn : en l = l.length
  · rw [decide_eq_true (drop_nil.2 hn)] at he
    by_cases hk0 : kd l = 0
    · have EX := Lib.hid (show rw3 l = .tuple #[wv e0 e0 e0 e0, .int .i64 3] by rw [rw3, if_neg (fun h => h.2 hk0)])
      have hk1 : (k == 0) = true := by rw [hk, hk0]; rfl
      clear hs hl hA hB hC hE hR hn hk0 hk hle hx CM
      go_enter Tryd.func19, Tryd.ntmps19
      go_wp2_with fail
      refine (CS.out _).mono ?_
      rintro e w1 ⟨rfl, hb⟩
      have P1 := Lib.hid (PW.start.below hb)
      obtain ⟨⟨c0, c1, c2, c3⟩, f0, f1, f2, f3⟩ := P1.out.cells
      clear hb
      go_wp2_with fail
      refine (CK.out _).mono ?_
      rintro e w2 ⟨rfl, hb⟩
      have P3 := Lib.hid ((P1.out.alloc (wo A B C E)).below hb)
      have Q3 := Lib.hid ((PW.start (W := w1) (a := A) (b := B) (c := C) (d := E)).below hb)
      clear hb c0 c1 c2 c3 f0 f1 f2 f3
      obtain ⟨⟨c0, c1, c2, c3⟩, f0, f1, f2, f3⟩ := P3.out.cells
      obtain ⟨⟨k0, k1, k2, k3⟩, j0, j1, j2, j3⟩ := Q3.out.cells
      go_wp2_with fail
      refine bodyPost_ret (v := .tuple #[wv e0 e0 e0 e0, .int .i64 3]) (by simp [results, Tryd.results19, go_sem, *]) rfl ?_
      exact ⟨by rw [EX.out], P3.out.set.1⟩
    · have hk1 : (k == 0) = false := by rw [hk]; simpa using hk0
      replace CM := Lib.hid (CM.out hk0)
      cases x
      · have EX := Lib.hid (show rw3 l = .tuple #[wv e0 e0 e0 e0, .int .i64 9] by rw [rw3, if_pos ⟨hn, hk0⟩, if_neg (by rw [← hx]; simp)])
        clear hs hl hA hB hC hE hR hn hk0 hk hle hx
        go_enter Tryd.func19, Tryd.ntmps19
        go_wp2_with fail
        refine (CS.out _).mono ?_
        rintro e w1 ⟨rfl, hb⟩
        have P1 := Lib.hid (PW.start.below hb)
        obtain ⟨⟨c0, c1, c2, c3⟩, f0, f1, f2, f3⟩ := P1.out.cells
        clear hb
        go_wp2_with fail
        refine (CK.out _).mono ?_
        rintro e w2 ⟨rfl, hb⟩
        have P3 := Lib.hid ((P1.out.alloc (wo A B C E)).below hb)
        have Q3 := Lib.hid ((PW.start (W := w1) (a := A) (b := B) (c := C) (d := E)).below hb)
        clear hb c0 c1 c2 c3 f0 f1 f2 f3
        obtain ⟨⟨c0, c1, c2, c3⟩, f0, f1, f2, f3⟩ := P3.out.cells
        obtain ⟨⟨k0, k1, k2, k3⟩, j0, j1, j2, j3⟩ := Q3.out.cells
        go_wp2_with fail
        refine (CM.out _).mono ?_
        rintro e w3 ⟨rfl, hb⟩
        have P4 := Lib.hid (P3.out.below hb)
        have Q4 := Lib.hid (Q3.out.below hb)
        clear hb c0 c1 c2 c3 f0 f1 f2 f3 k0 k1 k2 k3 j0 j1 j2 j3
        obtain ⟨⟨c0, c1, c2, c3⟩, f0, f1, f2, f3⟩ := P4.out.cells
        obtain ⟨⟨k0, k1, k2, k3⟩, j0, j1, j2, j3⟩ := Q4.out.cells
        go_wp2_with fail
        refine bodyPost_ret (v := .tuple #[wv e0 e0 e0 e0, .int .i64 9]) (by simp [results, Tryd.results19, go_sem, *]) rfl ?_
        exact ⟨by rw [EX.out], P4.out.set.1⟩
      · have EX := Lib.hid (show rw3 l = .tuple #[wv A B C E, .int .i64 0] by rw [rw3, if_pos ⟨hn, hk0⟩, if_pos hx.symm, hA, hB, hC, hE])
        clear hs hl hA hB hC hE hR hn hk0 hk hle hx
        go_enter Tryd.func19, Tryd.ntmps19
        go_wp2_with fail
        refine (CS.out _).mono ?_
        rintro e w1 ⟨rfl, hb⟩
        have P1 := Lib.hid (PW.start.below hb)
        obtain ⟨⟨c0, c1, c2, c3⟩, f0, f1, f2, f3⟩ := P1.out.cells
        clear hb
        go_wp2_with fail
        refine (CK.out _).mono ?_
        rintro e w2 ⟨rfl, hb⟩
        have P3 := Lib.hid ((P1.out.alloc (wo A B C E)).below hb)
        have Q3 := Lib.hid ((PW.start (W := w1) (a := A) (b := B) (c := C) (d := E)).below hb)
        clear hb c0 c1 c2 c3 f0 f1 f2 f3
        obtain ⟨⟨c0, c1, c2, c3⟩, f0, f1, f2, f3⟩ := P3.out.cells
        obtain ⟨⟨k0, k1, k2, k3⟩, j0, j1, j2, j3⟩ := Q3.out.cells
        go_wp2_with fail
        refine (CM.out _).mono ?_
        rintro e w3 ⟨rfl, hb⟩
        have P4 := Lib.hid (P3.out.below hb)
        have Q4 := Lib.hid (Q3.out.below hb)
        clear hb c0 c1 c2 c3 f0 f1 f2 f3 k0 k1 k2 k3 j0 j1 j2 j3
        obtain ⟨⟨c0, c1, c2, c3⟩, f0, f1, f2, f3⟩ := P4.out.cells
        obtain ⟨⟨k0, k1, k2, k3⟩, j0, j1, j2, j3⟩ := Q4.out.cells
        have P5 := Lib.hid (P4.out.set (a' := A) (b' := B) (c' := C) (d' := E))
        obtain ⟨⟨d0, d1, d2, d3⟩, g0, g1, g2, g3⟩ := P5.out.cells
        go_wp2_with fail
        refine bodyPost_ret (v := .tuple #[wv A B C E, .int .i64 0]) (by simp [results, Tryd.results19, go_sem, *]) rfl ?_
        exact ⟨by rw [EX.out], P5.out.1⟩
  · rw [decide_eq_false (fun h => hn (drop_nil.1 h))] at he
    have EX := Lib.hid (show rw3 l = .tuple #[wv e0 e0 e0 e0, .int .i64 3] by rw [rw3, if_neg (fun h => hn h.1)])
    clear hs hl hA hB hC hE hR hn hk hle hx CM CK
    go_enter Tryd.func19, Tryd.ntmps19
    go_wp2_with fail
    refine (CS.out _).mono ?_
    rintro e w1 ⟨rfl, hb⟩
    have P1 := Lib.hid (PW.start.below hb)
    obtain ⟨⟨c0, c1, c2, c3⟩, f0, f1, f2, f3⟩ := P1.out.cells
    clear hb
    have P2 := Lib.hid (P1.out.alloc (wo A B C E))
    obtain ⟨⟨d0, d1, d2, d3⟩, g0, g1, g2, g3⟩ := P2.out.cells
    go_wp2_with fail
    refine bodyPost_ret (v := .tuple #[wv e0 e0 e0 e0, .int .i64 3]) (by simp [results, Tryd.results19, go_sem, *]) rfl ?_
    exact ⟨by rw [EX.out], P2.out.set.1⟩
/-- What a text reads as. -/
theorem Read_is {l : List UInt8} {s : ByteArray} (w : World) (hs : s = txt l) (hl : l.length ≤ 1000000) :
    Calls Tryd.prog 8 #[.string s] w fun e w' => e = .returned (.tuple #[.string (txt (rdD l).1), .int .i64 (rdD l).2]) ∧ Below w.heap.size w w' := by
  have CR := Lib.hid (fun w => read_is w hs hl)
  have hle := pF_le l
  unfold rw3 at CR
  unfold rdD
  by_cases h : en l = l.length ∧ kd l ≠ 0
  · rw [if_pos h] at CR ⊢
    by_cases hok : ok (pD l) (pT l) (pZ l) = true
    · rw [if_pos hok] at CR ⊢
      obtain ⟨A, hA⟩ : ∃ A, A = txt (pD l) := ⟨_, rfl⟩
      obtain ⟨B, hB⟩ : ∃ A, A = txt (pT l) := ⟨_, rfl⟩
      obtain ⟨C, hC⟩ : ∃ A, A = txt (pF l) := ⟨_, rfl⟩
      obtain ⟨E, hE⟩ : ∃ A, A = txt (pZ l) := ⟨_, rfl⟩
      obtain ⟨N, hN⟩ : ∃ A, A = txt (nm (pD l) (pT l) (pF l) (pZ l)) := ⟨_, rfl⟩
      have CN := Lib.hid (fun w => normal_is w (sh_of h.2) (by omega) hA hB hC hE hN)
      rw [← hA, ← hB, ← hC, ← hE] at CR
      rw [← hN]
      clear hs hl hle h hok hA hB hC hE hN
      go_enter Tryd.func8, Tryd.ntmps8
      go_wp2_with fail
      refine (CR.out _).mono ?_
      rintro e w1 ⟨rfl, hb⟩
      have HB1 := Lib.hid hb
      have HB2 := Lib.hid (HB1.out.alloc HB1.out.size (wo A B C E))
      clear hb
      go_wp2_with fail
      refine (CN.out _).mono ?_
      rintro e w2 ⟨rfl, hb⟩
      have HB3 := Lib.hid (below_tr HB2.out hb)
      clear hb
      go_wp2_with fail
      go_ret2
      exact ⟨rfl, HB3.out⟩
    · rw [if_neg hok] at CR ⊢
      clear hs hl hle h hok
      go_enter Tryd.func8, Tryd.ntmps8
      go_wp2_with fail
      refine (CR.out _).mono ?_
      rintro e w1 ⟨rfl, hb⟩
      have HB1 := Lib.hid hb
      have HB2 := Lib.hid (HB1.out.alloc HB1.out.size (wo e0 e0 e0 e0))
      clear hb
      go_wp2_with fail
      go_ret2
      exact ⟨rfl, HB2.out⟩
  · rw [if_neg h] at CR ⊢
    clear hs hl hle h
    go_enter Tryd.func8, Tryd.ntmps8
    go_wp2_with fail
    refine (CR.out _).mono ?_
    rintro e w1 ⟨rfl, hb⟩
    have HB1 := Lib.hid hb
    have HB2 := Lib.hid (HB1.out.alloc HB1.out.size (wo e0 e0 e0 e0))
    clear hb
    go_wp2_with fail
    go_ret2
    exact ⟨rfl, HB2.out⟩
theorem iseq_txt {s t : ByteArray} {l m : List UInt8} (hs : s = txt l) (ht : t = txt m) : (s.toList == t.toList) = decide (l = m) := by
  rw [hs, ht, toList_txt, toList_txt]
  by_cases h : l = m
  · simp [h]
  · simp [h]
theorem Of_is {l : List UInt8} {s : ByteArray} {k : Int} (w : World) (hs : s = txt l) (hl : l.length ≤ 1000000) (hk : k = (ofD l : Nat)) :
    Calls Tryd.prog 10 #[.string s] w fun e w' => e = .returned (.int .u8 k) ∧ Below w.heap.size w w' := by
  have CR := Lib.hid (fun w => read_is w hs hl)
  have hle := pF_le l
  unfold rw3 at CR
  unfold ofD rdD at hk
  by_cases h : en l = l.length ∧ kd l ≠ 0
  · rw [if_pos h] at CR hk
    by_cases hok : ok (pD l) (pT l) (pZ l) = true
    · rw [if_pos hok] at CR hk
      obtain ⟨A, hA⟩ : ∃ A, A = txt (pD l) := ⟨_, rfl⟩
      obtain ⟨B, hB⟩ : ∃ A, A = txt (pT l) := ⟨_, rfl⟩
      obtain ⟨C, hC⟩ : ∃ A, A = txt (pF l) := ⟨_, rfl⟩
      obtain ⟨E, hE⟩ : ∃ A, A = txt (pZ l) := ⟨_, rfl⟩
      obtain ⟨N, hN⟩ : ∃ A, A = txt (nm (pD l) (pT l) (pF l) (pZ l)) := ⟨_, rfl⟩
      have CN := Lib.hid (fun w => normal_is w (sh_of h.2) (by omega) hA hB hC hE hN)
      obtain ⟨j, hj⟩ : ∃ j : Int, j = (kd l : Nat) := ⟨_, rfl⟩
      have CK := Lib.hid (fun w => kind_is (C := C) w hA hB hE (k := j) hj)
      have heq := iseq_txt hN hs
      rw [← hA, ← hB, ← hC, ← hE] at CR
      by_cases hnl : nm (pD l) (pT l) (pF l) (pZ l) = l
      · have EX := Lib.hid (show k = j by rw [hk, if_pos ⟨rfl, hnl⟩, hj])
        rw [decide_eq_true hnl] at heq
        clear hs hl hle h hok hA hB hC hE hN hk hj hnl
        go_enter Tryd.func10, Tryd.ntmps10
        go_wp2_with fail
        refine (CR.out _).mono ?_
        rintro e w1 ⟨rfl, hb⟩
        have HB1 := Lib.hid hb
        clear hb
        go_wp2_with fail
        refine (CN.out _).mono ?_
        rintro e w2 ⟨rfl, hb⟩
        obtain ⟨⟨c0, c1, c2, c3⟩, hbw⟩ := wo_cells hb
        have HB3 := Lib.hid (below_tr HB1.out hbw)
        clear hb hbw
        go_wp2_with fail
        refine (CK.out _).mono ?_
        rintro e w3 ⟨rfl, hb⟩
        have HB4 := Lib.hid (below_tr HB3.out hb)
        clear hb
        go_wp2_with fail
        go_ret
        exact ⟨by rw [EX.out]; rfl, HB4.out⟩
      · have EX := Lib.hid (show k = 0 by rw [hk, if_neg (fun g => hnl g.2)]; rfl)
        rw [decide_eq_false hnl] at heq
        clear hs hl hle h hok hA hB hC hE hN hk hj hnl
        go_enter Tryd.func10, Tryd.ntmps10
        go_wp2_with fail
        refine (CR.out _).mono ?_
        rintro e w1 ⟨rfl, hb⟩
        have HB1 := Lib.hid hb
        clear hb
        go_wp2_with fail
        refine (CN.out _).mono ?_
        rintro e w2 ⟨rfl, hb⟩
        obtain ⟨⟨c0, c1, c2, c3⟩, hbw⟩ := wo_cells hb
        have HB3 := Lib.hid (below_tr HB1.out hbw)
        clear hb hbw
        go_wp2_with fail
        go_ret
        exact ⟨by rw [EX.out]; rfl, HB3.out⟩
    · rw [if_neg hok] at CR hk
      have EX := Lib.hid (show k = 0 by rw [hk, if_neg (fun g => by cases g.1)]; rfl)
      clear hs hl hle h hok hk
      go_enter Tryd.func10, Tryd.ntmps10
      go_wp2_with fail
      refine (CR.out _).mono ?_
      rintro e w1 ⟨rfl, hb⟩
      have HB1 := Lib.hid hb
      have HB2 := Lib.hid (HB1.out.alloc HB1.out.size (wo e0 e0 e0 e0))
      clear hb
      go_wp2_with fail
      go_ret
      exact ⟨by rw [EX.out]; rfl, HB2.out⟩
  · rw [if_neg h] at CR hk
    have EX := Lib.hid (show k = 0 by rw [hk, if_neg (fun g => by cases g.1)]; rfl)
    clear hs hl hle h hk
    go_enter Tryd.func10, Tryd.ntmps10
    go_wp2_with fail
    refine (CR.out _).mono ?_
    rintro e w1 ⟨rfl, hb⟩
    have HB1 := Lib.hid hb
    have HB2 := Lib.hid (HB1.out.alloc HB1.out.size (wo e0 e0 e0 e0))
    clear hb
    go_wp2_with fail
    go_ret
    exact ⟨by rw [EX.out]; rfl, HB2.out⟩
theorem Long_is {l : List UInt8} {s : ByteArray} {k : Int} (w : World) (hs : s = txt l) (hl : l.length ≤ 1000000) (hk : k = (en l : Nat)) :
    Calls Tryd.prog 12 #[.string s] w fun e w' => e = .returned (.int .i64 k) ∧ Below w.heap.size w w' := by
  obtain ⟨A, hA⟩ : ∃ A, A = txt (pD l) := ⟨_, rfl⟩
  obtain ⟨B, hB⟩ : ∃ A, A = txt (pT l) := ⟨_, rfl⟩
  obtain ⟨C, hC⟩ : ∃ A, A = txt (pF l) := ⟨_, rfl⟩
  obtain ⟨E, hE⟩ : ∃ A, A = txt (pZ l) := ⟨_, rfl⟩
  obtain ⟨R, hR⟩ : ∃ A, A = txt (l.drop (en l)) := ⟨_, rfl⟩
  have CS := Lib.hid (fun w => split_is w hs hl)
  rw [spv, ← hA, ← hB, ← hC, ← hE, ← hR] at CS
  have e1 : s.size = l.length := by rw [hs, txt_size]
  have e2 : R.size = l.length - en l := by rw [hR, txt_size, List.length_drop]
  have hen := en_le l
  have EX := Lib.hid (show (s.size : Int) - (R.size : Int) = k by omega)
  have h1 : s.size ≤ 1000000 := by omega
  have h2 : R.size ≤ s.size := by omega
  clear hs hl hA hB hC hE hR hk e1 e2 hen
  go_enter Tryd.func12, Tryd.ntmps12
  go_wp2_with fail
  refine (CS.out _).mono ?_
  rintro e w1 ⟨rfl, hb⟩
  have HB1 := Lib.hid hb
  have HB2 := Lib.hid (HB1.out.alloc HB1.out.size (wo A B C E))
  clear hb
  go_wp2_with fail
  go_ret
  exact ⟨ret_int (by rw [← EX.out]), HB2.out⟩
end Da
end Go.Proofs.YtgmlbcdakblpiaaDoor
