/- The program's own reading of a text into a normal form in parts, walked. -/
import Derived.Test.YthjlnafmpcppfaaGreatDoorForm
namespace Go.Proofs.YthjlnafmpcppfaaGreatDoor
open Go.RowKit

/-- The parts that a text's normal form has; of a text without one: nothing. -/
def frM (l : List UInt8) : Bool := if (rd l).2 = 0 then fmM (trimR (rdD l)) (decide (bt l 0 = 45)) else false
def frD (l : List UInt8) : List UInt8 := if (rd l).2 = 0 then fmD (trimR (rdD l)) else []
def frX (l : List UInt8) : Int := if (rd l).2 = 0 then (if trimR (rdD l) = [] then 0 else rdN l) else 0
theorem fr_none {l : List UInt8} (h : (rd l).2 ≠ 0) : frM l = false ∧ frD l = [] ∧ frX l = 0 := ⟨if_neg h, if_neg h, if_neg h⟩
theorem frD_len (l : List UInt8) : (frD l).length ≤ 2 * l.length + 1 := by
  unfold frD fmD; split
  · split
    · simp
    · have := trimL_len (trimR (rdD l)); have := trimR_len (rdD l); have := rdD_len l; omega
  · simp
theorem rdN_far {l : List UInt8} (h1 : -1000000000 ≤ (powR l (q4 l) (q5 l)).1) (h2 : (powR l (q4 l) (q5 l)).1 ≤ 1000000000) (hm : l.length ≤ 1000000) : -2000000000 ≤ rdN l ∧ rdN l ≤ 3000000000 := by
  obtain ⟨o1, o2, o3, o4, o5, o6, _, _⟩ := q_order (l := l)
  have := trimR_len (rdD l)
  have := rdD_len l
  unfold rdN; omega
theorem frX_range (l : List UInt8) : -1000000000 ≤ frX l ∧ frX l ≤ 1000000000 := by
  unfold frX
  split
  · rename_i h
    split
    · omega
    · rename_i h2
      cases hB : isB l
      · rw [rd_syntax hB] at h; simp at h
      · cases hp : (powR l (q4 l) (q5 l)).2
        · rw [rd_exp hB hp] at h; simp at h
        · have hT : rdT l ≠ [] := fun e => h2 (kept_nil.1 e)
          by_cases h4 : rdN l > 1000000000 ∨ rdN l < -1000000000
          · rw [rd_far hB hp hT h4] at h; simp at h
          · omega
  · omega
theorem ret_fc {m m' : Bool} {d d' : ByteArray} {x x' c c' : Int} (h1 : m = m') (h2 : d = d') (h3 : x = x') (h4 : c = c') : Ending.returned (.tuple #[fv m d x, .int .i64 c]) = .returned (.tuple #[fv m' d' x', .int .i64 c']) := by rw [h1, h2, h3, h4]
set_option maxHeartbeats 2000000 in
theorem rd2_any {l : List UInt8} {s : ByteArray} (w : World) (hs : s = txt l) (hm : l.length ≤ 1000000) :
    Calls Tryz.prog 31 #[.string s] w fun e w' => e = .returned (.tuple #[fv (frM l) (txt (frD l)) (frX l), .int .i64 (rd l).2]) ∧ Below w.heap.size w w' := by
  have SP := Lib.hid (fun w => split_any (l := l) w hs hm)
  obtain ⟨o1, o2, o3, o4, o5, o6, o7, o8⟩ := q_order (l := l)
  have ⟨r1, r2⟩ := powR_range l (q4 l) (q5 l) o8
  have hfar := rdN_far r1 r2 hm
  have EX := Lib.hid (fun (a d : Bool) (b c f : ByteArray) (hf : f = txt ((l.take (q5 l)).drop (q4 l))) (hd : d = decide (q4 l < q5 l ∧ bt l (q4 l - 1) = 45)) w => by
    have h := expo_any (P := (l.take (q5 l)).drop (q4 l)) (a := a) (d := d) (b := b) (c := c) (f := f) w hf (by
      intro k hk
      simp at hk
      rw [bt_drop, bt_take l (by omega)]
      exact o8 _ (by omega) (by omega)) (by simp; omega)
    rw [hd, exR_is, ← hd] at h
    exact h)
  have FM := Lib.hid (fun (a d : Bool) (b c f : ByteArray) (hb : b = txt ((l.take (q1 l)).drop (q0 l))) (hc : c = txt ((l.take (q3 l)).drop (q2 l))) w =>
    form_any (B := (l.take (q1 l)).drop (q0 l)) (C := (l.take (q3 l)).drop (q2 l)) (a := a) (d := d) (b := b) (c := c) (f := f) (powR l (q4 l) (q5 l)).1 w hb hc (by simp; omega) (by simp; omega) r1 r2)
  have hfx : fmX ((l.take (q1 l)).drop (q0 l)) ((l.take (q3 l)).drop (q2 l)) (trimR (rdD l)) (powR l (q4 l) (q5 l)).1 = if trimR (rdD l) = [] then 0 else rdN l := by
    unfold fmX; split
    · rfl
    · unfold rdN
      show _ - (((l.take (q3 l)).drop (q2 l)).length : Int) + ((rdD l).length : Int) - _ = _
      rw [show ((l.take (q3 l)).drop (q2 l)).length = q3 l - q2 l by simp; omega]; omega
  have HFX := Lib.hid hfx
  clear hs hm o1 o2 o3 o4 o5 o6 o7 o8 hfx
  go_enter Tryz.func31, Tryz.ntmps31
  go_wp2_with fail
  refine (SP.out _).mono ?_
  rintro e w1 ⟨a, b, c, d, f, rfl, hp, o1, o2, rfl⟩
  have HP := Lib.hid hp
  clear hp
  by_cases hB : isB l = true
  · have HB := Lib.hid hB
    obtain ⟨ha, hb, hc, hd, hf⟩ := HP.out hB
    have EX2 := Lib.hid (EX.out a d b c f hf hd)
    have FM2 := Lib.hid (FM.out a d b c f hb hc)
    have HA := Lib.hid ha
    rw [hB]
    clear ha hb hc hd hf hB EX HP SP
    obtain ⟨pn, hpn⟩ : ∃ x, (powR l (q4 l) (q5 l)).1 = x := ⟨_, rfl⟩
    obtain ⟨pb, hpb⟩ : ∃ x, (powR l (q4 l) (q5 l)).2 = x := ⟨_, rfl⟩
    rw [hpn] at EX2 FM2 HFX
    rw [hpb] at EX2
    have HPB := Lib.hid hpb
    clear hpn hpb r1 r2
    rw [show (l.take (q1 l)).drop (q0 l) ++ (l.take (q3 l)).drop (q2 l) = rdD l from rfl, HFX.out] at FM2
    obtain ⟨K, hK⟩ : ∃ K, trimR (rdD l) = K := ⟨_, rfl⟩
    rw [hK] at FM2
    have HK := Lib.hid hK
    obtain ⟨M, hM⟩ : ∃ M, fmM K a = M := ⟨_, rfl⟩
    obtain ⟨T, hT⟩ : ∃ T, txt (fmD K) = T := ⟨_, rfl⟩
    obtain ⟨X, hX⟩ : ∃ X, (if K = [] then 0 else rdN l) = X := ⟨_, rfl⟩
    rw [hM, hT, hX] at FM2
    have hX1 : -2000000000 ≤ X := by rw [← hX]; split <;> omega
    have hX2 : X ≤ 3000000000 := by rw [← hX]; split <;> omega
    have HM := Lib.hid hM
    have HT := Lib.hid hT
    have HX := Lib.hid hX
    clear hK hM hT hX HFX hfar FM
    go_wp2_with fail
    refine (EX2.out _).mono ?_
    rintro e w2 ⟨rfl, rfl⟩
    cases pb
    · have E := Lib.hid (rd_exp HB.out HPB.out)
      have F := Lib.hid (fr_none (l := l) (by rw [E.out]; simp))
      go_wp2_with fail
      refine bodyPost_ret (v := .tuple #[fv false ⟨#[]⟩ 0, .int .i64 7]) (by simp [results, Tryz.results31, go_sem]) rfl ?_
      exact ⟨ret_fc F.out.1.symm (by rw [F.out.2.1]; rfl) F.out.2.2.symm (by rw [E.out]), (((((Below.refl _ _).alloc (Nat.le_refl _) _).alloc (by simp) _).alloc (by simp; omega) _).alloc (by simp; omega) _).alloc (by simp; omega) _⟩
    · by_cases hK : K = []
      · have hT : rdT l = [] := kept_nil.2 (by rw [HK.out, hK])
        have E := Lib.hid (rd_zero HB.out HPB.out hT)
        have F1 := Lib.hid (show frM l = M by unfold frM; rw [E.out, if_pos rfl, HK.out, ← HM.out, HA.out])
        have F2 := Lib.hid (show txt (frD l) = T by unfold frD; rw [E.out, if_pos rfl, HK.out, ← HT.out])
        have hX : X = 0 := by rw [← HX.out, if_pos hK]
        have F3 := Lib.hid (show frX l = X by unfold frX; rw [E.out, if_pos rfl, HK.out, HX.out])
        have HKN := Lib.hid hK
        subst hX
        clear hK hT
        go_wp2_with fail
        refine (FM2.out _).mono ?_
        rintro e w3 ⟨rfl, o3, o4, hw⟩
        rw [fmW_nil HKN.out] at hw
        subst hw
        go_wp2_with fail
        refine bodyPost_ret (v := .tuple #[fv M T 0, .int .i64 0]) (by simp [results, Tryz.results31, go_sem]) rfl ?_
        exact ⟨ret_fc F1.out.symm F2.out.symm F3.out.symm (by rw [E.out]), ((((((((Below.refl _ _).alloc (Nat.le_refl _) _).alloc (by simp) _).alloc (by simp; omega) _).alloc (by simp; omega) _).alloc (by simp; omega) _).alloc (by simp; omega) _).alloc (by simp; omega) _).alloc (by simp; omega) _⟩
      · have hT : rdT l ≠ [] := fun h => hK (by rw [← HK.out]; exact kept_nil.1 h)
        have hXN : X = rdN l := by rw [← HX.out, if_neg hK]
        have HXN := Lib.hid hXN
        have HT2 := Lib.hid hT
        have HKN := Lib.hid hK
        clear hK hT hXN
        go_wp2_with fail
        refine (FM2.out _).mono ?_
        rintro e w3 ⟨rfl, o3, o4, hw⟩
        rw [fmW_some HKN.out] at hw
        subst hw
        by_cases g1 : X > 1000000000
        · have E := Lib.hid (rd_far HB.out HPB.out HT2.out (Or.inl (by rw [← HXN.out]; exact g1)))
          have F := Lib.hid (fr_none (l := l) (by rw [E.out]; simp))
          go_wp2_with fail
          refine bodyPost_ret (v := .tuple #[fv false ⟨#[]⟩ 0, .int .i64 7]) (by simp [results, Tryz.results31, go_sem]) rfl ?_
          exact ⟨ret_fc F.out.1.symm (by rw [F.out.2.1]; rfl) F.out.2.2.symm (by rw [E.out]), belowDrewN (((((((((Below.refl _ _).alloc (Nat.le_refl _) _).alloc (by simp) _).alloc (by simp; omega) _).alloc (by simp; omega) _).alloc (by simp; omega) _).alloc (by simp; omega) _).alloc (by simp; omega) _).alloc (by simp; omega) _) 1⟩
        · by_cases g2 : X < -1000000000
          · have E := Lib.hid (rd_far HB.out HPB.out HT2.out (Or.inr (by rw [← HXN.out]; exact g2)))
            have F := Lib.hid (fr_none (l := l) (by rw [E.out]; simp))
            go_wp2_with fail
            refine bodyPost_ret (v := .tuple #[fv false ⟨#[]⟩ 0, .int .i64 7]) (by simp [results, Tryz.results31, go_sem]) rfl ?_
            exact ⟨ret_fc F.out.1.symm (by rw [F.out.2.1]; rfl) F.out.2.2.symm (by rw [E.out]), belowDrewN (((((((((Below.refl _ _).alloc (Nat.le_refl _) _).alloc (by simp) _).alloc (by simp; omega) _).alloc (by simp; omega) _).alloc (by simp; omega) _).alloc (by simp; omega) _).alloc (by simp; omega) _).alloc (by simp; omega) _) 1⟩
          · have E := Lib.hid (rd_ok HB.out HPB.out HT2.out (by rw [← HXN.out]; omega))
            have F1 := Lib.hid (show frM l = M by unfold frM; rw [E.out, if_pos rfl, HK.out, ← HM.out, HA.out])
            have F2 := Lib.hid (show txt (frD l) = T by unfold frD; rw [E.out, if_pos rfl, HK.out, ← HT.out])
            have F3 := Lib.hid (show frX l = X by unfold frX; rw [E.out, if_pos rfl, HK.out, HX.out])
            go_wp2_with fail
            refine bodyPost_ret (v := .tuple #[fv M T X, .int .i64 0]) (by simp [results, Tryz.results31, go_sem]) rfl ?_
            exact ⟨ret_fc F1.out.symm F2.out.symm F3.out.symm (by rw [E.out]), belowDrewN (((((((((Below.refl _ _).alloc (Nat.le_refl _) _).alloc (by simp) _).alloc (by simp; omega) _).alloc (by simp; omega) _).alloc (by simp; omega) _).alloc (by simp; omega) _).alloc (by simp; omega) _).alloc (by simp; omega) _) 1⟩
  · have hB : isB l = false := by simpa using hB
    have E := Lib.hid (rd_syntax hB)
    have F := Lib.hid (fr_none (l := l) (by rw [rd_syntax hB]; simp))
    rw [hB]
    clear hB
    go_wp2_with fail
    refine bodyPost_ret (v := .tuple #[fv false ⟨#[]⟩ 0, .int .i64 3]) (by simp [results, Tryz.results31, go_sem]) rfl ?_
    exact ⟨ret_fc F.out.1.symm (by rw [F.out.2.1]; rfl) F.out.2.2.symm (by rw [E.out]), ((((Below.refl _ _).alloc (Nat.le_refl _) _).alloc (by simp) _).alloc (by simp; omega) _).alloc (by simp; omega) _⟩
end Go.Proofs.YthjlnafmpcppfaaGreatDoor
