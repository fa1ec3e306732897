/- What landed: read, is it a normal form, does one stand ahead; the document's words on these. -/
import Derived.Test.YthjlnafmpcppfaaGreatDoorFn
import Derived.Test.YthjlnafmpcppfaaGreatDoorDLess2
import Derived.Test.YthjlnafmpcppfaaGreatDoorLess
namespace Go.Proofs.YthjlnafmpcppfaaGreatDoor
open Go.RowKit
namespace Fl

/-- What the laws find when they are called. -/
structure AllT (w : World) : Prop where
  dec : Tab w
  int : II.Tab w
  max : MxL w
theorem AllT.below {W w : World} (h : AllT W) (hb : Below W.heap.size W w) : AllT w := ⟨h.dec.on hb, h.int.below hb, h.max.below hb⟩
theorem spt_yes {l : List UInt8} (h : spb l = true) : rdF l = (spt l, 0) := by
  unfold spb at h
  have h := of_decide_eq_true h
  unfold rdF spt
  by_cases h1 : l.drop (sg0 l) = INF
  · rw [if_pos h1, if_pos h1]
  · rw [if_neg h1, if_neg h1]
    rcases h with h | h
    · exact absurd h h1
    · rw [if_pos h, if_pos h]
theorem spt_no {l : List UInt8} (h : spb l = false) : rdF l = if sndP (cw (l.drop (sg0 l))).1 (cw (l.drop (sg0 l))).2.1 (cw (l.drop (sg0 l))).2.2 = true then rd (mn l ++ st (l.drop (sg0 l))) else ([], 3) := by
  unfold spb at h
  have h := of_decide_eq_false h
  have h1 : l.drop (sg0 l) ≠ INF := fun e => h (.inl e)
  have h2 : l.drop (sg0 l) ≠ NAN := fun e => h (.inr e)
  unfold rdF
  rw [if_neg h1, if_neg h2, ← shp_is]; rfl
theorem st_mn (l : List UInt8) : st (mn l) = mn l := by unfold mn; split <;> rfl
set_option maxHeartbeats 4000000 in
set_option maxRecDepth 100000 in
theorem fread_is {l : List UInt8} {s : ByteArray} (w : World) (hs : s = txt l) (hl : l.length ≤ 80000) (hT : AllT w) :
    Calls Tryz.prog 9 #[.string s] w fun e w' => e = .returned (.tuple #[.string (txt (rdF l).1), .int .i64 (rdF l).2]) ∧ Below w.heap.size w w' := by
  obtain ⟨X, hX⟩ : ∃ X, X = txt (spt l) := ⟨_, rfl⟩
  obtain ⟨b, hb⟩ : ∃ b, b = spb l := ⟨_, rfl⟩
  have CS := Lib.hid (fun w => special_is w hs hX hb)
  have HT := Lib.hid hT
  cases b
  · have E := spt_no hb.symm
    obtain ⟨M, hM⟩ : ∃ M, M = txt (mn l) := ⟨_, rfl⟩
    obtain ⟨A, hA⟩ : ∃ A, A = txt (cw (l.drop (sg0 l))).1 := ⟨_, rfl⟩
    obtain ⟨B, hB⟩ : ∃ B, B = txt (cw (l.drop (sg0 l))).2.1 := ⟨_, rfl⟩
    obtain ⟨C, hC⟩ : ∃ C, C = txt (cw (l.drop (sg0 l))).2.2 := ⟨_, rfl⟩
    obtain ⟨x, hx⟩ : ∃ x, x = sndP (cw (l.drop (sg0 l))).1 (cw (l.drop (sg0 l))).2.1 (cw (l.drop (sg0 l))).2.2 := ⟨_, rfl⟩
    have CP := Lib.hid (fun w h => split_is w hs hl hM hA hB hC hx h)
    have ha := cw_app (l.drop (sg0 l))
    rw [← hx] at E
    have hml := mn_len l
    have htl : (l.drop (sg0 l)).length ≤ 80000 := by rw [List.length_drop]; omega
    cases x
    · rw [if_neg (by simp)] at E
      have HE := Lib.hid E
      clear hs hl hT hX hb E hM hA hB hC hx ha hml htl
      go_enter Tryz.func9, Tryz.ntmps9
      go_wp2_with (go_at_call 21; refine (CS.out _).mono ?_; rintro e w' ⟨rfl, rfl⟩)
      refine (CP.out _ HT.out.int).mono ?_
      rintro e w1 ⟨rfl, hb⟩
      have HB := Lib.hid hb
      clear hb
      go_wp2_with fail
      go_ret2
      exact ⟨ret_tc (by rw [HE.out]; rfl) (by rw [HE.out]), HB.out.alloc HB.out.size _⟩
    · rw [if_pos rfl] at E
      obtain ⟨T, hTT⟩ : ∃ T, T = txt (mn l ++ st (l.drop (sg0 l))) := ⟨_, rfl⟩
      have CN := Lib.hid (fun w h => number_is (T := T) w hM hA hB hC (by have := congrArg List.length ha; simp only [List.length_append] at this; omega) (by rw [hTT, ha, st_app, st_mn]) h)
      have CD := Lib.hid (fun w h => dread_any (l := mn l ++ st (l.drop (sg0 l))) (s := T) w h hTT (by have := st_len (l.drop (sg0 l)); rw [List.length_append]; omega))
      rw [← E] at CD
      generalize rdF l = R at *
      clear hs hl hT hX hb E hM hA hB hC hx ha hml htl hTT
      go_enter Tryz.func9, Tryz.ntmps9
      go_wp2_with (go_at_call 21; refine (CS.out _).mono ?_; rintro e w' ⟨rfl, rfl⟩)
      refine (CP.out _ HT.out.int).mono ?_
      rintro e w1 ⟨rfl, hb⟩
      have HB := Lib.hid hb
      clear hb
      have HB1 := Lib.hid (HB.out.alloc HB.out.size (wo M A B C))
      rw [if_pos trivial]
      go_wp2_with fail
      refine (CN.out _ (HT.out.max.below HB1.out)).mono ?_
      rintro e w2 ⟨rfl, hb⟩
      have HB2 := Lib.hid (II.below_tr HB1.out hb)
      clear hb
      go_wp2_with fail
      refine (CD.out _ (HT.out.dec.on HB2.out)).mono ?_
      rintro e w3 ⟨rfl, hb⟩
      have HB3 := Lib.hid (II.below_tr HB2.out hb)
      clear hb
      go_wp2_with fail
      go_ret2
      exact ⟨rfl, HB3.out⟩
  · have E := Lib.hid (spt_yes hb.symm)
    have HX := Lib.hid hX
    clear hs hl hT hX hb
    go_enter Tryz.func9, Tryz.ntmps9
    go_wp2_with (go_at_call 21; refine (CS.out _).mono ?_; rintro e w' ⟨rfl, rfl⟩)
    go_ret2
    exact ⟨ret_tc (by rw [E.out, HX.out]) (by rw [E.out]), Below.refl _ _⟩
theorem fread_ref {l : List UInt8} {s : ByteArray} (w : World) (hs : s = txt l) (hl : l.length ≤ 80000) :
    Calls Tryz.prog 10 #[.string s] w fun e w' => e = .returned (.tuple #[.string (txt (rdF l).1), .int .i64 (rdF l).2]) ∧ Below w.heap.size w w' := by
  have := fread_doc w hs (by omega)
  rwa [docF_is] at this
/-- Ranks and normal forms. -/
theorem rk_one {l : List UInt8} (h : rk l = 1) : flIs l = norm l := by
  unfold rk at h
  split at h
  · cases h
  · rename_i h1
    split at h
    · cases h
    · rename_i h2
      split at h
      · cases h
      · rename_i h3
        unfold flIs
        rw [decide_eq_false h1, decide_eq_false h2, decide_eq_false h3]; rfl
theorem rk_other {l : List UInt8} (h : rk l ≠ 1) : flIs l = true := by
  unfold rk at h
  split at h
  · rename_i e; subst e; exact is_nan
  · split at h
    · rename_i e; subst e; exact is_inf
    · split at h
      · rename_i e; subst e; exact is_minf
      · exact absurd rfl h
theorem is_is {l : List UInt8} {s : ByteArray} {x : Bool} (w : World) (hs : s = txt l) (hl : l.length ≤ 1000000) (hx : x = flIs l) (hT : Tab w) :
    Calls Tryz.prog 11 #[.string s] w fun e w' => e = .returned (.bool x) ∧ Below w.heap.size w w' := by
  obtain ⟨k, hk⟩ : ∃ k, k = rk l := ⟨_, rfl⟩
  have CR := Lib.hid (fun w => rank_is w hs hk)
  have CP := Lib.hid (fun w h => dparts_any (l := l) w h hs hl)
  have HT := Lib.hid hT
  by_cases h1 : k = 1
  · have E := Lib.hid (show norm l = x by rw [hx, rk_one (by rw [← hk]; exact h1)])
    rw [E.out] at CP
    generalize ptM l = a1 at *
    generalize txt (ptD l) = a2 at *
    generalize ptX l = a3 at *
    subst h1
    clear hs hl hx hT hk
    go_enter Tryz.func11, Tryz.ntmps11
    go_wp2_with (go_at_call 26; refine (CR.out _).mono ?_; rintro e w' ⟨rfl, rfl⟩)
    refine (CP.out _ HT.out).mono ?_
    rintro e w1 ⟨rfl, hb⟩
    have HB := Lib.hid hb
    clear hb
    go_wp2_with fail
    go_ret
    exact ⟨rfl, HB.out⟩
  · have E := Lib.hid (show x = true by rw [hx, rk_other (by rw [← hk]; exact h1)])
    have hk1 : (k == 1) = false := by simp [h1]
    clear hs hl hx hT hk h1
    go_enter Tryz.func11, Tryz.ntmps11
    go_wp2_with (go_at_call 26; refine (CR.out _).mono ?_; rintro e w' ⟨rfl, rfl⟩)
    go_ret
    exact ⟨ret_bool E.out.symm, Below.refl _ _⟩
theorem less_is {a b : List UInt8} {s t : ByteArray} {x : Bool} (w : World) (hs : s = txt a) (ht : t = txt b) (ha : a.length ≤ 1000000) (hb : b.length ≤ 1000000) (hx : x = flLess a b) (hT : Tab w) :
    Calls Tryz.prog 13 #[.string s, .string t] w fun e w' => e = .returned (.bool x) ∧ Below w.heap.size w w' := by
  obtain ⟨k, hk⟩ : ∃ k, k = rk a := ⟨_, rfl⟩
  obtain ⟨j, hj⟩ : ∃ j, j = rk b := ⟨_, rfl⟩
  obtain ⟨p, hp⟩ : ∃ p, p = flIs a := ⟨_, rfl⟩
  obtain ⟨q, hq⟩ : ∃ q, q = flIs b := ⟨_, rfl⟩
  obtain ⟨d, hd⟩ : ∃ d, d = less a b := ⟨_, rfl⟩
  have CK := Lib.hid (fun w => rank_is w hs hk)
  have CJ := Lib.hid (fun w => rank_is w ht hj)
  have CA := Lib.hid (fun w h => is_is w hs ha hp h)
  have CB := Lib.hid (fun w h => is_is w ht hb hq h)
  have CD := Lib.hid (fun w h => dless_any (a := a) (b := b) w h hs ht ha hb)
  rw [← hd] at CD
  have hxx : x = (p && q && (if k = j then d else decide (k < j))) := by rw [hx, flLess, hp, hq, hk, hj, hd]
  have HT := Lib.hid hT
  clear hs ht ha hb hx hT hk hj hp hq hd
  cases p
  · have E := Lib.hid (show x = false by rw [hxx]; simp)
    clear hxx
    go_enter Tryz.func13, Tryz.ntmps13
    go_wp2_with fail
    refine (CA.out _ HT.out).mono ?_
    rintro e w1 ⟨rfl, hb⟩
    have HB := Lib.hid hb
    clear hb
    go_wp2_with fail
    go_ret
    exact ⟨ret_bool E.out.symm, HB.out⟩
  · cases q
    · have E := Lib.hid (show x = false by rw [hxx]; simp)
      clear hxx
      go_enter Tryz.func13, Tryz.ntmps13
      go_wp2_with fail
      refine (CA.out _ HT.out).mono ?_
      rintro e w1 ⟨rfl, hb⟩
      have HB := Lib.hid hb
      clear hb
      go_wp2_with fail
      refine (CB.out _ (HT.out.on HB.out)).mono ?_
      rintro e w2 ⟨rfl, hb⟩
      have HB2 := Lib.hid (II.below_tr HB.out hb)
      clear hb
      go_wp2_with fail
      go_ret
      exact ⟨ret_bool E.out.symm, HB2.out⟩
    · by_cases hkj : k = j
      · have E := Lib.hid (show x = d by rw [hxx, if_pos hkj]; simp)
        subst hkj
        clear hxx
        go_enter Tryz.func13, Tryz.ntmps13
        go_wp2_with fail
        refine (CA.out _ HT.out).mono ?_
        rintro e w1 ⟨rfl, hb⟩
        have HB := Lib.hid hb
        clear hb
        go_wp2_with fail
        refine (CB.out _ (HT.out.on HB.out)).mono ?_
        rintro e w2 ⟨rfl, hb⟩
        have HB2 := Lib.hid (II.below_tr HB.out hb)
        clear hb
        go_wp2_with fail
        refine (CK.out _).mono ?_
        rintro e w3 ⟨rfl, rfl⟩
        go_wp2_with fail
        refine (CJ.out _).mono ?_
        rintro e w3 ⟨rfl, rfl⟩
        go_wp2_with fail
        refine (CD.out _ (HT.out.on HB2.out)).mono ?_
        rintro e w3 ⟨rfl, hb⟩
        have HB3 := Lib.hid (II.below_tr HB2.out hb)
        clear hb
        go_wp2_with fail
        go_ret
        exact ⟨ret_bool E.out.symm, HB3.out⟩
      · have E := Lib.hid (show x = decide (k < j) by rw [hxx, if_neg hkj]; simp)
        have hkj' : (k == j) = false := by simpa using hkj
        clear hxx hkj
        go_enter Tryz.func13, Tryz.ntmps13
        go_wp2_with fail
        refine (CA.out _ HT.out).mono ?_
        rintro e w1 ⟨rfl, hb⟩
        have HB := Lib.hid hb
        clear hb
        go_wp2_with fail
        refine (CB.out _ (HT.out.on HB.out)).mono ?_
        rintro e w2 ⟨rfl, hb⟩
        have HB2 := Lib.hid (II.below_tr HB.out hb)
        clear hb
        go_wp2_with fail
        refine (CK.out _).mono ?_
        rintro e w3 ⟨rfl, rfl⟩
        go_wp2_with fail
        refine (CJ.out _).mono ?_
        rintro e w3 ⟨rfl, rfl⟩
        go_wp2_with fail
        go_ret
        exact ⟨ret_bool E.out.symm, HB2.out⟩
end Fl
end Go.Proofs.YthjlnafmpcppfaaGreatDoor
