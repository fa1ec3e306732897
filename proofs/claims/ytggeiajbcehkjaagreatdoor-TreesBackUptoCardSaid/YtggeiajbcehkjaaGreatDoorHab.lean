/- The program's own parting of a number's text, walked. -/
import Derived.Test.YtggeiajbcehkjaaGreatDoorHaa
import Derived.Deep.DeepCutAuto
import Derived.Deep.LoopGhost
import Derived.Lib.TrimByte
import Derived.BigQuiet
import Derived.Deep.QuietTactic
import Derived.Deep.RegionWith
namespace Go.Proofs.YtggeiajbcehkjaaGreatDoor.De
open Go.RowKit

def figs : List UInt8 := [48, 49, 50, 51, 52, 53, 54, 55, 56, 57]
theorem figs_nb (c : UInt8) : figs.contains c = nmr (c.toNat : Int) := by
  have : ∀ n : Nat, n < 256 → figs.contains (UInt8.ofNat n) = nmr (n : Int) := by decide +kernel
  have h := this c.toNat c.toNat_lt
  simpa using h
theorem drop_getD (l : List UInt8) (i k : Nat) : (l.drop i).getD k 0 = l.getD (i + k) 0 := by simp [List.getElem?_drop]
theorem tk_run (l : List UInt8) (i m k : Nat) (hi : i ≤ l.length) (hm : l.length ≤ m) : i + tk figs m (l.drop i) k = runE l (i + k) := by
  by_cases h : i + k < l.length ∧ nmr (bt l (i + k)) = true
  · rw [runE_on h.1 h.2, tk_on (by simp; omega) (by omega) (by rw [figs_nb, drop_getD]; exact h.2)]
    exact tk_run l i m (k + 1) hi hm
  · rw [runE_end h, tk_end]
    intro h2
    rw [figs_nb, drop_getD] at h2
    exact h ⟨by have := h2.1; simp at this; omega, h2.2.2⟩
termination_by l.length - (i + k)
theorem tk_one (W r : List UInt8) (h : (r ≠ [] → W.contains (r.getD 0 0) = true) ∧ r ≠ []) : tk W 1 r 0 = 1 := by
  rw [tk_on (List.length_pos_iff.2 h.2) (by omega) (h.1 h.2), tk_end (by omega)]
theorem tk_none (W r : List UInt8) (h : r ≠ [] → W.contains (r.getD 0 0) = false) : tk W 1 r 0 = 0 := by
  rw [tk_end]
  intro h2
  rw [h (List.length_pos_iff.1 h2.1)] at h2
  simp at h2
/-- What a text's taking gives, as the caller sees it. -/
abbrev tx (t : ByteArray) : Obj := .cells #[.string t] 9
abbrev wrt (a : Bool) (b c : ByteArray) (d : Bool) (f : ByteArray) : Obj := .cells #[.bool a, .string b, .string c, .bool d, .string f] 264
theorem take_at {W r : List UInt8} {wn t x y : ByteArray} (m : Nat) (w : World) (o : Obj) (hW : wn = txt W) (ht : t = txt r) (hr : r.length ≤ 1000000) (hm : m ≤ 1000000) (hx : x = txt (r.take (tk W m r 0))) (hy : y = txt (r.drop (tk W m r 0))) {mi : Int} (hmi : mi = m) :
    Calls Tryz.prog 236 #[.string wn, .int .i64 mi, .pointer (some ⟨w.heap.size, 0, none⟩)] ((w.alloc (tx t)).alloc o) fun e w' => e = .returned (.string x) ∧ w' = (w.alloc (tx y)).alloc o := by
  subst hx; subst hy; subst hmi
  refine (take_any m w.heap.size _ hW ht ?_ hr hm).mono ?_
  · show ((w.heap.push _).push _)[w.heap.size]? = _
    simp [Array.getElem?_push]
  · rintro e w' ⟨rfl, rfl⟩
    refine ⟨rfl, ?_⟩
    simp [go_sem]
theorem take_run {l : List UInt8} {t x y : ByteArray} (i m j : Nat) (w : World) (o : Obj) (ht : t = txt (l.drop i)) (hi : i ≤ l.length) (hl : l.length ≤ 1000000) (hm : m = l.length) (hj : j = runE l i) (hx : x = txt ((l.take j).drop i)) (hy : y = txt (l.drop j)) :
    Calls Tryz.prog 236 #[.string ⟨#[48, 49, 50, 51, 52, 53, 54, 55, 56, 57]⟩, .int .i64 m, .pointer (some ⟨w.heap.size, 0, none⟩)] ((w.alloc (tx t)).alloc o) fun e w' => e = .returned (.string x) ∧ w' = (w.alloc (tx y)).alloc o := by
  have h := tk_run l i m 0 hi (by omega)
  rw [Nat.add_zero, ← hj] at h
  refine take_at (W := figs) (r := l.drop i) m w o rfl ht (by simp; omega) (by omega) ?_ ?_ rfl
  · rw [hx, List.drop_take, show j - i = tk figs m (l.drop i) 0 by omega]
  · rw [hy, List.drop_drop, h]
theorem take_sign {l : List UInt8} {t x y : ByteArray} {wn : ByteArray} (W : List UInt8) (i : Nat) (p : Bool) (w : World) (o : Obj) (hW : wn = txt W) (ht : t = txt (l.drop i)) (hl : l.length ≤ 1000000) (hp : p = (decide (i < l.length) && W.contains (l.getD i 0)))
    (hx : x = txt ((l.drop i).take (if p then 1 else 0))) (hy : y = txt (l.drop (if p then i + 1 else i))) :
    Calls Tryz.prog 236 #[.string wn, .int .i64 1, .pointer (some ⟨w.heap.size, 0, none⟩)] ((w.alloc (tx t)).alloc o) fun e w' => e = .returned (.string x) ∧ w' = (w.alloc (tx y)).alloc o := by
  have h : tk W 1 (l.drop i) 0 = if p then 1 else 0 := by
    cases p
    · refine tk_none _ _ (fun h => ?_)
      have hl : i < l.length := by have := List.length_pos_iff.2 h; simp at this; omega
      rw [drop_getD]; simpa [hl] using hp.symm
    · have hp2 := hp.symm
      simp only [Bool.and_eq_true, decide_eq_true_eq] at hp2
      exact tk_one _ _ ⟨fun _ => by rw [drop_getD]; exact hp2.2, by intro h; have := congrArg List.length h; simp at this; omega⟩
  refine take_at (W := W) (r := l.drop i) 1 w o hW ht (by simp; omega) (by omega) (by rw [h]; exact hx) ?_ rfl
  rw [h, hy, List.drop_drop]; cases p <;> rfl
theorem sign_empty {l : List UInt8} {i : Nat} {p : Bool} (h : p = true → i < l.length) : (txt ((l.drop i).take (if p then 1 else 0))).toList.isEmpty = !p := by
  rw [txt_list]
  cases p
  · rfl
  · have := h rfl
    rw [List.isEmpty_eq_false_iff.2 ?_]; rfl
    intro h2; have := congrArg List.length h2; simp at this; omega
theorem mid_empty (l : List UInt8) {i j : Nat} (h1 : i ≤ j) (h2 : j ≤ l.length) : (txt ((l.take j).drop i)).toList.isEmpty = decide (j = i) := by
  rw [txt_list, Bool.eq_iff_iff]
  simp
  omega
theorem drop_empty (l : List UInt8) {i : Nat} (h : i ≤ l.length) : (txt (l.drop i)).toList.isEmpty = decide (i = l.length) := by
  rw [txt_list, Bool.eq_iff_iff]
  simp
  omega
theorem mid_nil (l : List UInt8) (i : Nat) : txt ((l.take i).drop i) = ⟨#[]⟩ := by
  rw [List.drop_eq_nil_of_le (by simp; omega)]; rfl
theorem in_one (c : UInt8) (n : UInt8) : [n].contains c = decide ((c.toNat : Int) = n.toNat) := by
  rw [Bool.eq_iff_iff]; simp; rw [← UInt8.toNat_inj]; omega
theorem in_two (c : UInt8) (m n : UInt8) : [m, n].contains c = decide ((c.toNat : Int) = m.toNat ∨ (c.toNat : Int) = n.toNat) := by
  rw [Bool.eq_iff_iff]; simp; rw [← UInt8.toNat_inj, ← UInt8.toNat_inj]; omega
theorem pos_at {l : List UInt8} {i : Nat} (h : bt l i ≠ 0) : i < l.length := by
  rcases Nat.lt_or_ge i l.length with h2 | h2
  · exact h2
  · exact absurd (bt_far h2) h
theorem one_at (l : List UInt8) (i : Nat) (n : UInt8) (hn : n ≠ 0) : (decide (i < l.length) && [n].contains (l.getD i 0)) = decide (bt l i = n.toNat) := by
  rw [in_one, Bool.eq_iff_iff]
  simp only [Bool.and_eq_true, decide_eq_true_eq]
  refine ⟨fun h => h.2, fun h => ⟨pos_at (fun h2 => hn ?_), h⟩⟩
  rw [h2] at h; exact UInt8.toNat_inj.1 (by simpa using h.symm)
theorem two_at (l : List UInt8) (i : Nat) (m n : UInt8) (hm : m ≠ 0) (hn : n ≠ 0) : (decide (i < l.length) && [m, n].contains (l.getD i 0)) = decide (bt l i = m.toNat ∨ bt l i = n.toNat) := by
  rw [in_two, Bool.eq_iff_iff]
  simp only [Bool.and_eq_true, decide_eq_true_eq]
  refine ⟨fun h => h.2, fun h => ⟨pos_at (fun h2 => ?_), h⟩⟩
  rw [h2] at h
  rcases h with h | h
  · exact hm (UInt8.toNat_inj.1 (by simpa using h.symm))
  · exact hn (UInt8.toNat_inj.1 (by simpa using h.symm))
def SplitPost (w : World) (l : List UInt8) (e : Ending) (w' : World) : Prop :=
  ∃ (a : Bool) (b c : ByteArray) (d : Bool) (f : ByteArray), e = .returned (.tuple #[.agg #[.bool a, .string b, .string c, .bool d, .string f], .bool (isB l)]) ∧
    (isB l = true → a = decide (bt l 0 = 45) ∧ b = txt ((l.take (q1 l)).drop (q0 l)) ∧ c = txt ((l.take (q3 l)).drop (q2 l)) ∧ d = decide (q4 l < q5 l ∧ bt l (q4 l - 1) = 45) ∧ f = txt ((l.take (q5 l)).drop (q4 l))) ∧ ∃ o o' : Obj, w' = (w.alloc o).alloc o'
set_option maxHeartbeats 4000000 in
set_option maxRecDepth 100000 in
theorem split_any {l : List UInt8} {s : ByteArray} (w : World) (hs : s = txt l) (hm : l.length ≤ 1000000) :
    Calls Tryz.prog 209 #[.string s] w (SplitPost w l) := by
  have hsz : s.size = l.length := by rw [hs, txt_size]
  obtain ⟨o1, o2, o3, o4, o5, o6, o7, o8⟩ := q_order (l := l)
  have z1 : q0 l ≤ l.length := by omega
  have z2 : q1 l ≤ l.length := by omega
  have z3 : q2 l ≤ l.length := by omega
  have z4 : q3 l ≤ l.length := by omega
  have z5 : q4 l ≤ l.length := by omega
  -- the texts
  obtain ⟨A, hA⟩ : ∃ A, A = decide (bt l 0 = 45) := ⟨_, rfl⟩
  obtain ⟨x1, hx1⟩ : ∃ x, x = txt ((l.drop 0).take (if A then 1 else 0)) := ⟨_, rfl⟩
  obtain ⟨y1, hy1⟩ : ∃ y, y = txt (l.drop (q0 l)) := ⟨_, rfl⟩
  obtain ⟨x2, hx2⟩ : ∃ x, x = txt ((l.take (q1 l)).drop (q0 l)) := ⟨_, rfl⟩
  obtain ⟨y2, hy2⟩ : ∃ y, y = txt (l.drop (q1 l)) := ⟨_, rfl⟩
  obtain ⟨x3, hx3⟩ : ∃ x, x = txt ((l.drop (q1 l)).take (if dot l then 1 else 0)) := ⟨_, rfl⟩
  obtain ⟨y3, hy3⟩ : ∃ y, y = txt (l.drop (q2 l)) := ⟨_, rfl⟩
  obtain ⟨x4, hx4⟩ : ∃ x, x = txt ((l.take (q3 l)).drop (q2 l)) := ⟨_, rfl⟩
  obtain ⟨y4, hy4⟩ : ∃ y, y = txt (l.drop (q3 l)) := ⟨_, rfl⟩
  obtain ⟨x5, hx5⟩ : ∃ x, x = txt ((l.drop (q3 l)).take (if exq l then 1 else 0)) := ⟨_, rfl⟩
  obtain ⟨y5, hy5⟩ : ∃ y, y = txt (l.drop (if exq l then q3 l + 1 else q3 l)) := ⟨_, rfl⟩
  obtain ⟨x6, hx6⟩ : ∃ x, x = txt ((l.drop (q3 l + 1)).take (if sgn l then 1 else 0)) := ⟨_, rfl⟩
  obtain ⟨y6, hy6⟩ : ∃ y, y = txt (l.drop (q4 l)) := ⟨_, rfl⟩
  obtain ⟨x7, hx7⟩ : ∃ x, x = txt ((l.take (q5 l)).drop (q4 l)) := ⟨_, rfl⟩
  obtain ⟨y7, hy7⟩ : ∃ y, y = txt (l.drop (q5 l)) := ⟨_, rfl⟩
  obtain ⟨D, hD⟩ : ∃ D, D = decide (q4 l < q5 l ∧ bt l (q4 l - 1) = 45) := ⟨_, rfl⟩
  have eA : (decide (0 < l.length) && [(45 : UInt8)].contains (l.getD 0 0)) = decide (bt l 0 = 45) := one_at l 0 45 (by decide)
  have T1 := Lib.hid (fun (w : World) (o : Obj) => take_sign (l := l) (t := s) (x := x1) (y := y1) (wn := ⟨#[45]⟩) [45] 0 A w o rfl hs hm (by rw [hA, eA]) hx1 (by
    rw [hy1]; congr 2; unfold q0
    by_cases h : bt l 0 = 45
    · rw [if_pos h, if_pos (by rw [hA]; simp [h])]
    · rw [if_neg h, if_neg (by rw [hA]; simp [h])]))
  have T2 := Lib.hid (fun (w : World) (o : Obj) => take_run (l := l) (t := y1) (x := x2) (y := y2) (q0 l) s.size (q1 l) w o hy1 z1 hm hsz rfl hx2 hy2)
  have T3 := Lib.hid (fun (w : World) (o : Obj) => take_sign (l := l) (t := y2) (x := x3) (y := y3) (wn := ⟨#[46]⟩) [46] (q1 l) (dot l) w o rfl hy2 hm (by rw [one_at l _ 46 (by decide)]; rfl) hx3 (by rw [hy3]; rfl))
  have T4 := Lib.hid (fun (hd : dot l = true) (w : World) (o : Obj) => take_run (l := l) (t := y3) (x := x4) (y := y4) (q2 l) s.size (q3 l) w o hy3 z3 hm hsz (by unfold q3; rw [if_pos hd]) hx4 hy4)
  have T5 := Lib.hid (fun (w : World) (o : Obj) => take_sign (l := l) (t := y4) (x := x5) (y := y5) (wn := ⟨#[101, 69]⟩) [101, 69] (q3 l) (exq l) w o rfl hy4 hm (by rw [two_at l _ 101 69 (by decide) (by decide)]; rfl) hx5 hy5)
  have T6 := Lib.hid (fun (he : exq l = true) (w : World) (o : Obj) => take_sign (l := l) (t := y5) (x := x6) (y := y6) (wn := ⟨#[43, 45]⟩) [43, 45] (q3 l + 1) (sgn l) w o rfl (by rw [hy5, if_pos he]) hm (by rw [two_at l _ 43 45 (by decide) (by decide)]; rfl) hx6 (by rw [hy6]; unfold q4; rw [if_pos he]))
  have T7 := Lib.hid (fun (he : exq l = true) (w : World) (o : Obj) => take_run (l := l) (t := y6) (x := x7) (y := y7) (q4 l) s.size (q5 l) w o hy6 z5 hm hsz (by unfold q5; rw [if_pos he]) hx7 hy7)
  -- which are empty
  have v1 : x1.toList.isEmpty = !A := by rw [hx1]; exact sign_empty (fun h => by rw [hA] at h; exact pos_at (by have := of_decide_eq_true h; omega))
  have v2 : x2.toList.isEmpty = decide (q1 l = q0 l) := by rw [hx2]; exact mid_empty l o1 z2
  have v3 : x3.toList.isEmpty = !dot l := by rw [hx3]; exact sign_empty (fun h => by unfold dot at h; exact pos_at (by have := of_decide_eq_true h; omega))
  have v4 : x4.toList.isEmpty = decide (q3 l = q2 l) := by rw [hx4]; exact mid_empty l o3 z4
  have v5 : x5.toList.isEmpty = !exq l := by rw [hx5]; exact sign_empty (fun h => by unfold exq at h; exact pos_at (by have := of_decide_eq_true h; omega))
  have v7 : x7.toList.isEmpty = decide (q5 l = q4 l) := by rw [hx7]; exact mid_empty l o5 o6
  have v8 : y7.toList.isEmpty = decide (q5 l = l.length) := by rw [hy7]; exact drop_empty l o6
  have V6 : exq l = true → q5 l ≠ q4 l → (x6.toList == [45]) = D := by
    intro he hne
    have e4 : q4 l = if sgn l = true then q3 l + 1 + 1 else q3 l + 1 := by unfold q4; rw [if_pos he]
    rw [hx6, txt_list, hD]
    cases hsg : sgn l
    · rw [hsg] at e4
      have hq : q4 l - 1 = q3 l := by rw [e4]; simp
      rw [hq]
      unfold exq at he
      have he' := of_decide_eq_true he
      rw [show decide (q4 l < q5 l ∧ bt l (q3 l) = 45) = false by simp; omega]
      rfl
    · rw [hsg] at e4
      have hq : q4 l - 1 = q3 l + 1 := by rw [e4]; simp
      rw [hq]
      unfold sgn at hsg
      have hp : q3 l + 1 < l.length := pos_at (by have := of_decide_eq_true hsg; omega)
      rw [show (l.drop (q3 l + 1)).take (if true = true then 1 else 0) = [l.getD (q3 l + 1) 0] by
        rw [if_pos rfl, List.drop_eq_getElem_cons hp]; show [l[q3 l + 1]] = _; simp [hp]]
      rw [leq, show decide (q4 l < q5 l ∧ bt l (q3 l + 1) = 45) = decide (bt l (q3 l + 1) = 45) by congr 1; simp; omega]
      congr 1
      unfold bt
      rw [List.cons.injEq, ← UInt8.toNat_inj]; simp; omega
  have s2 : x2.size = q1 l - q0 l := by rw [hx2, txt_size]; simp; omega
  have b2 : q1 l ≠ q0 l → bt ((l.take (q1 l)).drop (q0 l)) 0 = bt l (q0 l) := fun h => by rw [bt_drop, Nat.add_zero, bt_take l (by omega)]
  have HX2 := Lib.hid hx2
  have n4 : dot l = false → x4 = ⟨#[]⟩ ∧ y4 = y3 ∧ y3 = y2 := fun h => by
    have e2 : q2 l = q1 l := by unfold q2; rw [h]; rfl
    have e3 : q3 l = q1 l := by unfold q3; rw [h]; rfl
    exact ⟨by rw [hx4, e2, e3, mid_nil], by rw [hy4, hy3, e2, e3], by rw [hy3, hy2, e2]⟩
  have n7 : exq l = false → x7 = ⟨#[]⟩ ∧ y7 = y5 ∧ D = false := fun h => by
    have e4 : q4 l = q3 l := by unfold q4; rw [h]; rfl
    have e5 : q5 l = q3 l := by unfold q5; rw [h]; rfl
    exact ⟨by rw [hx7, e4, e5, mid_nil], by rw [hy7, hy5, e5, h]; rfl, by rw [hD, e4, e5]; simp⟩
  have HE := Lib.hid (show isB l = true → A = decide (bt l 0 = 45) ∧ x2 = txt ((l.take (q1 l)).drop (q0 l)) ∧ x4 = txt ((l.take (q3 l)).drop (q2 l)) ∧ D = decide (q4 l < q5 l ∧ bt l (q4 l - 1) = 45) ∧ x7 = txt ((l.take (q5 l)).drop (q4 l)) from fun _ => ⟨hA, hx2, hx4, hD, hx7⟩)
  have HB := Lib.hid (show isB l = (!bad1 l && (!dot l || decide (q3 l ≠ q2 l)) && (!exq l || decide (q5 l ≠ q4 l)) && decide (q5 l = l.length)) from rfl)
  have hbad : bad1 l = decide (q1 l = q0 l ∨ bt l (q0 l) = 48 ∧ q0 l + 1 < q1 l) := rfl
  have HZ := Lib.hid hsz
  have HV2 := Lib.hid v2
  have HV6 := Lib.hid V6
  have HV4 := Lib.hid v4
  have HV5 := Lib.hid v5
  have HV7 := Lib.hid v7
  have HV8 := Lib.hid v8
  have HV3 := Lib.hid v3
  have HV1 := Lib.hid v1
  have N4 := Lib.hid n4
  have N7 := Lib.hid n7
  have HS2 := Lib.hid s2
  have HB2 := Lib.hid b2
  have HBAD := Lib.hid hbad
  have O1 := Lib.hid o1
  have O6 := Lib.hid o6
  have hs1 : s.size ≤ 1000000 := by omega
  have Z2 := Lib.hid z2
  clear hs hm hsz hA hx1 hy1 hx2 hy2 hx3 hy3 hx4 hy4 hx5 hy5 hx6 hy6 hx7 hy7 hD eA v1 v2 v3 v4 v5 v7 v8 V6 s2 b2 n4 n7 hbad o1 o2 o3 o4 o5 o6 o7 o8 z1 z2 z3 z4 z5
  go_enter Tryz.func209, Tryz.ntmps209
  go_wp2_with fail
  refine (T1.out _ _).mono ?_
  rintro e w1 ⟨rfl, rfl⟩
  go_wp2_with fail
  refine (T2.out _ _).mono ?_
  rintro e w1 ⟨rfl, rfl⟩
  rw [HV1.out]
  go_upto_region 5 with fail
  go_cut [31] (fun x wx => x = .bool (bad1 l) ∧ wx = (w.alloc (tx y2)).alloc (wrt A x2 ⟨#[]⟩ false ⟨#[]⟩))
  case first =>
    by_cases g1 : q1 l = q0 l
    · have E := Lib.hid (show bad1 l = true by rw [HBAD.out]; simp [g1])
      have g2 : x2.toList.isEmpty = true := by rw [HV2.out]; simp [g1]
      clear g1
      go_wp2_with fail
      go_meet
      exact ⟨by rw [E.out], rfl⟩
    · have g2 : x2.toList.isEmpty = false := by rw [HV2.out]; simp [g1]
      have g3 : 0 < x2.size := by have := HS2.out; have := O1.out; omega
      have hx := txt_at HX2.out (k := 0)
      rw [HB2.out g1] at hx
      by_cases g4 : bt l (q0 l) = 48
      · by_cases g5 : 1 < x2.size
        · have E := Lib.hid (show bad1 l = true by rw [HBAD.out]; have := HS2.out; simp [g4]; omega)
          clear g1
          go_wp2_with fail
          go_meet
          exact ⟨by rw [E.out]; simp; omega, rfl⟩
        · have E := Lib.hid (show bad1 l = false by rw [HBAD.out]; have := HS2.out; simp [g4, g1]; omega)
          clear g1
          go_wp2_with fail
          go_meet
          exact ⟨by rw [E.out]; simp; omega, rfl⟩
      · have E := Lib.hid (show bad1 l = false by rw [HBAD.out]; simp [g4, g1])
        clear g1
        go_wp2_with fail
        go_meet
        exact ⟨by rw [E.out], rfl⟩
  case rest =>
    obtain ⟨rfl, rfl⟩ := hcut
    clear HBAD HB2 HX2 T1 T2 HV1 HV2 HS2
    by_cases hbad : bad1 l = true
    · have E : isB l = false := by rw [HB.out, hbad]; rfl
      rw [hbad]
      clear hbad
      go_wp2_with fail
      refine bodyPost_ret (v := .tuple #[.agg #[.bool false, .string ⟨#[]⟩, .string ⟨#[]⟩, .bool false, .string ⟨#[]⟩], .bool false]) (by simp [results, Tryz.results209, go_sem]) rfl ?_
      exact ⟨_, _, _, _, _, by rw [E], fun h => by rw [E] at h; (cases h), _, _, rfl⟩
    · have hbad : bad1 l = false := by simpa using hbad
      rw [hbad]
      have HB1 := Lib.hid hbad
      clear hbad
      go_wp2_with fail
      refine (T3.out _ _).mono ?_
      rintro e w1 ⟨rfl, rfl⟩
      go_upto_if 35 with fail
      rw [HV3.out]
      go_cut [5] (fun x wx => x = .int .i64 s.size ∧ (dot l = true → q3 l ≠ q2 l) ∧ wx = (w.alloc (tx y4)).alloc (wrt A x2 x4 false ⟨#[]⟩))
      case first =>
        by_cases hd : dot l = true
        · have HD := Lib.hid hd
          rw [hd]
          clear hd
          by_cases g : q3 l = q2 l
          · have E : isB l = false := by rw [HB.out, HB1.out, HD.out]; simp [g]
            have g1 : x4.toList.isEmpty = true := by rw [HV4.out]; simp [g]
            clear g
            go_wp2_with fail
            refine (T4.out HD.out _ _).mono ?_
            rintro e w1 ⟨rfl, rfl⟩
            go_wp2_with fail
            refine bodyPost_ret (v := .tuple #[.agg #[.bool false, .string ⟨#[]⟩, .string ⟨#[]⟩, .bool false, .string ⟨#[]⟩], .bool false]) (by simp [results, Tryz.results209, go_sem]) rfl ?_
            exact ⟨_, _, _, _, _, by rw [E], fun h => by rw [E] at h; (cases h), _, _, rfl⟩
          · have g1 : x4.toList.isEmpty = false := by rw [HV4.out]; simp [g]
            have HG := Lib.hid g
            clear g
            go_wp2_with fail
            refine (T4.out HD.out _ _).mono ?_
            rintro e w1 ⟨rfl, rfl⟩
            go_wp2_with fail
            go_meet
            exact ⟨rfl, fun _ => HG.out, rfl⟩
        · have hd : dot l = false := by simpa using hd
          have HD := Lib.hid hd
          have E4 := Lib.hid (N4.out hd)
          rw [hd]
          clear hd
          go_wp2_with fail
          go_meet
          exact ⟨rfl, fun h => by rw [HD.out] at h; (cases h), by rw [E4.out.1, E4.out.2.1, E4.out.2.2]⟩
      case rest =>
        obtain ⟨rfl, hdg, rfl⟩ := hcut
        have HDG := Lib.hid hdg
        clear hdg T3 T4 HV3 HV4 N4
        go_wp2_with fail
        refine (T5.out _ _).mono ?_
        rintro e w1 ⟨rfl, rfl⟩
        go_upto_if 46 with fail
        rw [HV5.out]
        go_cut [5] (fun x wx => x = .int .i64 s.size ∧ (exq l = true → q5 l ≠ q4 l) ∧ wx = (w.alloc (tx y7)).alloc (wrt A x2 x4 D x7))
        case first =>
          by_cases hd : exq l = true
          · have HD := Lib.hid hd
            rw [hd]
            clear hd
            by_cases g : q5 l = q4 l
            · have E : isB l = false := by rw [HB.out, HB1.out, HD.out]; simp [g]
              have g1 : x7.toList.isEmpty = true := by rw [HV7.out]; simp [g]
              clear g
              go_wp2_with fail
              refine (T6.out HD.out _ _).mono ?_
              rintro e w1 ⟨rfl, rfl⟩
              go_wp2_with fail
              refine (T7.out HD.out _ _).mono ?_
              rintro e w1 ⟨rfl, rfl⟩
              go_wp2_with fail
              refine bodyPost_ret (v := .tuple #[.agg #[.bool false, .string ⟨#[]⟩, .string ⟨#[]⟩, .bool false, .string ⟨#[]⟩], .bool false]) (by simp [results, Tryz.results209, go_sem]) rfl ?_
              exact ⟨_, _, _, _, _, by rw [E], fun h => by rw [E] at h; (cases h), _, _, rfl⟩
            · have g1 : x7.toList.isEmpty = false := by rw [HV7.out]; simp [g]
              have g6 := HV6.out HD.out g
              have HG := Lib.hid g
              clear g
              go_wp2_with fail
              refine (T6.out HD.out _ _).mono ?_
              rintro e w1 ⟨rfl, rfl⟩
              go_wp2_with fail
              refine (T7.out HD.out _ _).mono ?_
              rintro e w1 ⟨rfl, rfl⟩
              go_wp2_with fail
              go_meet
              exact ⟨rfl, fun _ => HG.out, rfl⟩
          · have hd : exq l = false := by simpa using hd
            have HD := Lib.hid hd
            have E7 := Lib.hid (N7.out hd)
            rw [hd]
            clear hd
            go_wp2_with fail
            go_meet
            exact ⟨rfl, fun h => by rw [HD.out] at h; (cases h), by rw [E7.out.1, E7.out.2.1, E7.out.2.2]⟩
        case rest =>
          obtain ⟨rfl, heg, rfl⟩ := hcut
          have HEG := Lib.hid heg
          clear heg T5 T6 T7 HV5 HV6 HV7 N7
          by_cases g : q5 l = l.length
          · have E : isB l = true := by
              rw [HB.out, HB1.out]
              have h1 := HDG.out
              have h2 := HEG.out
              cases hd : dot l <;> cases he : exq l <;> simp_all
            have g1 : y7.toList.isEmpty = true := by rw [HV8.out]; simp [g]
            clear g
            go_wp2_with fail
            refine bodyPost_ret (v := .tuple #[.agg #[.bool A, .string x2, .string x4, .bool D, .string x7], .bool true]) (by simp [results, Tryz.results209, go_sem]) rfl ?_
            exact ⟨_, _, _, _, _, by rw [E], HE.out, _, _, rfl⟩
          · have E : isB l = false := by rw [HB.out]; simp [g]
            have g1 : y7.toList.isEmpty = false := by rw [HV8.out]; simp [g]
            clear g
            go_wp2_with fail
            refine bodyPost_ret (v := .tuple #[.agg #[.bool false, .string ⟨#[]⟩, .string ⟨#[]⟩, .bool false, .string ⟨#[]⟩], .bool false]) (by simp [results, Tryz.results209, go_sem]) rfl ?_
            exact ⟨_, _, _, _, _, by rw [E], fun h => by rw [E] at h; (cases h), _, _, rfl⟩
end Go.Proofs.YtggeiajbcehkjaaGreatDoor.De
/- The program's own written exponent, walked. -/
namespace Go.Proofs.YtggeiajbcehkjaaGreatDoor.De
open Go.RowKit

/-- The written exponent of numerals, and a minus ahead of them. -/
def exR (P : List UInt8) (d : Bool) : Int × Bool := match powA P P.length 0 0 with
  | none => (0, false)
  | some n => (if d = true then -n else n, true)
theorem powA_mid (l : List UInt8) (i e : Nat) (he : e ≤ l.length) : ∀ (k : Nat) (n : Int), i + k ≤ e → powA ((l.take e).drop i) (e - i) k n = powA l e (i + k) n := by
  intro k n hk
  by_cases h : i + k < e
  · have hb : bt ((l.take e).drop i) k = bt l (i + k) := by rw [bt_drop, bt_take l h]
    by_cases g : 10 * n + (bt l (i + k) - 48) > 1000000000
    · rw [powA_big h g, powA_big (by omega) (by rw [hb]; exact g)]
    · rw [powA_on h g, powA_on (by omega) (by rw [hb]; exact g), hb]
      exact powA_mid l i e he (k + 1) _ (by omega)
  · rw [powA_end h, powA_end (by omega)]
termination_by k => e - (i + k)
theorem exR_is {l : List UInt8} : exR ((l.take (q5 l)).drop (q4 l)) (decide (q4 l < q5 l ∧ bt l (q4 l - 1) = 45)) = powR l (q4 l) (q5 l) := by
  obtain ⟨_, _, _, _, o5, o6, _, _⟩ := q_order (l := l)
  have hl : ((l.take (q5 l)).drop (q4 l)).length = q5 l - q4 l := by simp; omega
  unfold exR powR
  rw [hl, powA_mid l (q4 l) (q5 l) o6 0 0 (by omega), Nat.add_zero]
  cases powA l (q5 l) (q4 l) 0 with
  | none => rfl
  | some n => simp only [decide_eq_true_eq]
abbrev wv (a : Bool) (b c : ByteArray) (d : Bool) (f : ByteArray) : Value := .agg #[.bool a, .string b, .string c, .bool d, .string f]
theorem ret_ib2 {a b : Int} {p q : Bool} (h : (a, p) = (b, q)) : Ending.returned (.tuple #[.int .i64 a, .bool p]) = .returned (.tuple #[.int .i64 b, .bool q]) := by cases h; rfl
set_option maxHeartbeats 1000000 in
theorem expo_any {P : List UInt8} {a d : Bool} {b c f : ByteArray} (w : World) (hf : f = txt P) (hP : ∀ k, k < P.length → nmr (bt P k) = true) (hm : P.length ≤ 1000000) :
    Calls Tryz.prog 210 #[wv a b c d f] w fun e w' => e = .returned (.tuple #[.int .i64 (exR P d).1, .bool (exR P d).2]) ∧ w' = w.alloc (wrt a b c d f) := by
  have HZ := Lib.hid (show f.size = P.length by rw [hf, txt_size])
  have HS := Lib.hid hf
  have HN := Lib.hid hP
  have hsz : f.size ≤ 1000000 := by have := HZ.out; omega
  clear hf hP hm
  go_enter Tryz.func210, Tryz.ntmps210
  go_wp2_with fail
  go_loop [2, 8] (fun m j => ∃ (n : Int) (k : Nat), k ≤ f.size ∧ 0 ≤ n ∧ n ≤ 1000000000 ∧ m = .int .i64 n ∧ j = .int .i64 k ∧ powA P P.length 0 0 = powA P P.length k n) (fun _ j => f.size - (intOf j).toNat)
  case atStart => exact ⟨0, 0, Nat.zero_le _, by omega, by omega, rfl, rfl, rfl⟩
  case round =>
    obtain ⟨n, k, hk, hn1, hn2, rfl, rfl, hr⟩ := hrel
    have HR := Lib.hid hr
    clear hr
    by_cases hlt : k < f.size
    · have hx := txt_at HS.out (k := k)
      have hnm := HN.out k (by have := HZ.out; omega)
      have h48 : 48 ≤ bt P k ∧ bt P k ≤ 57 := by simpa [nmr] using hnm
      clear hnm
      by_cases hbig : 10 * n + (bt P k - 48) > 1000000000
      · have E := Lib.hid (show exR P d = (0, false) by unfold exR; rw [HR.out, powA_big (by have := HZ.out; omega) hbig])
        go_wp2_with fail
        refine bodyPost_ret (v := .tuple #[.int .i64 0, .bool false]) (by simp [results, Tryz.results210, go_sem]) rfl ?_
        exact ⟨ret_ib2 (by rw [E.out]), rfl⟩
      · have E := Lib.hid (powA_on (l := P) (e := P.length) (by have := HZ.out; omega) hbig)
        go_wp2_with fail
        go_round
        case rel => exact ⟨10 * n + (bt P k - 48), k + 1, by omega, by omega, by omega, by go_num, by go_num, by rw [HR.out, E.out]⟩
        case measure => simp [intOf]; omega
    · have E := Lib.hid (show exR P d = (if d = true then -n else n, true) by unfold exR; rw [HR.out, powA_end (by have := HZ.out; omega)])
      cases d
      · go_wp2_with fail
        refine bodyPost_ret (v := .tuple #[.int .i64 n, .bool true]) (by simp [results, Tryz.results210, go_sem]) rfl ?_
        exact ⟨ret_ib2 (by rw [E.out]; rfl), rfl⟩
      · go_wp2_with fail
        refine bodyPost_ret (v := .tuple #[.int .i64 (-n), .bool true]) (by simp [results, Tryz.results210, go_sem]) rfl ?_
        exact ⟨ret_ib2 (by rw [E.out]; rfl), rfl⟩
end Go.Proofs.YtggeiajbcehkjaaGreatDoor.De
/- Normal forms, as lists: what is printed is read again as itself. -/
namespace Go.Proofs.YtggeiajbcehkjaaGreatDoor.De
open Go.RowKit

def nb (x : UInt8) : Bool := nmr (x.toNat : Int)
theorem bt_app_ge (a b : List UInt8) {k : Nat} (h : a.length ≤ k) : bt (a ++ b) k = bt b (k - a.length) := by simp [bt, List.getElem?_append, Nat.not_lt.2 h]
theorem bt_app (a b : List UInt8) : bt (a ++ b) a.length = bt b 0 := by rw [bt_app_ge _ _ (Nat.le_refl _), Nat.sub_self]
theorem bt_cons (x : UInt8) (b : List UInt8) : bt (x :: b) 0 = (x.toNat : Int) := by simp [bt]
end Go.Proofs.YtggeiajbcehkjaaGreatDoor.De
/- A normal form read again. -/
namespace Go.Proofs.YtggeiajbcehkjaaGreatDoor.De
open Go.RowKit

def sg (m : Bool) : List UInt8 := if m = true then [45] else []
def mk (m : Bool) (T : List UInt8) (N : Int) : List UInt8 := sg m ++ T ++ [101] ++ itoL N
/-- What is a normal form's numerals. -/
structure Fine (T : List UInt8) : Prop where
  nums : ∀ x ∈ T, nb x = true
  some : T ≠ []
  first : bt T 0 ≠ 48
  last : bt T (T.length - 1) ≠ 48
theorem nb_of_runE {l : List UInt8} {i : Nat} : ∀ x ∈ (l.take (runE l i)).drop i, nb x = true := by
  intro x hx
  obtain ⟨k, hk, rfl⟩ := List.mem_iff_getElem.1 hx
  simp at hk
  have := runE_nmr l i (i + k) (by omega) (by omega)
  unfold nb
  simpa [bt, show i + k < l.length by omega] using this
theorem rdD_nb (l : List UInt8) : ∀ x ∈ rdD l, nb x = true := by
  intro x hx
  unfold rdD at hx
  rcases List.mem_append.1 hx with h | h
  · exact nb_of_runE x h
  · unfold q3 at h; split at h
    · exact nb_of_runE x h
    · have : q1 l ≤ q2 l := (q_order (l := l)).2.1
      have e : (l.take (q1 l)).drop (q2 l) = [] := List.drop_eq_nil_of_le (by simp; omega)
      rw [e] at h; exact absurd h (by simp)
theorem trimR_spec (d : List UInt8) : (∀ x ∈ trimR d, x ∈ d) ∧ (trimR d ≠ [] → bt (trimR d) ((trimR d).length - 1) ≠ 48) := by
  by_cases h : 0 < d.length ∧ bt d (d.length - 1) = 48
  · rw [trimR_on h.1 h.2]
    have := trimR_spec (d.take (d.length - 1))
    exact ⟨fun x hx => List.mem_of_mem_take (this.1 x hx), this.2⟩
  · rw [trimR_end h]
    exact ⟨fun x hx => hx, fun hne h2 => h ⟨List.length_pos_iff.2 hne, h2⟩⟩
termination_by d.length
decreasing_by simp; omega
theorem trimL_spec (d : List UInt8) : (∀ x ∈ trimL d, x ∈ d) ∧ (trimL d ≠ [] → bt (trimL d) 0 ≠ 48 ∧ bt (trimL d) ((trimL d).length - 1) = bt d (d.length - 1)) := by
  by_cases h : 0 < d.length ∧ bt d 0 = 48
  · rw [trimL_on h.1 h.2]
    have := trimL_spec (d.drop 1)
    refine ⟨fun x hx => List.mem_of_mem_drop (this.1 x hx), fun hne => ⟨(this.2 hne).1, ?_⟩⟩
    rw [(this.2 hne).2, bt_drop]
    have h2 : 0 < (d.drop 1).length := by
      rcases Nat.eq_zero_or_pos (d.drop 1).length with h3 | h3
      · have e := List.length_eq_zero_iff.1 h3
        have := trimL_len (d.drop 1)
        exact absurd (List.length_eq_zero_iff.1 (by omega)) hne
      · exact h3
    congr 1; simp at h2 ⊢; omega
  · rw [trimL_end h]
    exact ⟨fun x hx => hx, fun hne => ⟨fun h2 => h ⟨List.length_pos_iff.2 hne, h2⟩, rfl⟩⟩
termination_by d.length
decreasing_by simp; omega
theorem rdT_fine {l : List UInt8} (h : rdT l ≠ []) : Fine (rdT l) := by
  have hL := trimL_spec (trimR (rdD l))
  have hR := trimR_spec (rdD l)
  have h2 : trimR (rdD l) ≠ [] := by
    intro e
    unfold rdT at h; rw [e] at h
    exact h (trimL_end (by simp))
  exact ⟨fun x hx => rdD_nb l x (hR.1 x (hL.1 x hx)), h, (hL.2 h).1, by unfold rdT; rw [(hL.2 h).2]; exact hR.2 h2⟩
end Go.Proofs.YtggeiajbcehkjaaGreatDoor.De
/- The order of normal forms, as lists. -/
namespace Go.Proofs.YtggeiajbcehkjaaGreatDoor.De
open Go.RowKit

theorem Fine.ne {T : List UInt8} (h : Fine T) : T ≠ [48] := fun e => h.first (by rw [e]; rfl)
end Go.Proofs.YtggeiajbcehkjaaGreatDoor.De
/- The program's own normal form in parts, walked. -/
namespace Go.Proofs.YtggeiajbcehkjaaGreatDoor.De
open Go.RowKit

theorem trimL_B (d : List UInt8) : trimL d = Lib.trimLeftB d 48 := by
  unfold Lib.trimLeftB
  cases d with
  | nil => rw [trimL_end (by simp)]; rfl
  | cons x r =>
    by_cases h : x = 48
    · subst h
      rw [trimL_on (by simp) (by rw [bt_cons]; rfl), List.drop_succ_cons, List.drop_zero, trimL_B r, List.dropWhile_cons, if_pos (by simp)]; rfl
    · rw [trimL_end, List.dropWhile_cons, if_neg (by simp [h])]
      rw [bt_cons]
      intro h2
      exact h (UInt8.toNat_inj.1 (by have := h2.2; simpa using (by omega : x.toNat = 48)))
theorem trimR_B' : ∀ (n : Nat) (d : List UInt8), d.length = n → trimR d = Lib.trimRightB d 48 := by
  intro n
  induction n with
  | zero => intro d hd; obtain rfl := List.length_eq_zero_iff.1 hd; rw [trimR_end (by simp)]; rfl
  | succ n ih =>
    intro d hd
    rcases List.eq_nil_or_concat d with rfl | ⟨r, x, rfl⟩
    · simp at hd
    · rw [List.concat_eq_append] at hd ⊢
      have hr : r.length = n := by simpa using hd
      have hb : bt (r ++ [x]) ((r ++ [x]).length - 1) = (x.toNat : Int) := by
        rw [show (r ++ [x]).length - 1 = r.length by simp, bt_app, bt_cons]
      unfold Lib.trimRightB
      by_cases h : x = 48
      · subst h
        rw [trimR_on (by simp) (by rw [hb]; rfl), show (r ++ [(48 : UInt8)]).take ((r ++ [(48 : UInt8)]).length - 1) = r by simp, ih r hr]
        unfold Lib.trimRightB
        rw [List.reverse_append, List.reverse_singleton, List.singleton_append, List.dropWhile_cons, if_pos (by simp)]
      · rw [trimR_end, List.reverse_append, List.reverse_singleton, List.singleton_append, List.dropWhile_cons, if_neg (by simp [h])]
        · simp
        · rw [hb]
          intro h2
          exact h (UInt8.toNat_inj.1 (by have := h2.2; simpa using (by omega : x.toNat = 48)))
theorem trimR_B (d : List UInt8) : trimR d = Lib.trimRightB d 48 := trimR_B' d.length d rfl
theorem trimL_nil : ∀ {d : List UInt8}, trimL d = [] → ∀ x ∈ d, x = 48
  | [], _, x, hx => by cases hx
  | y :: r, h, x, hx => by
    by_cases hy : y = 48
    · subst hy
      rw [trimL_on (d := 48 :: r) (by simp) (by rw [bt_cons]; rfl), List.drop_succ_cons, List.drop_zero] at h
      rcases List.mem_cons.1 hx with h1 | h1
      · exact h1
      · exact trimL_nil h x h1
    · rw [trimL_end] at h
      · cases h
      · rw [bt_cons]
        intro h2
        exact hy (UInt8.toNat_inj.1 (by have := h2.2; simpa using (by omega : y.toNat = 48)))
theorem kept_nil {d : List UInt8} : trimL (trimR d) = [] ↔ trimR d = [] := by
  refine ⟨fun h => ?_, fun h => by rw [h]; exact trimL_end (by simp)⟩
  have h2 := trimL_nil h
  by_cases h3 : trimR d = []
  · exact h3
  · exfalso
    have h4 := (trimR_spec d).2 h3
    have hl : 0 < (trimR d).length := List.length_pos_iff.2 h3
    have h5 := h2 ((trimR d)[(trimR d).length - 1]) (List.getElem_mem _)
    apply h4
    unfold bt
    rw [List.getD_eq_getElem?_getD, List.getElem?_eq_getElem (by omega), Option.getD_some, h5]; rfl
abbrev fv (m : Bool) (d : ByteArray) (x : Int) : Value := .agg #[.bool m, .string d, .int .i64 x]
abbrev fo (m : Bool) (d : ByteArray) (x : Int) : Obj := .cells #[.bool m, .string d, .int .i64 x] 227
/-- The normal form in parts, of the written parts and what the exponent is. -/
def fmM (K : List UInt8) (a : Bool) : Bool := if K = [] then false else a
def fmD (K : List UInt8) : List UInt8 := if K = [] then [48] else trimL K
def fmX (B C K : List UInt8) (e : Int) : Int := if K = [] then 0 else e - C.length + ((B ++ C).length : Int) - K.length
/-- The world behind it: a draw where there are numerals left. -/
def fmW (w : World) (o o' : Obj) (K : List UInt8) : World := if K = [] then (w.alloc o).alloc o' else ((w.alloc o).alloc o').drew
theorem fmW_nil {w : World} {o o' : Obj} {K : List UInt8} (h : K = []) : fmW w o o' K = (w.alloc o).alloc o' := if_pos h
theorem fmW_some {w : World} {o o' : Obj} {K : List UInt8} (h : K ≠ []) : fmW w o o' K = ((w.alloc o).alloc o').drew := if_neg h
theorem trimRight_is {d : List UInt8} {s t : ByteArray} (hs : s = txt d) (ht : t = txt (trimR d)) (hm : d.length ≤ 2000000) (w : World) :
    Calls Tryz.prog 237 #[.string s, .string ⟨#[48]⟩] w fun e w' => e = .returned (.string t) ∧ w = w' := by
  refine (Tryz.strings_TrimRight_one s 48 (by decide) w (by rw [hs, txt_size]; omega)).mono ?_
  rintro e w' ⟨rfl, rfl⟩
  exact ⟨by rw [ht, trimR_B, hs]; rfl, rfl⟩
theorem trimLeft_is {d : List UInt8} {s t : ByteArray} (hs : s = txt d) (ht : t = txt (trimL d)) (w : World) :
    Calls Tryz.prog 238 #[.string s, .string ⟨#[48]⟩] w fun e w' => e = .returned (.string t) ∧ w' = w := by
  refine (Tryz.strings_TrimLeft_one s 48 (by decide) w).mono ?_
  rintro e w' ⟨rfl, rfl⟩
  exact ⟨by rw [ht, trimL_B, hs]; rfl, rfl⟩
set_option maxHeartbeats 2000000 in
theorem form_any {B C : List UInt8} {a d : Bool} {b c f : ByteArray} (x : Int) (w : World) (hb : b = txt B) (hc : c = txt C) (hB : B.length ≤ 1000000) (hC : C.length ≤ 1000000) (hx1 : -1000000000 ≤ x) (hx2 : x ≤ 1000000000) :
    Calls Tryz.prog 211 #[wv a b c d f, .int .i64 x] w fun e w' => e = .returned (fv (fmM (trimR (B ++ C)) a) (txt (fmD (trimR (B ++ C)))) (fmX B C (trimR (B ++ C)) x)) ∧ ∃ (o o' : Obj), w' = fmW w o o' (trimR (B ++ C)) := by
  have hdl : (B ++ C).length ≤ 2000000 := by simp; omega
  obtain ⟨D, hD⟩ : ∃ D, D = txt (B ++ C) := ⟨_, rfl⟩
  obtain ⟨K, hK⟩ : ∃ K, K = trimR (B ++ C) := ⟨_, rfl⟩
  obtain ⟨k, hk⟩ : ∃ k, k = txt K := ⟨_, rfl⟩
  obtain ⟨t, ht⟩ : ∃ t, t = txt (trimL K) := ⟨_, rfl⟩
  have TR := Lib.hid (fun w => trimRight_is (s := D) (t := k) hD (by rw [hk, hK]) hdl w)
  have TL := Lib.hid (fun w => trimLeft_is (s := k) (t := t) hk ht w)
  have hbc : b ++ c = D := by rw [hb, hc, hD, txt_app]
  have hke : k.toList.isEmpty = K.isEmpty := by rw [hk, txt_list]
  have hk0 : k.size ≤ 2000000 := by rw [hk, txt_size, hK]; have := trimR_len (B ++ C); omega
  have hc0 : c.size ≤ 1000000 := by rw [hc, txt_size]; omega
  have hb0 : b.size ≤ 1000000 := by rw [hb, txt_size]; omega
  have hd0 : D.size ≤ 2000000 := by rw [hD, txt_size]; omega
  have HX := Lib.hid (show K ≠ [] → fmX B C K x = x - c.size + D.size - k.size by intro h; unfold fmX; rw [if_neg h, hc, hD, hk, txt_size, txt_size, txt_size])
  rw [← hK]
  have HT := Lib.hid ht
  have HBC := Lib.hid hbc
  have HKE := Lib.hid hke
  clear hb hc hD hk ht hbc hke hB hC hdl hK
  go_enter Tryz.func211, Tryz.ntmps211
  go_upto_region 2 with fail
  rw [HBC.out]
  go_wp2_with fail
  refine (TR.out _).mono ?_
  rintro e w1 ⟨rfl, rfl⟩
  by_cases hn : K = []
  · have HN := Lib.hid hn
    have he : k.toList.isEmpty = true := by rw [HKE.out, hn]; rfl
    have E1 := Lib.hid (show fmM K a = false by unfold fmM; rw [if_pos hn])
    have E2 := Lib.hid (show fmD K = [48] by unfold fmD; rw [if_pos hn])
    have E3 := Lib.hid (show fmX B C K x = 0 by unfold fmX; rw [if_pos hn])
    clear hn
    go_wp2_with fail
    refine bodyPost_ret (v := fv false ⟨#[48]⟩ 0) (by simp [results, Tryz.results211, go_sem]) rfl ?_
    exact ⟨by rw [E1.out, E2.out, E3.out]; rfl, _, _, (fmW_nil HN.out).symm⟩
  · have HN := Lib.hid hn
    have he : k.toList.isEmpty = false := by rw [HKE.out]; simpa using hn
    have E1 := Lib.hid (show fmM K a = a by unfold fmM; rw [if_neg hn])
    have E2 := Lib.hid (show txt (fmD K) = t by unfold fmD; rw [if_neg hn, HT.out])
    have E3 := Lib.hid (HX.out hn)
    have HW := Lib.hid (show IntKind.i64.wrap (IntKind.i64.wrap (IntKind.i64.wrap (x - c.size) + D.size) - k.size) = x - c.size + D.size - k.size by
      rw [IntWalk.i64_in (x - c.size) (by omega), IntWalk.i64_in (x - c.size + D.size) (by omega), IntWalk.i64_in _ (by omega)])
    clear hn
    go_upto_region 5 with fail
    go_region_with (go_at_call 238; refine (TL.out _).mono ?_; rintro e w2 ⟨rfl, rfl⟩)
    all_goals go_wp2_with fail
    all_goals refine bodyPost_ret (v := fv a t (IntKind.i64.wrap (IntKind.i64.wrap (IntKind.i64.wrap (x - c.size) + D.size) - k.size))) (by simp [results, Tryz.results211, go_sem]) rfl ?_
    all_goals exact ⟨by rw [E1.out, E2.out, E3.out, HW.out], _, _, (fmW_some HN.out).symm⟩
end Go.Proofs.YtggeiajbcehkjaaGreatDoor.De
/- The program's own reading of a text into a normal form in parts, walked. -/
namespace Go.Proofs.YtggeiajbcehkjaaGreatDoor.De
open Go.RowKit

/-- The parts that a text's normal form has; of a text without one: nothing. -/
def frM (l : List UInt8) : Bool := if (rd l).2 = 0 then fmM (trimR (rdD l)) (decide (bt l 0 = 45)) else false
def frD (l : List UInt8) : List UInt8 := if (rd l).2 = 0 then fmD (trimR (rdD l)) else []
def frX (l : List UInt8) : Int := if (rd l).2 = 0 then (if trimR (rdD l) = [] then 0 else rdN l) else 0
theorem fr_none {l : List UInt8} (h : (rd l).2 ≠ 0) : frM l = false ∧ frD l = [] ∧ frX l = 0 := ⟨if_neg h, if_neg h, if_neg h⟩
theorem frD_len (l : List UInt8) : (frD l).length ≤ 2 * l.length + 1 := by
  unfold frD fmD; split
  · split
    · simp
    · have := trimL_len (trimR (rdD l)); have := trimR_len (rdD l); have := rdD_len l; omega
  · simp
theorem rdN_far {l : List UInt8} (h1 : -1000000000 ≤ (powR l (q4 l) (q5 l)).1) (h2 : (powR l (q4 l) (q5 l)).1 ≤ 1000000000) (hm : l.length ≤ 1000000) : -2000000000 ≤ rdN l ∧ rdN l ≤ 3000000000 := by
  obtain ⟨o1, o2, o3, o4, o5, o6, _, _⟩ := q_order (l := l)
  have := trimR_len (rdD l)
  have := rdD_len l
  unfold rdN; omega
theorem frX_range (l : List UInt8) : -1000000000 ≤ frX l ∧ frX l ≤ 1000000000 := by
  unfold frX
  split
  · rename_i h
    split
    · omega
    · rename_i h2
      cases hB : isB l
      · rw [rd_syntax hB] at h; simp at h
      · cases hp : (powR l (q4 l) (q5 l)).2
        · rw [rd_exp hB hp] at h; simp at h
        · have hT : rdT l ≠ [] := fun e => h2 (kept_nil.1 e)
          by_cases h4 : rdN l > 1000000000 ∨ rdN l < -1000000000
          · rw [rd_far hB hp hT h4] at h; simp at h
          · omega
  · omega
theorem ret_fc {m m' : Bool} {d d' : ByteArray} {x x' c c' : Int} (h1 : m = m') (h2 : d = d') (h3 : x = x') (h4 : c = c') : Ending.returned (.tuple #[fv m d x, .int .i64 c]) = .returned (.tuple #[fv m' d' x', .int .i64 c']) := by rw [h1, h2, h3, h4]
set_option maxHeartbeats 2000000 in
theorem rd2_any {l : List UInt8} {s : ByteArray} (w : World) (hs : s = txt l) (hm : l.length ≤ 1000000) :
    Calls Tryz.prog 177 #[.string s] w fun e w' => e = .returned (.tuple #[fv (frM l) (txt (frD l)) (frX l), .int .i64 (rd l).2]) ∧ Below w.heap.size w w' := by
  have SP := Lib.hid (fun w => split_any (l := l) w hs hm)
  obtain ⟨o1, o2, o3, o4, o5, o6, o7, o8⟩ := q_order (l := l)
  have ⟨r1, r2⟩ := powR_range l (q4 l) (q5 l) o8
  have hfar := rdN_far r1 r2 hm
  have EX := Lib.hid (fun (a d : Bool) (b c f : ByteArray) (hf : f = txt ((l.take (q5 l)).drop (q4 l))) (hd : d = decide (q4 l < q5 l ∧ bt l (q4 l - 1) = 45)) w => by
    have h := expo_any (P := (l.take (q5 l)).drop (q4 l)) (a := a) (d := d) (b := b) (c := c) (f := f) w hf (by
      intro k hk
      simp at hk
      rw [bt_drop, bt_take l (by omega)]
      exact o8 _ (by omega) (by omega)) (by simp; omega)
    rw [hd, exR_is, ← hd] at h
    exact h)
  have FM := Lib.hid (fun (a d : Bool) (b c f : ByteArray) (hb : b = txt ((l.take (q1 l)).drop (q0 l))) (hc : c = txt ((l.take (q3 l)).drop (q2 l))) w =>
    form_any (B := (l.take (q1 l)).drop (q0 l)) (C := (l.take (q3 l)).drop (q2 l)) (a := a) (d := d) (b := b) (c := c) (f := f) (powR l (q4 l) (q5 l)).1 w hb hc (by simp; omega) (by simp; omega) r1 r2)
  have hfx : fmX ((l.take (q1 l)).drop (q0 l)) ((l.take (q3 l)).drop (q2 l)) (trimR (rdD l)) (powR l (q4 l) (q5 l)).1 = if trimR (rdD l) = [] then 0 else rdN l := by
    unfold fmX; split
    · rfl
    · unfold rdN
      show _ - (((l.take (q3 l)).drop (q2 l)).length : Int) + ((rdD l).length : Int) - _ = _
      rw [show ((l.take (q3 l)).drop (q2 l)).length = q3 l - q2 l by simp; omega]; omega
  have HFX := Lib.hid hfx
  clear hs hm o1 o2 o3 o4 o5 o6 o7 o8 hfx
  go_enter Tryz.func177, Tryz.ntmps177
  go_wp2_with fail
  refine (SP.out _).mono ?_
  rintro e w1 ⟨a, b, c, d, f, rfl, hp, o1, o2, rfl⟩
  have HP := Lib.hid hp
  clear hp
  by_cases hB : isB l = true
  · have HB := Lib.hid hB
    obtain ⟨ha, hb, hc, hd, hf⟩ := HP.out hB
    have EX2 := Lib.hid (EX.out a d b c f hf hd)
    have FM2 := Lib.hid (FM.out a d b c f hb hc)
    have HA := Lib.hid ha
    rw [hB]
    clear ha hb hc hd hf hB EX HP SP
    obtain ⟨pn, hpn⟩ : ∃ x, (powR l (q4 l) (q5 l)).1 = x := ⟨_, rfl⟩
    obtain ⟨pb, hpb⟩ : ∃ x, (powR l (q4 l) (q5 l)).2 = x := ⟨_, rfl⟩
    rw [hpn] at EX2 FM2 HFX
    rw [hpb] at EX2
    have HPB := Lib.hid hpb
    clear hpn hpb r1 r2
    rw [show (l.take (q1 l)).drop (q0 l) ++ (l.take (q3 l)).drop (q2 l) = rdD l from rfl, HFX.out] at FM2
    obtain ⟨K, hK⟩ : ∃ K, trimR (rdD l) = K := ⟨_, rfl⟩
    rw [hK] at FM2
    have HK := Lib.hid hK
    obtain ⟨M, hM⟩ : ∃ M, fmM K a = M := ⟨_, rfl⟩
    obtain ⟨T, hT⟩ : ∃ T, txt (fmD K) = T := ⟨_, rfl⟩
    obtain ⟨X, hX⟩ : ∃ X, (if K = [] then 0 else rdN l) = X := ⟨_, rfl⟩
    rw [hM, hT, hX] at FM2
    have hX1 : -2000000000 ≤ X := by rw [← hX]; split <;> omega
    have hX2 : X ≤ 3000000000 := by rw [← hX]; split <;> omega
    have HM := Lib.hid hM
    have HT := Lib.hid hT
    have HX := Lib.hid hX
    clear hK hM hT hX HFX hfar FM
    go_wp2_with fail
    refine (EX2.out _).mono ?_
    rintro e w2 ⟨rfl, rfl⟩
    cases pb
    · have E := Lib.hid (rd_exp HB.out HPB.out)
      have F := Lib.hid (fr_none (l := l) (by rw [E.out]; simp))
      go_wp2_with fail
      refine bodyPost_ret (v := .tuple #[fv false ⟨#[]⟩ 0, .int .i64 7]) (by simp [results, Tryz.results177, go_sem]) rfl ?_
      exact ⟨ret_fc F.out.1.symm (by rw [F.out.2.1]; rfl) F.out.2.2.symm (by rw [E.out]), (((((Below.refl _ _).alloc (Nat.le_refl _) _).alloc (by simp) _).alloc (by simp; omega) _).alloc (by simp; omega) _).alloc (by simp; omega) _⟩
    · by_cases hK : K = []
      · have hT : rdT l = [] := kept_nil.2 (by rw [HK.out, hK])
        have E := Lib.hid (rd_zero HB.out HPB.out hT)
        have F1 := Lib.hid (show frM l = M by unfold frM; rw [E.out, if_pos rfl, HK.out, ← HM.out, HA.out])
        have F2 := Lib.hid (show txt (frD l) = T by unfold frD; rw [E.out, if_pos rfl, HK.out, ← HT.out])
        have hX : X = 0 := by rw [← HX.out, if_pos hK]
        have F3 := Lib.hid (show frX l = X by unfold frX; rw [E.out, if_pos rfl, HK.out, HX.out])
        have HKN := Lib.hid hK
        subst hX
        clear hK hT
        go_wp2_with fail
        refine (FM2.out _).mono ?_
        rintro e w3 ⟨rfl, o3, o4, hw⟩
        rw [fmW_nil HKN.out] at hw
        subst hw
        go_wp2_with fail
        refine bodyPost_ret (v := .tuple #[fv M T 0, .int .i64 0]) (by simp [results, Tryz.results177, go_sem]) rfl ?_
        exact ⟨ret_fc F1.out.symm F2.out.symm F3.out.symm (by rw [E.out]), ((((((((Below.refl _ _).alloc (Nat.le_refl _) _).alloc (by simp) _).alloc (by simp; omega) _).alloc (by simp; omega) _).alloc (by simp; omega) _).alloc (by simp; omega) _).alloc (by simp; omega) _).alloc (by simp; omega) _⟩
      · have hT : rdT l ≠ [] := fun h => hK (by rw [← HK.out]; exact kept_nil.1 h)
        have hXN : X = rdN l := by rw [← HX.out, if_neg hK]
        have HXN := Lib.hid hXN
        have HT2 := Lib.hid hT
        have HKN := Lib.hid hK
        clear hK hT hXN
        go_wp2_with fail
        refine (FM2.out _).mono ?_
        rintro e w3 ⟨rfl, o3, o4, hw⟩
        rw [fmW_some HKN.out] at hw
        subst hw
        by_cases g1 : X > 1000000000
        · have E := Lib.hid (rd_far HB.out HPB.out HT2.out (Or.inl (by rw [← HXN.out]; exact g1)))
          have F := Lib.hid (fr_none (l := l) (by rw [E.out]; simp))
          go_wp2_with fail
          refine bodyPost_ret (v := .tuple #[fv false ⟨#[]⟩ 0, .int .i64 7]) (by simp [results, Tryz.results177, go_sem]) rfl ?_
          exact ⟨ret_fc F.out.1.symm (by rw [F.out.2.1]; rfl) F.out.2.2.symm (by rw [E.out]), belowDrewN (((((((((Below.refl _ _).alloc (Nat.le_refl _) _).alloc (by simp) _).alloc (by simp; omega) _).alloc (by simp; omega) _).alloc (by simp; omega) _).alloc (by simp; omega) _).alloc (by simp; omega) _).alloc (by simp; omega) _) 1⟩
        · by_cases g2 : X < -1000000000
          · have E := Lib.hid (rd_far HB.out HPB.out HT2.out (Or.inr (by rw [← HXN.out]; exact g2)))
            have F := Lib.hid (fr_none (l := l) (by rw [E.out]; simp))
            go_wp2_with fail
            refine bodyPost_ret (v := .tuple #[fv false ⟨#[]⟩ 0, .int .i64 7]) (by simp [results, Tryz.results177, go_sem]) rfl ?_
            exact ⟨ret_fc F.out.1.symm (by rw [F.out.2.1]; rfl) F.out.2.2.symm (by rw [E.out]), belowDrewN (((((((((Below.refl _ _).alloc (Nat.le_refl _) _).alloc (by simp) _).alloc (by simp; omega) _).alloc (by simp; omega) _).alloc (by simp; omega) _).alloc (by simp; omega) _).alloc (by simp; omega) _).alloc (by simp; omega) _) 1⟩
          · have E := Lib.hid (rd_ok HB.out HPB.out HT2.out (by rw [← HXN.out]; omega))
            have F1 := Lib.hid (show frM l = M by unfold frM; rw [E.out, if_pos rfl, HK.out, ← HM.out, HA.out])
            have F2 := Lib.hid (show txt (frD l) = T by unfold frD; rw [E.out, if_pos rfl, HK.out, ← HT.out])
            have F3 := Lib.hid (show frX l = X by unfold frX; rw [E.out, if_pos rfl, HK.out, HX.out])
            go_wp2_with fail
            refine bodyPost_ret (v := .tuple #[fv M T X, .int .i64 0]) (by simp [results, Tryz.results177, go_sem]) rfl ?_
            exact ⟨ret_fc F1.out.symm F2.out.symm F3.out.symm (by rw [E.out]), belowDrewN (((((((((Below.refl _ _).alloc (Nat.le_refl _) _).alloc (by simp) _).alloc (by simp; omega) _).alloc (by simp; omega) _).alloc (by simp; omega) _).alloc (by simp; omega) _).alloc (by simp; omega) _).alloc (by simp; omega) _) 1⟩
  · have hB : isB l = false := by simpa using hB
    have E := Lib.hid (rd_syntax hB)
    have F := Lib.hid (fr_none (l := l) (by rw [rd_syntax hB]; simp))
    rw [hB]
    clear hB
    go_wp2_with fail
    refine bodyPost_ret (v := .tuple #[fv false ⟨#[]⟩ 0, .int .i64 3]) (by simp [results, Tryz.results177, go_sem]) rfl ?_
    exact ⟨ret_fc F.out.1.symm (by rw [F.out.2.1]; rfl) F.out.2.2.symm (by rw [E.out]), ((((Below.refl _ _).alloc (Nat.le_refl _) _).alloc (by simp) _).alloc (by simp; omega) _).alloc (by simp; omega) _⟩
end Go.Proofs.YtggeiajbcehkjaaGreatDoor.De
