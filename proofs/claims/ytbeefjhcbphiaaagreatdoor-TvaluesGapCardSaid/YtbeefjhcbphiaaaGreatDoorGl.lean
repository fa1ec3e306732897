/- The program's own closure that takes a text's beginning, walked. -/
import Derived.Test.YtbeefjhcbphiaaaGreatDoorGc
import Derived.Test.YtbeefjhcbphiaaaGreatDoorShelfm
import Derived.OneCell
import Derived.Lib.IndexLaws
import Derived.Test.YtbeefjhcbphiaaaGreatDoorGd
import Derived.Deep.DeepCutAuto
import Derived.Deep.LoopGhost
namespace Go.Proofs.YtbeefjhcbphiaaaGreatDoor.De
open Go.RowKit

/-- How many of the bytes from place k on are among W, up to place m. -/
def tk (W : List UInt8) (m : Nat) (r : List UInt8) (k : Nat) : Nat := if k < r.length ∧ k < m ∧ W.contains (r.getD k 0) = true then tk W m r (k + 1) else k
termination_by r.length - k
theorem tk_on {W r : List UInt8} {m k : Nat} (h1 : k < r.length) (h2 : k < m) (h3 : W.contains (r.getD k 0) = true) : tk W m r k = tk W m r (k + 1) := by rw [tk, if_pos ⟨h1, h2, h3⟩]
theorem tk_end {W r : List UInt8} {m k : Nat} (h : ¬ (k < r.length ∧ k < m ∧ W.contains (r.getD k 0) = true)) : tk W m r k = k := by rw [tk, if_neg h]
theorem ix_in {W : List UInt8} {c : UInt8} (h : W.contains c = true) : 0 ≤ Lib.indexByte W c := by
  have h1 := Lib.indexByte_ge W c
  rcases Int.lt_or_le (Lib.indexByte W c) 0 with h2 | h2
  · have := Lib.indexByte_none (l := W) (c := c) (by omega)
    obtain ⟨i, hi, e⟩ := List.mem_iff_getElem.1 (List.contains_iff_mem.1 h)
    exact absurd (by rw [List.getElem?_eq_getElem hi, e]) (this i)
  · exact h2
theorem ix_out {W : List UInt8} {c : UInt8} (h : W.contains c = false) : Lib.indexByte W c = -1 := by
  have h1 := Lib.indexByte_ge W c
  rcases Int.lt_or_le (Lib.indexByte W c) 0 with h2 | h2
  · omega
  · obtain ⟨o, ho⟩ : ∃ o : Nat, Lib.indexByte W c = o := ⟨(Lib.indexByte W c).toNat, by omega⟩
    have := (Lib.indexByte_some ho).1
    have hm : c ∈ W := List.mem_of_getElem? this
    rw [← List.contains_iff_mem] at hm
    rw [h] at hm; cases hm
theorem getD_bt {r : List UInt8} {k : Nat} : (bt r k).toNat.toUInt8 = r.getD k 0 := by
  unfold bt; simp
theorem indexByte_is {W : List UInt8} {s : ByteArray} {c y : Int} (hs : s = txt W) (hy : y = Lib.indexByte W c.toNat.toUInt8) (w : World) :
    Calls Tryz.prog 143 #[.string s, .int .u8 c] w fun e w' => e = .returned (.int .i64 y) ∧ w = w' := by
  subst hs; subst hy
  refine (Tryz.strings_IndexByte (txt W) c w).mono ?_
  rintro e w' ⟨rfl, rfl⟩
  exact ⟨rfl, rfl⟩

set_option maxHeartbeats 1000000 in
theorem take_any {W r : List UInt8} {wn t : ByteArray} (m b : Nat) (w : World) (hW : wn = txt W) (ht : t = txt r) (hb : w.heap[b]? = some (.cells #[.string t] 9 (0, 0))) (hr : r.length ≤ 1000000) (hm : m ≤ 1000000) :
    Calls Tryz.prog 226 #[.string wn, .int .i64 m, .pointer (some ⟨b, 0, none⟩)] w fun e w' => e = .returned (.string (txt (r.take (tk W m r 0)))) ∧ w' = w.setCell ⟨b, 0, none⟩ (.string (txt (r.drop (tk W m r 0)))) := by
  have HZ := Lib.hid (show t.size = r.length by rw [ht, txt_size])
  have HS := Lib.hid ht
  have HW := Lib.hid hW
  have hsz : t.size ≤ 1000000 := by have := HZ.out; omega
  have hc := cell_of_one hb
  have hf := free_of_one hb
  clear ht hW hb hr
  go_enter Tryz.func226, Tryz.ntmps226
  go_wp2
  go_loop [6] (fun j => ∃ k : Nat, k ≤ t.size ∧ j = .int .i64 k ∧ tk W m r 0 = tk W m r k) (fun j => t.size - (intOf j).toNat)
  case atStart => exact ⟨0, Nat.zero_le _, rfl, rfl⟩
  case round =>
    obtain ⟨k, hk, rfl, hkr⟩ := hrel
    have HR := Lib.hid hkr
    clear hkr
    have fin : ¬ (k < r.length ∧ k < m ∧ W.contains (r.getD k 0) = true) → txt (r.take (tk W m r 0)) = t.extract 0 k ∧ txt (r.drop (tk W m r 0)) = t.extract k t.size := by
      intro h
      rw [HR.out, tk_end h, HS.out]
      refine ⟨by rw [txt_cut]; rfl, ?_⟩
      rw [txt_cut, txt_size, List.take_length]
    have FIN := Lib.hid fin
    clear fin
    by_cases h1 : k < t.size
    · have hx := txt_at HS.out (k := k)
      by_cases h2 : k < m
      · by_cases h3 : W.contains (r.getD k 0) = true
        · have E := Lib.hid (tk_on (m := m) (by have := HZ.out; omega) h2 h3)
          obtain ⟨y, hy⟩ : ∃ y, y = Lib.indexByte W (bt r k).toNat.toUInt8 := ⟨_, rfl⟩
          have hy0 : 0 ≤ y := by rw [hy, getD_bt]; exact ix_in h3
          have HY := Lib.hid hy
          clear hy h3 FIN
          go_wp2_with (go_at_call 143; refine (indexByte_is HW.out HY.out _).mono ?_; rintro e w' ⟨rfl, rfl⟩)
          go_round
          case rel => exact ⟨k + 1, by omega, by go_num, by rw [HR.out, E.out]⟩
          case measure => simp [intOf]; omega
        · have h3 : W.contains (r.getD k 0) = false := by simpa using h3
          have F := Lib.hid (FIN.out (by rw [h3]; simp))
          obtain ⟨y, hy⟩ : ∃ y, y = Lib.indexByte W (bt r k).toNat.toUInt8 := ⟨_, rfl⟩
          have hy0 : y = -1 := by rw [hy, getD_bt]; exact ix_out h3
          subst hy0
          have HY := Lib.hid hy
          clear hy h3 FIN
          go_wp2_with (go_at_call 143; refine (indexByte_is HW.out HY.out _).mono ?_; rintro e w' ⟨rfl, rfl⟩)
          go_ret
          exact ⟨by rw [F.out.1]; rfl, by rw [F.out.2]⟩
      · have F := Lib.hid (FIN.out (by omega))
        clear FIN
        go_wp2
        go_ret
        exact ⟨by rw [F.out.1]; rfl, by rw [F.out.2]⟩
    · have F := Lib.hid (FIN.out (by have := HZ.out; omega))
      clear FIN
      go_wp2
      go_ret
      exact ⟨by rw [F.out.1]; rfl, by rw [F.out.2]⟩
end Go.Proofs.YtbeefjhcbphiaaaGreatDoor.De
/- The program's own parting of a number's text, walked. -/
namespace Go.Proofs.YtbeefjhcbphiaaaGreatDoor.De
open Go.RowKit

def figs : List UInt8 := [48, 49, 50, 51, 52, 53, 54, 55, 56, 57]
theorem figs_nb (c : UInt8) : figs.contains c = nmr (c.toNat : Int) := by
  have : ∀ n : Nat, n < 256 → figs.contains (UInt8.ofNat n) = nmr (n : Int) := by decide +kernel
  have h := this c.toNat c.toNat_lt
  simpa using h
theorem drop_getD (l : List UInt8) (i k : Nat) : (l.drop i).getD k 0 = l.getD (i + k) 0 := by simp [List.getElem?_drop]
theorem tk_run (l : List UInt8) (i m k : Nat) (hi : i ≤ l.length) (hm : l.length ≤ m) : i + tk figs m (l.drop i) k = runE l (i + k) := by
  by_cases h : i + k < l.length ∧ nmr (bt l (i + k)) = true
  · rw [runE_on h.1 h.2, tk_on (by simp; omega) (by omega) (by rw [figs_nb, drop_getD]; exact h.2)]
    exact tk_run l i m (k + 1) hi hm
  · rw [runE_end h, tk_end]
    intro h2
    rw [figs_nb, drop_getD] at h2
    exact h ⟨by have := h2.1; simp at this; omega, h2.2.2⟩
termination_by l.length - (i + k)
theorem tk_one (W r : List UInt8) (h : (r ≠ [] → W.contains (r.getD 0 0) = true) ∧ r ≠ []) : tk W 1 r 0 = 1 := by
  rw [tk_on (List.length_pos_iff.2 h.2) (by omega) (h.1 h.2), tk_end (by omega)]
theorem tk_none (W r : List UInt8) (h : r ≠ [] → W.contains (r.getD 0 0) = false) : tk W 1 r 0 = 0 := by
  rw [tk_end]
  intro h2
  rw [h (List.length_pos_iff.1 h2.1)] at h2
  simp at h2
/-- What a text's taking gives, as the caller sees it. -/
abbrev tx (t : ByteArray) : Obj := .cells #[.string t] 9
abbrev wrt (a : Bool) (b c : ByteArray) (d : Bool) (f : ByteArray) : Obj := .cells #[.bool a, .string b, .string c, .bool d, .string f] 256
theorem take_at {W r : List UInt8} {wn t x y : ByteArray} (m : Nat) (w : World) (o : Obj) (hW : wn = txt W) (ht : t = txt r) (hr : r.length ≤ 1000000) (hm : m ≤ 1000000) (hx : x = txt (r.take (tk W m r 0))) (hy : y = txt (r.drop (tk W m r 0))) {mi : Int} (hmi : mi = m) :
    Calls Tryz.prog 226 #[.string wn, .int .i64 mi, .pointer (some ⟨w.heap.size, 0, none⟩)] ((w.alloc (tx t)).alloc o) fun e w' => e = .returned (.string x) ∧ w' = (w.alloc (tx y)).alloc o := by
  subst hx; subst hy; subst hmi
  refine (take_any m w.heap.size _ hW ht ?_ hr hm).mono ?_
  · show ((w.heap.push _).push _)[w.heap.size]? = _
    simp [Array.getElem?_push]
  · rintro e w' ⟨rfl, rfl⟩
    refine ⟨rfl, ?_⟩
    simp [go_sem]
theorem take_run {l : List UInt8} {t x y : ByteArray} (i m j : Nat) (w : World) (o : Obj) (ht : t = txt (l.drop i)) (hi : i ≤ l.length) (hl : l.length ≤ 1000000) (hm : m = l.length) (hj : j = runE l i) (hx : x = txt ((l.take j).drop i)) (hy : y = txt (l.drop j)) :
    Calls Tryz.prog 226 #[.string ⟨#[48, 49, 50, 51, 52, 53, 54, 55, 56, 57]⟩, .int .i64 m, .pointer (some ⟨w.heap.size, 0, none⟩)] ((w.alloc (tx t)).alloc o) fun e w' => e = .returned (.string x) ∧ w' = (w.alloc (tx y)).alloc o := by
  have h := tk_run l i m 0 hi (by omega)
  rw [Nat.add_zero, ← hj] at h
  refine take_at (W := figs) (r := l.drop i) m w o rfl ht (by simp; omega) (by omega) ?_ ?_ rfl
  · rw [hx, List.drop_take, show j - i = tk figs m (l.drop i) 0 by omega]
  · rw [hy, List.drop_drop, h]
theorem take_sign {l : List UInt8} {t x y : ByteArray} {wn : ByteArray} (W : List UInt8) (i : Nat) (p : Bool) (w : World) (o : Obj) (hW : wn = txt W) (ht : t = txt (l.drop i)) (hl : l.length ≤ 1000000) (hp : p = (decide (i < l.length) && W.contains (l.getD i 0)))
    (hx : x = txt ((l.drop i).take (if p then 1 else 0))) (hy : y = txt (l.drop (if p then i + 1 else i))) :
    Calls Tryz.prog 226 #[.string wn, .int .i64 1, .pointer (some ⟨w.heap.size, 0, none⟩)] ((w.alloc (tx t)).alloc o) fun e w' => e = .returned (.string x) ∧ w' = (w.alloc (tx y)).alloc o := by
  have h : tk W 1 (l.drop i) 0 = if p then 1 else 0 := by
    cases p
    · refine tk_none _ _ (fun h => ?_)
      have hl : i < l.length := by have := List.length_pos_iff.2 h; simp at this; omega
      rw [drop_getD]; simpa [hl] using hp.symm
    · have hp2 := hp.symm
      simp only [Bool.and_eq_true, decide_eq_true_eq] at hp2
      exact tk_one _ _ ⟨fun _ => by rw [drop_getD]; exact hp2.2, by intro h; have := congrArg List.length h; simp at this; omega⟩
  refine take_at (W := W) (r := l.drop i) 1 w o hW ht (by simp; omega) (by omega) (by rw [h]; exact hx) ?_ rfl
  rw [h, hy, List.drop_drop]; cases p <;> rfl
theorem sign_empty {l : List UInt8} {i : Nat} {p : Bool} (h : p = true → i < l.length) : (txt ((l.drop i).take (if p then 1 else 0))).toList.isEmpty = !p := by
  rw [txt_list]
  cases p
  · rfl
  · have := h rfl
    rw [List.isEmpty_eq_false_iff.2 ?_]; rfl
    intro h2; have := congrArg List.length h2; simp at this; omega
theorem mid_empty (l : List UInt8) {i j : Nat} (h1 : i ≤ j) (h2 : j ≤ l.length) : (txt ((l.take j).drop i)).toList.isEmpty = decide (j = i) := by
  rw [txt_list, Bool.eq_iff_iff]
  simp
  omega
theorem drop_empty (l : List UInt8) {i : Nat} (h : i ≤ l.length) : (txt (l.drop i)).toList.isEmpty = decide (i = l.length) := by
  rw [txt_list, Bool.eq_iff_iff]
  simp
  omega
theorem mid_nil (l : List UInt8) (i : Nat) : txt ((l.take i).drop i) = ⟨#[]⟩ := by
  rw [List.drop_eq_nil_of_le (by simp; omega)]; rfl
theorem in_one (c : UInt8) (n : UInt8) : [n].contains c = decide ((c.toNat : Int) = n.toNat) := by
  rw [Bool.eq_iff_iff]; simp; rw [← UInt8.toNat_inj]; omega
theorem in_two (c : UInt8) (m n : UInt8) : [m, n].contains c = decide ((c.toNat : Int) = m.toNat ∨ (c.toNat : Int) = n.toNat) := by
  rw [Bool.eq_iff_iff]; simp; rw [← UInt8.toNat_inj, ← UInt8.toNat_inj]; omega
theorem pos_at {l : List UInt8} {i : Nat} (h : bt l i ≠ 0) : i < l.length := by
  rcases Nat.lt_or_ge i l.length with h2 | h2
  · exact h2
  · exact absurd (bt_far h2) h
theorem one_at (l : List UInt8) (i : Nat) (n : UInt8) (hn : n ≠ 0) : (decide (i < l.length) && [n].contains (l.getD i 0)) = decide (bt l i = n.toNat) := by
  rw [in_one, Bool.eq_iff_iff]
  simp only [Bool.and_eq_true, decide_eq_true_eq]
  refine ⟨fun h => h.2, fun h => ⟨pos_at (fun h2 => hn ?_), h⟩⟩
  rw [h2] at h; exact UInt8.toNat_inj.1 (by simpa using h.symm)
theorem two_at (l : List UInt8) (i : Nat) (m n : UInt8) (hm : m ≠ 0) (hn : n ≠ 0) : (decide (i < l.length) && [m, n].contains (l.getD i 0)) = decide (bt l i = m.toNat ∨ bt l i = n.toNat) := by
  rw [in_two, Bool.eq_iff_iff]
  simp only [Bool.and_eq_true, decide_eq_true_eq]
  refine ⟨fun h => h.2, fun h => ⟨pos_at (fun h2 => ?_), h⟩⟩
  rw [h2] at h
  rcases h with h | h
  · exact hm (UInt8.toNat_inj.1 (by simpa using h.symm))
  · exact hn (UInt8.toNat_inj.1 (by simpa using h.symm))
def SplitPost (w : World) (l : List UInt8) (e : Ending) (w' : World) : Prop :=
  ∃ (a : Bool) (b c : ByteArray) (d : Bool) (f : ByteArray), e = .returned (.tuple #[.agg #[.bool a, .string b, .string c, .bool d, .string f], .bool (isB l)]) ∧
    (isB l = true → a = decide (bt l 0 = 45) ∧ b = txt ((l.take (q1 l)).drop (q0 l)) ∧ c = txt ((l.take (q3 l)).drop (q2 l)) ∧ d = decide (q4 l < q5 l ∧ bt l (q4 l - 1) = 45) ∧ f = txt ((l.take (q5 l)).drop (q4 l))) ∧ ∃ o o' : Obj, w' = (w.alloc o).alloc o'
theorem below_two (w : World) (o o' : Obj) : Below w.heap.size w ((w.alloc o).alloc o') := ((Below.refl _ _).alloc (Nat.le_refl _) _).alloc (by simp) _
set_option maxHeartbeats 4000000 in
set_option maxRecDepth 100000 in
theorem split_any {l : List UInt8} {s : ByteArray} (w : World) (hs : s = txt l) (hm : l.length ≤ 1000000) :
    Calls Tryz.prog 208 #[.string s] w (SplitPost w l) := by
  have hsz : s.size = l.length := by rw [hs, txt_size]
  obtain ⟨o1, o2, o3, o4, o5, o6, o7, o8⟩ := q_order (l := l)
  have z1 : q0 l ≤ l.length := by omega
  have z2 : q1 l ≤ l.length := by omega
  have z3 : q2 l ≤ l.length := by omega
  have z4 : q3 l ≤ l.length := by omega
  have z5 : q4 l ≤ l.length := by omega
  -- the texts
  obtain ⟨A, hA⟩ : ∃ A, A = decide (bt l 0 = 45) := ⟨_, rfl⟩
  obtain ⟨x1, hx1⟩ : ∃ x, x = txt ((l.drop 0).take (if A then 1 else 0)) := ⟨_, rfl⟩
  obtain ⟨y1, hy1⟩ : ∃ y, y = txt (l.drop (q0 l)) := ⟨_, rfl⟩
  obtain ⟨x2, hx2⟩ : ∃ x, x = txt ((l.take (q1 l)).drop (q0 l)) := ⟨_, rfl⟩
  obtain ⟨y2, hy2⟩ : ∃ y, y = txt (l.drop (q1 l)) := ⟨_, rfl⟩
  obtain ⟨x3, hx3⟩ : ∃ x, x = txt ((l.drop (q1 l)).take (if dot l then 1 else 0)) := ⟨_, rfl⟩
  obtain ⟨y3, hy3⟩ : ∃ y, y = txt (l.drop (q2 l)) := ⟨_, rfl⟩
  obtain ⟨x4, hx4⟩ : ∃ x, x = txt ((l.take (q3 l)).drop (q2 l)) := ⟨_, rfl⟩
  obtain ⟨y4, hy4⟩ : ∃ y, y = txt (l.drop (q3 l)) := ⟨_, rfl⟩
  obtain ⟨x5, hx5⟩ : ∃ x, x = txt ((l.drop (q3 l)).take (if exq l then 1 else 0)) := ⟨_, rfl⟩
  obtain ⟨y5, hy5⟩ : ∃ y, y = txt (l.drop (if exq l then q3 l + 1 else q3 l)) := ⟨_, rfl⟩
  obtain ⟨x6, hx6⟩ : ∃ x, x = txt ((l.drop (q3 l + 1)).take (if sgn l then 1 else 0)) := ⟨_, rfl⟩
  obtain ⟨y6, hy6⟩ : ∃ y, y = txt (l.drop (q4 l)) := ⟨_, rfl⟩
  obtain ⟨x7, hx7⟩ : ∃ x, x = txt ((l.take (q5 l)).drop (q4 l)) := ⟨_, rfl⟩
  obtain ⟨y7, hy7⟩ : ∃ y, y = txt (l.drop (q5 l)) := ⟨_, rfl⟩
  obtain ⟨D, hD⟩ : ∃ D, D = decide (q4 l < q5 l ∧ bt l (q4 l - 1) = 45) := ⟨_, rfl⟩
  have eA : (decide (0 < l.length) && [(45 : UInt8)].contains (l.getD 0 0)) = decide (bt l 0 = 45) := one_at l 0 45 (by decide)
  have T1 := Lib.hid (fun (w : World) (o : Obj) => take_sign (l := l) (t := s) (x := x1) (y := y1) (wn := ⟨#[45]⟩) [45] 0 A w o rfl hs hm (by rw [hA, eA]) hx1 (by
    rw [hy1]; congr 2; unfold q0
    by_cases h : bt l 0 = 45
    · rw [if_pos h, if_pos (by rw [hA]; simp [h])]
    · rw [if_neg h, if_neg (by rw [hA]; simp [h])]))
  have T2 := Lib.hid (fun (w : World) (o : Obj) => take_run (l := l) (t := y1) (x := x2) (y := y2) (q0 l) s.size (q1 l) w o hy1 z1 hm hsz rfl hx2 hy2)
  have T3 := Lib.hid (fun (w : World) (o : Obj) => take_sign (l := l) (t := y2) (x := x3) (y := y3) (wn := ⟨#[46]⟩) [46] (q1 l) (dot l) w o rfl hy2 hm (by rw [one_at l _ 46 (by decide)]; rfl) hx3 (by rw [hy3]; rfl))
  have T4 := Lib.hid (fun (hd : dot l = true) (w : World) (o : Obj) => take_run (l := l) (t := y3) (x := x4) (y := y4) (q2 l) s.size (q3 l) w o hy3 z3 hm hsz (by unfold q3; rw [if_pos hd]) hx4 hy4)
  have T5 := Lib.hid (fun (w : World) (o : Obj) => take_sign (l := l) (t := y4) (x := x5) (y := y5) (wn := ⟨#[101, 69]⟩) [101, 69] (q3 l) (exq l) w o rfl hy4 hm (by rw [two_at l _ 101 69 (by decide) (by decide)]; rfl) hx5 hy5)
  have T6 := Lib.hid (fun (he : exq l = true) (w : World) (o : Obj) => take_sign (l := l) (t := y5) (x := x6) (y := y6) (wn := ⟨#[43, 45]⟩) [43, 45] (q3 l + 1) (sgn l) w o rfl (by rw [hy5, if_pos he]) hm (by rw [two_at l _ 43 45 (by decide) (by decide)]; rfl) hx6 (by rw [hy6]; unfold q4; rw [if_pos he]))
  have T7 := Lib.hid (fun (he : exq l = true) (w : World) (o : Obj) => take_run (l := l) (t := y6) (x := x7) (y := y7) (q4 l) s.size (q5 l) w o hy6 z5 hm hsz (by unfold q5; rw [if_pos he]) hx7 hy7)
  -- which are empty
  have v1 : x1.toList.isEmpty = !A := by rw [hx1]; exact sign_empty (fun h => by rw [hA] at h; exact pos_at (by have := of_decide_eq_true h; omega))
  have v2 : x2.toList.isEmpty = decide (q1 l = q0 l) := by rw [hx2]; exact mid_empty l o1 z2
  have v3 : x3.toList.isEmpty = !dot l := by rw [hx3]; exact sign_empty (fun h => by unfold dot at h; exact pos_at (by have := of_decide_eq_true h; omega))
  have v4 : x4.toList.isEmpty = decide (q3 l = q2 l) := by rw [hx4]; exact mid_empty l o3 z4
  have v5 : x5.toList.isEmpty = !exq l := by rw [hx5]; exact sign_empty (fun h => by unfold exq at h; exact pos_at (by have := of_decide_eq_true h; omega))
  have v7 : x7.toList.isEmpty = decide (q5 l = q4 l) := by rw [hx7]; exact mid_empty l o5 o6
  have v8 : y7.toList.isEmpty = decide (q5 l = l.length) := by rw [hy7]; exact drop_empty l o6
  have V6 : exq l = true → q5 l ≠ q4 l → (x6.toList == [45]) = D := by
    intro he hne
    have e4 : q4 l = if sgn l = true then q3 l + 1 + 1 else q3 l + 1 := by unfold q4; rw [if_pos he]
    rw [hx6, txt_list, hD]
    cases hsg : sgn l
    · rw [hsg] at e4
      have hq : q4 l - 1 = q3 l := by rw [e4]; simp
      rw [hq]
      unfold exq at he
      have he' := of_decide_eq_true he
      rw [show decide (q4 l < q5 l ∧ bt l (q3 l) = 45) = false by simp; omega]
      rfl
    · rw [hsg] at e4
      have hq : q4 l - 1 = q3 l + 1 := by rw [e4]; simp
      rw [hq]
      unfold sgn at hsg
      have hp : q3 l + 1 < l.length := pos_at (by have := of_decide_eq_true hsg; omega)
      rw [show (l.drop (q3 l + 1)).take (if true = true then 1 else 0) = [l.getD (q3 l + 1) 0] by
        rw [if_pos rfl, List.drop_eq_getElem_cons hp]; show [l[q3 l + 1]] = _; simp [hp]]
      rw [leq, show decide (q4 l < q5 l ∧ bt l (q3 l + 1) = 45) = decide (bt l (q3 l + 1) = 45) by congr 1; simp; omega]
      congr 1
      unfold bt
      rw [List.cons.injEq, ← UInt8.toNat_inj]; simp; omega
  have s2 : x2.size = q1 l - q0 l := by rw [hx2, txt_size]; simp; omega
  have b2 : q1 l ≠ q0 l → bt ((l.take (q1 l)).drop (q0 l)) 0 = bt l (q0 l) := fun h => by rw [bt_drop, Nat.add_zero, bt_take l (by omega)]
  have HX2 := Lib.hid hx2
  have n4 : dot l = false → x4 = ⟨#[]⟩ ∧ y4 = y3 ∧ y3 = y2 := fun h => by
    have e2 : q2 l = q1 l := by unfold q2; rw [h]; rfl
    have e3 : q3 l = q1 l := by unfold q3; rw [h]; rfl
    exact ⟨by rw [hx4, e2, e3, mid_nil], by rw [hy4, hy3, e2, e3], by rw [hy3, hy2, e2]⟩
  have n7 : exq l = false → x7 = ⟨#[]⟩ ∧ y7 = y5 ∧ D = false := fun h => by
    have e4 : q4 l = q3 l := by unfold q4; rw [h]; rfl
    have e5 : q5 l = q3 l := by unfold q5; rw [h]; rfl
    exact ⟨by rw [hx7, e4, e5, mid_nil], by rw [hy7, hy5, e5, h]; rfl, by rw [hD, e4, e5]; simp⟩
  have HE := Lib.hid (show isB l = true → A = decide (bt l 0 = 45) ∧ x2 = txt ((l.take (q1 l)).drop (q0 l)) ∧ x4 = txt ((l.take (q3 l)).drop (q2 l)) ∧ D = decide (q4 l < q5 l ∧ bt l (q4 l - 1) = 45) ∧ x7 = txt ((l.take (q5 l)).drop (q4 l)) from fun _ => ⟨hA, hx2, hx4, hD, hx7⟩)
  have HB := Lib.hid (show isB l = (!bad1 l && (!dot l || decide (q3 l ≠ q2 l)) && (!exq l || decide (q5 l ≠ q4 l)) && decide (q5 l = l.length)) from rfl)
  have hbad : bad1 l = decide (q1 l = q0 l ∨ bt l (q0 l) = 48 ∧ q0 l + 1 < q1 l) := rfl
  have HZ := Lib.hid hsz
  have HV2 := Lib.hid v2
  have HV6 := Lib.hid V6
  have HV4 := Lib.hid v4
  have HV5 := Lib.hid v5
  have HV7 := Lib.hid v7
  have HV8 := Lib.hid v8
  have HV3 := Lib.hid v3
  have HV1 := Lib.hid v1
  have N4 := Lib.hid n4
  have N7 := Lib.hid n7
  have HS2 := Lib.hid s2
  have HB2 := Lib.hid b2
  have HBAD := Lib.hid hbad
  have O1 := Lib.hid o1
  have O6 := Lib.hid o6
  have hs1 : s.size ≤ 1000000 := by omega
  have Z2 := Lib.hid z2
  clear hs hm hsz hA hx1 hy1 hx2 hy2 hx3 hy3 hx4 hy4 hx5 hy5 hx6 hy6 hx7 hy7 hD eA v1 v2 v3 v4 v5 v7 v8 V6 s2 b2 n4 n7 hbad o1 o2 o3 o4 o5 o6 o7 o8 z1 z2 z3 z4 z5
  go_enter Tryz.func208, Tryz.ntmps208
  go_wp2_with fail
  refine (T1.out _ _).mono ?_
  rintro e w1 ⟨rfl, rfl⟩
  go_wp2_with fail
  refine (T2.out _ _).mono ?_
  rintro e w1 ⟨rfl, rfl⟩
  rw [HV1.out]
  go_upto_region 5 with fail
  go_cut [31] (fun x wx => x = .bool (bad1 l) ∧ wx = (w.alloc (tx y2)).alloc (wrt A x2 ⟨#[]⟩ false ⟨#[]⟩))
  case first =>
    by_cases g1 : q1 l = q0 l
    · have E := Lib.hid (show bad1 l = true by rw [HBAD.out]; simp [g1])
      have g2 : x2.toList.isEmpty = true := by rw [HV2.out]; simp [g1]
      clear g1
      go_wp2_with fail
      go_meet
      exact ⟨by rw [E.out], rfl⟩
    · have g2 : x2.toList.isEmpty = false := by rw [HV2.out]; simp [g1]
      have g3 : 0 < x2.size := by have := HS2.out; have := O1.out; omega
      have hx := txt_at HX2.out (k := 0)
      rw [HB2.out g1] at hx
      by_cases g4 : bt l (q0 l) = 48
      · by_cases g5 : 1 < x2.size
        · have E := Lib.hid (show bad1 l = true by rw [HBAD.out]; have := HS2.out; simp [g4]; omega)
          clear g1
          go_wp2_with fail
          go_meet
          exact ⟨by rw [E.out]; simp; omega, rfl⟩
        · have E := Lib.hid (show bad1 l = false by rw [HBAD.out]; have := HS2.out; simp [g4, g1]; omega)
          clear g1
          go_wp2_with fail
          go_meet
          exact ⟨by rw [E.out]; simp; omega, rfl⟩
      · have E := Lib.hid (show bad1 l = false by rw [HBAD.out]; simp [g4, g1])
        clear g1
        go_wp2_with fail
        go_meet
        exact ⟨by rw [E.out], rfl⟩
  case rest =>
    obtain ⟨rfl, rfl⟩ := hcut
    clear HBAD HB2 HX2 T1 T2 HV1 HV2 HS2
    by_cases hbad : bad1 l = true
    · have E : isB l = false := by rw [HB.out, hbad]; rfl
      rw [hbad]
      clear hbad
      go_wp2_with fail
      refine bodyPost_ret (v := .tuple #[.agg #[.bool false, .string ⟨#[]⟩, .string ⟨#[]⟩, .bool false, .string ⟨#[]⟩], .bool false]) (by simp [results, Tryz.results208, go_sem]) rfl ?_
      exact ⟨_, _, _, _, _, by rw [E], fun h => by rw [E] at h; (cases h), _, _, rfl⟩
    · have hbad : bad1 l = false := by simpa using hbad
      rw [hbad]
      have HB1 := Lib.hid hbad
      clear hbad
      go_wp2_with fail
      refine (T3.out _ _).mono ?_
      rintro e w1 ⟨rfl, rfl⟩
      go_upto_if 35 with fail
      rw [HV3.out]
      go_cut [5] (fun x wx => x = .int .i64 s.size ∧ (dot l = true → q3 l ≠ q2 l) ∧ wx = (w.alloc (tx y4)).alloc (wrt A x2 x4 false ⟨#[]⟩))
      case first =>
        by_cases hd : dot l = true
        · have HD := Lib.hid hd
          rw [hd]
          clear hd
          by_cases g : q3 l = q2 l
          · have E : isB l = false := by rw [HB.out, HB1.out, HD.out]; simp [g]
            have g1 : x4.toList.isEmpty = true := by rw [HV4.out]; simp [g]
            clear g
            go_wp2_with fail
            refine (T4.out HD.out _ _).mono ?_
            rintro e w1 ⟨rfl, rfl⟩
            go_wp2_with fail
            refine bodyPost_ret (v := .tuple #[.agg #[.bool false, .string ⟨#[]⟩, .string ⟨#[]⟩, .bool false, .string ⟨#[]⟩], .bool false]) (by simp [results, Tryz.results208, go_sem]) rfl ?_
            exact ⟨_, _, _, _, _, by rw [E], fun h => by rw [E] at h; (cases h), _, _, rfl⟩
          · have g1 : x4.toList.isEmpty = false := by rw [HV4.out]; simp [g]
            have HG := Lib.hid g
            clear g
            go_wp2_with fail
            refine (T4.out HD.out _ _).mono ?_
            rintro e w1 ⟨rfl, rfl⟩
            go_wp2_with fail
            go_meet
            exact ⟨rfl, fun _ => HG.out, rfl⟩
        · have hd : dot l = false := by simpa using hd
          have HD := Lib.hid hd
          have E4 := Lib.hid (N4.out hd)
          rw [hd]
          clear hd
          go_wp2_with fail
          go_meet
          exact ⟨rfl, fun h => by rw [HD.out] at h; (cases h), by rw [E4.out.1, E4.out.2.1, E4.out.2.2]⟩
      case rest =>
        obtain ⟨rfl, hdg, rfl⟩ := hcut
        have HDG := Lib.hid hdg
        clear hdg T3 T4 HV3 HV4 N4
        go_wp2_with fail
        refine (T5.out _ _).mono ?_
        rintro e w1 ⟨rfl, rfl⟩
        go_upto_if 46 with fail
        rw [HV5.out]
        go_cut [5] (fun x wx => x = .int .i64 s.size ∧ (exq l = true → q5 l ≠ q4 l) ∧ wx = (w.alloc (tx y7)).alloc (wrt A x2 x4 D x7))
        case first =>
          by_cases hd : exq l = true
          · have HD := Lib.hid hd
            rw [hd]
            clear hd
            by_cases g : q5 l = q4 l
            · have E : isB l = false := by rw [HB.out, HB1.out, HD.out]; simp [g]
              have g1 : x7.toList.isEmpty = true := by rw [HV7.out]; simp [g]
              clear g
              go_wp2_with fail
              refine (T6.out HD.out _ _).mono ?_
              rintro e w1 ⟨rfl, rfl⟩
              go_wp2_with fail
              refine (T7.out HD.out _ _).mono ?_
              rintro e w1 ⟨rfl, rfl⟩
              go_wp2_with fail
              refine bodyPost_ret (v := .tuple #[.agg #[.bool false, .string ⟨#[]⟩, .string ⟨#[]⟩, .bool false, .string ⟨#[]⟩], .bool false]) (by simp [results, Tryz.results208, go_sem]) rfl ?_
              exact ⟨_, _, _, _, _, by rw [E], fun h => by rw [E] at h; (cases h), _, _, rfl⟩
            · have g1 : x7.toList.isEmpty = false := by rw [HV7.out]; simp [g]
              have g6 := HV6.out HD.out g
              have HG := Lib.hid g
              clear g
              go_wp2_with fail
              refine (T6.out HD.out _ _).mono ?_
              rintro e w1 ⟨rfl, rfl⟩
              go_wp2_with fail
              refine (T7.out HD.out _ _).mono ?_
              rintro e w1 ⟨rfl, rfl⟩
              go_wp2_with fail
              go_meet
              exact ⟨rfl, fun _ => HG.out, rfl⟩
          · have hd : exq l = false := by simpa using hd
            have HD := Lib.hid hd
            have E7 := Lib.hid (N7.out hd)
            rw [hd]
            clear hd
            go_wp2_with fail
            go_meet
            exact ⟨rfl, fun h => by rw [HD.out] at h; (cases h), by rw [E7.out.1, E7.out.2.1, E7.out.2.2]⟩
        case rest =>
          obtain ⟨rfl, heg, rfl⟩ := hcut
          have HEG := Lib.hid heg
          clear heg T5 T6 T7 HV5 HV6 HV7 N7
          by_cases g : q5 l = l.length
          · have E : isB l = true := by
              rw [HB.out, HB1.out]
              have h1 := HDG.out
              have h2 := HEG.out
              cases hd : dot l <;> cases he : exq l <;> simp_all
            have g1 : y7.toList.isEmpty = true := by rw [HV8.out]; simp [g]
            clear g
            go_wp2_with fail
            refine bodyPost_ret (v := .tuple #[.agg #[.bool A, .string x2, .string x4, .bool D, .string x7], .bool true]) (by simp [results, Tryz.results208, go_sem]) rfl ?_
            exact ⟨_, _, _, _, _, by rw [E], HE.out, _, _, rfl⟩
          · have E : isB l = false := by rw [HB.out]; simp [g]
            have g1 : y7.toList.isEmpty = false := by rw [HV8.out]; simp [g]
            clear g
            go_wp2_with fail
            refine bodyPost_ret (v := .tuple #[.agg #[.bool false, .string ⟨#[]⟩, .string ⟨#[]⟩, .bool false, .string ⟨#[]⟩], .bool false]) (by simp [results, Tryz.results208, go_sem]) rfl ?_
            exact ⟨_, _, _, _, _, by rw [E], fun h => by rw [E] at h; (cases h), _, _, rfl⟩
end Go.Proofs.YtbeefjhcbphiaaaGreatDoor.De
