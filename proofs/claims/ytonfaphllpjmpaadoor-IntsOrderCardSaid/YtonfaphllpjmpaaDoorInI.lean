/- What landed: a text's value, its normal form; is a text a normal form; how two stand. -/
import Derived.Test.YtonfaphllpjmpaaDoorPh
import Derived.Test.YtonfaphllpjmpaaDoorInU
namespace Go.Proofs.YtonfaphllpjmpaaDoor
open Go.RowKit

/-- What the laws find when they are called: the table of radixes, the library's powers. -/
def Tab (w : World) : Prop := Rads w ∧ Tab10 w
theorem Tab.below {W w : World} (h : Tab W) (hb : Below W.heap.size W w) : Tab w := ⟨h.1.below hb, h.2.below hb⟩
/-- A reading: its value, and what is told. -/
def RdI (l : List UInt8) (n c : Int) : Prop := c = 0 ∧ In.rd l = .ok (In.nfI n) ∧ In.fits n ∨ c = 3 ∧ n = 0 ∧ In.rd l = .syn ∨ c = 8 ∧ n = 0 ∧ In.rd l = .big
theorem pre_base (l : List UInt8) : 2 ≤ (In.pre l).1 ∧ (In.pre l).1 ≤ 16 ∧ (In.pre l).2.2.length ≤ l.length := by
  cases hr : rdx l
  · obtain ⟨m, r, h, hl⟩ := sgn_pre hr
    rw [h]; exact ⟨by simp, by simp, hl⟩
  · rw [pre_rdx hr]
    have := pbs_le l
    exact ⟨this.1, this.2.1, by simp⟩
set_option maxHeartbeats 4000000 in
set_option maxRecDepth 100000 in
theorem pread0_is {l : List UInt8} {s : ByteArray} (hs : s = txt l) (hl : l.length ≤ 100000) : ∃ n c, RdI l n c ∧ ∀ w, Rads w →
    Calls Tryd.prog 22 #[.string s] w fun e w' => e = .returned (.tuple #[.int .i64 n, .int .i64 c]) ∧ Below w.heap.size w w' := by
  obtain ⟨hb2, hb16, hrl⟩ := pre_base l
  have H1 := Lib.hid (fun w h => psplit_is w hs hl h (rfl : spv l = _))
  obtain ⟨b, m, r, hp⟩ : ∃ b m r, In.pre l = (b, m, r) := ⟨_, _, _, rfl⟩
  rw [hp] at hb2 hb16 hrl
  have hrd : In.rd l = In.body b m r := by rw [In.rd, hp]
  cases hg : In.good b r
  · rw [spv_off hp hg] at H1
    refine ⟨0, 3, .inr (.inl ⟨rfl, rfl, by rw [hrd]; exact In.body_bad hg⟩), fun w hT => ?_⟩
    have HT := Lib.hid hT
    clear hs hl hb2 hb16 hrl hp hrd hg hT
    go_enter Tryd.func22, Tryd.ntmps22
    go_wp2_with fail
    refine (H1.out _ HT.out).mono ?_
    rintro e w1 ⟨rfl, hb⟩
    have HB := Lib.hid hb
    clear hb
    go_wp2_with fail
    go_ret2
    exact ⟨rfl, HB.out.alloc HB.out.size _⟩
  · rw [spv_on hp hg] at H1
    obtain ⟨v, hv, hbd, ho⟩ := In.body_good (m := m) hg
    have ha : In.amt b (In.lim m) 0 r = if v ≤ In.lim m then some v else none := In.vl_amt (by omega) (by have := In.lim_le m; omega) r false 0 v (Nat.zero_le _) hv
    obtain ⟨T, hTT⟩ : ∃ T, T = txt r := ⟨_, rfl⟩
    rw [← hTT] at H1
    have H2 := Lib.hid (fun w => pvalue_is (m := m) w hTT (by simp only at hrl; omega) hb2 hb16 ho (rfl : vav m _ = _))
    rw [ha] at H2
    by_cases hq : v ≤ In.lim m
    · rw [if_pos hq, vav] at H2
      have hf : In.fits (In.sg2 m v) := by
        have := In.lim_le m
        unfold In.fits In.sg2
        cases m
        · simp [In.lim] at hq ⊢; omega
        · simp [In.lim] at hq ⊢; omega
      obtain ⟨n, hn⟩ : ∃ n, n = In.sg2 m v := ⟨_, rfl⟩
      rw [← hn] at H2 hf
      refine ⟨n, 0, .inl ⟨rfl, by rw [hrd, hbd, In.fin_some, if_pos hq, hn], hf⟩, fun w hT => ?_⟩
      have HT := Lib.hid hT
      clear hs hl hb2 hb16 hrl hp hrd hg hT hv hbd ho ha hTT hq hf hn
      go_enter Tryd.func22, Tryd.ntmps22
      go_wp2_with fail
      refine (H1.out _ HT.out).mono ?_
      rintro e w1 ⟨rfl, hb⟩
      have HB := Lib.hid hb
      clear hb
      go_wp2_with fail
      refine (H2.out _).mono ?_
      rintro e w2 ⟨rfl, hb⟩
      have HB2 := Lib.hid (HB.out.trans (below_alloc hb |>.mono HB.out.size))
      clear hb
      go_wp2_with fail
      go_ret2
      exact ⟨rfl, HB2.out⟩
    · rw [if_neg hq, vav] at H2
      refine ⟨0, 8, .inr (.inr ⟨rfl, rfl, by rw [hrd, hbd, In.fin_some, if_neg hq]⟩), fun w hT => ?_⟩
      have HT := Lib.hid hT
      clear hs hl hb2 hb16 hrl hp hrd hg hT hv hbd ho ha hTT hq
      go_enter Tryd.func22, Tryd.ntmps22
      go_wp2_with fail
      refine (H1.out _ HT.out).mono ?_
      rintro e w1 ⟨rfl, hb⟩
      have HB := Lib.hid hb
      clear hb
      go_wp2_with fail
      refine (H2.out _).mono ?_
      rintro e w2 ⟨rfl, hb⟩
      have HB2 := Lib.hid (HB.out.trans (below_alloc hb |>.mono HB.out.size))
      clear hb
      go_wp2_with fail
      go_ret2
      exact ⟨rfl, HB2.out⟩
theorem pform_is {n : Int} (h : In.fits n) (w : World) (ht : Tab10 w) :
    Calls Tryd.prog 23 #[.int .i64 n] w fun e w' => e = .returned (.string (txt (In.nfI n))) ∧ Below w.heap.size w w' := by
  have H1 := Lib.hid (fint10_any h w ht)
  clear h ht
  go_enter Tryd.func23, Tryd.ntmps23
  go_wp2_with fail
  refine H1.out.mono ?_
  rintro e w1 ⟨rfl, hb⟩
  have HB := Lib.hid hb
  clear hb
  go_wp2_with fail
  go_ret
  exact ⟨rfl, HB.out⟩
theorem pread_is {l : List UInt8} {s : ByteArray} {R : In.R} (w : World) (hs : s = txt l) (hl : l.length ≤ 100000) (hR : R = In.rd l) (hT : Tab w) :
    Calls Tryd.prog 9 #[.string s] w fun e w' => e = .returned (irv R) ∧ Below w.heap.size w w' := by
  obtain ⟨n, c, hI, H1⟩ := pread0_is hs hl
  have H1 := Lib.hid (H1 w hT.1)
  have HT := Lib.hid hT
  clear hs hl hT
  rcases hI with ⟨rfl, hr, hf⟩ | ⟨rfl, rfl, hr⟩ | ⟨rfl, rfl, hr⟩
  · obtain rfl : R = .ok (In.nfI n) := by rw [hR, hr]
    obtain ⟨S, hS⟩ : ∃ S, S = txt (In.nfI n) := ⟨_, rfl⟩
    have H2 := Lib.hid (fun w h => pform_is hf w h)
    rw [irv, ← hS]
    rw [← hS] at H2
    clear hR hr hf hS
    go_enter Tryd.func9, Tryd.ntmps9
    go_wp2_with fail
    refine H1.out.mono ?_
    rintro e w1 ⟨rfl, hb⟩
    have HB := Lib.hid hb
    clear hb
    go_wp2_with fail
    refine (H2.out _ (HT.out.2.below HB.out)).mono ?_
    rintro e w2 ⟨rfl, hb⟩
    have HB2 := Lib.hid (below_tr HB.out hb)
    clear hb
    go_wp2_with fail
    go_ret2
    exact ⟨rfl, HB2.out⟩
  · obtain rfl : R = .syn := by rw [hR, hr]
    rw [irv]
    clear hR hr
    go_enter Tryd.func9, Tryd.ntmps9
    go_wp2_with fail
    refine H1.out.mono ?_
    rintro e w1 ⟨rfl, hb⟩
    have HB := Lib.hid hb
    clear hb
    go_wp2_with fail
    go_ret2
    exact ⟨rfl, HB.out⟩
  · obtain rfl : R = .big := by rw [hR, hr]
    rw [irv]
    clear hR hr
    go_enter Tryd.func9, Tryd.ntmps9
    go_wp2_with fail
    refine H1.out.mono ?_
    rintro e w1 ⟨rfl, hb⟩
    have HB := Lib.hid hb
    clear hb
    go_wp2_with fail
    go_ret2
    exact ⟨rfl, HB.out⟩
/-- The value of a normal form; 0 of others. -/
def knv (l : List UInt8) : Value := if In.nor l = true then .tuple #[.int .i64 (In.val l), .bool true] else .tuple #[.int .i64 0, .bool false]
theorem pknown_is {l : List UInt8} {s : ByteArray} {v : Value} (w : World) (hs : s = txt l) (hl : l.length ≤ 100000) (hT : Tab w) (hv : v = knv l) :
    Calls Tryd.prog 27 #[.string s] w fun e w' => e = .returned v ∧ Below w.heap.size w w' := by
  obtain ⟨n, c, hI, H1⟩ := pread0_is hs hl
  have H1 := Lib.hid (H1 w hT.1)
  have HT := Lib.hid hT
  clear hl hT
  rcases hI with ⟨rfl, hr, hf⟩ | ⟨rfl, rfl, hr⟩ | ⟨rfl, rfl, hr⟩
  · obtain ⟨S, hS⟩ : ∃ S, S = txt (In.nfI n) := ⟨_, rfl⟩
    have H2 := Lib.hid (fun w h => pform_is hf w h)
    rw [← hS] at H2
    have hq := iseq_txt hS hs
    by_cases he : In.nfI n = l
    · rw [decide_eq_true he] at hq
      have F := Lib.hid (show v = .tuple #[.int .i64 n, .bool true] by rw [hv, ← he, knv, if_pos (In.nor_nfI hf), In.val_nfI])
      clear hs hv hr hf hS he
      go_enter Tryd.func27, Tryd.ntmps27
      go_wp2_with fail
      refine H1.out.mono ?_
      rintro e w1 ⟨rfl, hb⟩
      have HB := Lib.hid hb
      clear hb
      go_wp2_with fail
      refine (H2.out _ (HT.out.2.below HB.out)).mono ?_
      rintro e w2 ⟨rfl, hb⟩
      have HB2 := Lib.hid (below_tr HB.out hb)
      clear hb
      go_wp2_with fail
      go_ret2
      exact ⟨by rw [F.out]; rfl, HB2.out⟩
    · rw [decide_eq_false he] at hq
      have hnor : In.nor l = false := by
        rw [In.nor, decide_eq_false_iff_not, hr]
        intro h; injection h with h; exact he h
      have F := Lib.hid (show v = .tuple #[.int .i64 0, .bool false] by rw [hv, knv, if_neg (by rw [hnor]; simp)])
      clear hs hv hr hf hS he hnor
      go_enter Tryd.func27, Tryd.ntmps27
      go_wp2_with fail
      refine H1.out.mono ?_
      rintro e w1 ⟨rfl, hb⟩
      have HB := Lib.hid hb
      clear hb
      go_wp2_with fail
      refine (H2.out _ (HT.out.2.below HB.out)).mono ?_
      rintro e w2 ⟨rfl, hb⟩
      have HB2 := Lib.hid (below_tr HB.out hb)
      clear hb
      go_wp2_with fail
      go_ret2
      exact ⟨by rw [F.out]; rfl, HB2.out⟩
  all_goals
    have hnor : In.nor l = false := by
      rw [In.nor, decide_eq_false_iff_not, hr]
      intro h; cases h
    have F := Lib.hid (show v = .tuple #[.int .i64 0, .bool false] by rw [hv, knv, if_neg (by rw [hnor]; simp)])
    clear hs hv hr hnor
    go_enter Tryd.func27, Tryd.ntmps27
    go_wp2_with fail
    refine H1.out.mono ?_
    rintro e w1 ⟨rfl, hb⟩
    have HB := Lib.hid hb
    clear hb
    go_wp2_with fail
    go_ret2
    exact ⟨by rw [F.out]; rfl, HB.out⟩
theorem isnan_is (n : Int) (w : World) : Calls Tryd.prog 41 #[.int .i64 n] w fun e w' => e = .returned (.bool false) ∧ w = w' := by
  go_enter Tryd.func41, Tryd.ntmps41
  go_wp2_with fail
  go_ret
  exact ⟨rfl, rfl⟩
theorem compare_is {a b x : Int} (w : World) (hx : x = In.sgn a b) : Calls Tryd.prog 21 #[.int .i64 a, .int .i64 b] w fun e w' => e = .returned (.int .i64 x) ∧ w = w' := by
  have HX := Lib.hid hx
  clear hx
  by_cases p : a < b
  · have E := Lib.hid (show x = -1 by rw [HX.out, In.sgn, if_pos p])
    go_enter Tryd.func21, Tryd.ntmps21
    go_wp2_with fail
    refine (isnan_is _ _).mono ?_
    rintro e w1 ⟨rfl, rfl⟩
    go_wp2_with fail
    refine (isnan_is _ _).mono ?_
    rintro e w1 ⟨rfl, rfl⟩
    go_wp2_with fail
    go_ret
    exact ⟨ret_int (by rw [E.out]), rfl⟩
  · by_cases q : b < a
    · have E := Lib.hid (show x = 1 by rw [HX.out, In.sgn, if_neg p, if_pos q])
      go_enter Tryd.func21, Tryd.ntmps21
      go_wp2_with fail
      refine (isnan_is _ _).mono ?_
      rintro e w1 ⟨rfl, rfl⟩
      go_wp2_with fail
      refine (isnan_is _ _).mono ?_
      rintro e w1 ⟨rfl, rfl⟩
      go_wp2_with fail
      go_ret
      exact ⟨ret_int (by rw [E.out]), rfl⟩
    · have E := Lib.hid (show x = 0 by rw [HX.out, In.sgn, if_neg p, if_neg q])
      go_enter Tryd.func21, Tryd.ntmps21
      go_wp2_with fail
      refine (isnan_is _ _).mono ?_
      rintro e w1 ⟨rfl, rfl⟩
      go_wp2_with fail
      refine (isnan_is _ _).mono ?_
      rintro e w1 ⟨rfl, rfl⟩
      go_wp2_with fail
      go_ret
      exact ⟨ret_int (by rw [E.out]), rfl⟩
theorem pcmp_is {l k : List UInt8} {s t : ByteArray} {x : Int} (w : World) (hs : s = txt l) (ht : t = txt k) (hl : l.length ≤ 100000) (hk : k.length ≤ 100000) (hx : x = In.cm l k) (hT : Tab w) :
    Calls Tryd.prog 11 #[.string s, .string t] w fun e w' => e = .returned (.int .i64 x) ∧ Below w.heap.size w w' := by
  have H1 := Lib.hid (fun w h => pknown_is w hs hl h (rfl : knv l = _))
  have H2 := Lib.hid (fun w h => pknown_is w ht hk h (rfl : knv k = _))
  have HT := Lib.hid hT
  clear hs ht hl hk hT
  cases p : In.nor l
  · have E := Lib.hid (show x = 0 by rw [hx, In.cm, if_neg (by rw [p]; simp)])
    have e1 : knv l = .tuple #[.int .i64 0, .bool false] := by rw [knv, if_neg (by rw [p]; simp)]
    rw [e1] at H1
    obtain ⟨a, d, e2⟩ : ∃ a d, knv k = .tuple #[.int .i64 a, .bool d] := by unfold knv; split <;> exact ⟨_, _, rfl⟩
    rw [e2] at H2
    clear hx p e1 e2
    go_enter Tryd.func11, Tryd.ntmps11
    go_wp2_with fail
    refine (H1.out _ HT.out).mono ?_
    rintro e w1 ⟨rfl, hb⟩
    have HB := Lib.hid hb
    clear hb
    go_wp2_with fail
    refine (H2.out _ (HT.out.below HB.out)).mono ?_
    rintro e w2 ⟨rfl, hb⟩
    have HB2 := Lib.hid (below_tr HB.out hb)
    clear hb
    go_wp2_with fail
    go_ret
    exact ⟨ret_int (by rw [E.out]), HB2.out⟩
  · have e1 : knv l = .tuple #[.int .i64 (In.val l), .bool true] := by rw [knv, if_pos p]
    rw [e1] at H1
    cases q : In.nor k
    · have E := Lib.hid (show x = 0 by rw [hx, In.cm, if_neg (by rw [q]; simp)])
      have e2 : knv k = .tuple #[.int .i64 0, .bool false] := by rw [knv, if_neg (by rw [q]; simp)]
      rw [e2] at H2
      clear hx p q e1 e2
      go_enter Tryd.func11, Tryd.ntmps11
      go_wp2_with fail
      refine (H1.out _ HT.out).mono ?_
      rintro e w1 ⟨rfl, hb⟩
      have HB := Lib.hid hb
      clear hb
      go_wp2_with fail
      refine (H2.out _ (HT.out.below HB.out)).mono ?_
      rintro e w2 ⟨rfl, hb⟩
      have HB2 := Lib.hid (below_tr HB.out hb)
      clear hb
      go_wp2_with fail
      go_ret
      exact ⟨ret_int (by rw [E.out]), HB2.out⟩
    · have e2 : knv k = .tuple #[.int .i64 (In.val k), .bool true] := by rw [knv, if_pos q]
      rw [e2] at H2
      have H3 := Lib.hid (fun w => compare_is (a := In.val l) (b := In.val k) (x := x) w (by rw [hx, In.cm, if_pos ⟨p, q⟩]))
      clear hx p q e1 e2
      go_enter Tryd.func11, Tryd.ntmps11
      go_wp2_with fail
      refine (H1.out _ HT.out).mono ?_
      rintro e w1 ⟨rfl, hb⟩
      have HB := Lib.hid hb
      clear hb
      go_wp2_with fail
      refine (H2.out _ (HT.out.below HB.out)).mono ?_
      rintro e w2 ⟨rfl, hb⟩
      have HB2 := Lib.hid (below_tr HB.out hb)
      clear hb
      go_wp2_with fail
      refine (H3.out _).mono ?_
      rintro e w3 ⟨rfl, rfl⟩
      go_wp2_with fail
      go_ret
      exact ⟨rfl, HB2.out⟩
end Go.Proofs.YtonfaphllpjmpaaDoor
