/- What landed: a text's value, its normal form; is a text a normal form; how two stand. -/
import Derived.Test.YthjlnafmpcppfaaGreatDoorJJ
import Derived.Test.YthjlnafmpcppfaaGreatDoorJu
namespace Go.Proofs.YthjlnafmpcppfaaGreatDoor.II
open Go.RowKit

/-- What the laws find when they are called: the table of radixes, the library's powers. -/
def Tab (w : World) : Prop := Rads w ∧ Tab10 w
theorem Tab.below {W w : World} (h : Tab W) (hb : Below W.heap.size W w) : Tab w := ⟨h.1.below hb, h.2.below hb⟩
/-- A reading: its value, and what is told. -/
def RdI (l : List UInt8) (n c : Int) : Prop := c = 0 ∧ In.rd l = .ok (In.nfI n) ∧ In.fits n ∨ c = 3 ∧ n = 0 ∧ In.rd l = .syn ∨ c = 8 ∧ n = 0 ∧ In.rd l = .big
theorem pre_base (l : List UInt8) : 2 ≤ (In.pre l).1 ∧ (In.pre l).1 ≤ 16 ∧ (In.pre l).2.2.length ≤ l.length := by
  cases hr : rdx l
  · obtain ⟨m, r, h, hl⟩ := sgn_pre hr
    rw [h]; exact ⟨by simp, by simp, hl⟩
  · rw [pre_rdx hr]
    have := pbs_le l
    exact ⟨this.1, this.2.1, by simp⟩
set_option maxHeartbeats 4000000 in
set_option maxRecDepth 100000 in
theorem pread0_is {l : List UInt8} {s : ByteArray} (hs : s = txt l) (hl : l.length ≤ 100000) : ∃ n c, RdI l n c ∧ ∀ w, Rads w →
    Calls Tryz.prog 35 #[.string s] w fun e w' => e = .returned (.tuple #[.int .i64 n, .int .i64 c]) ∧ Below w.heap.size w w' := by
  obtain ⟨hb2, hb16, hrl⟩ := pre_base l
  have H1 := Lib.hid (fun w h => psplit_is w hs hl h (rfl : spv l = _))
  obtain ⟨b, m, r, hp⟩ : ∃ b m r, In.pre l = (b, m, r) := ⟨_, _, _, rfl⟩
  rw [hp] at hb2 hb16 hrl
  have hrd : In.rd l = In.body b m r := by rw [In.rd, hp]
  cases hg : In.good b r
  · rw [spv_off hp hg] at H1
    refine ⟨0, 3, .inr (.inl ⟨rfl, rfl, by rw [hrd]; exact In.body_bad hg⟩), fun w hT => ?_⟩
    have HT := Lib.hid hT
    clear hs hl hb2 hb16 hrl hp hrd hg hT
    go_enter Tryz.func35, Tryz.ntmps35
    go_wp2_with fail
    refine (H1.out _ HT.out).mono ?_
    rintro e w1 ⟨rfl, hb⟩
    have HB := Lib.hid hb
    clear hb
    go_wp2_with fail
    go_ret2
    exact ⟨rfl, HB.out.alloc HB.out.size _⟩
  · rw [spv_on hp hg] at H1
    obtain ⟨v, hv, hbd, ho⟩ := In.body_good (m := m) hg
    have ha : In.amt b (In.lim m) 0 r = if v ≤ In.lim m then some v else none := In.vl_amt (by omega) (by have := In.lim_le m; omega) r false 0 v (Nat.zero_le _) hv
    obtain ⟨T, hTT⟩ : ∃ T, T = txt r := ⟨_, rfl⟩
    rw [← hTT] at H1
    have H2 := Lib.hid (fun w => pvalue_is (m := m) w hTT (by simp only at hrl; omega) hb2 hb16 ho (rfl : vav m _ = _))
    rw [ha] at H2
    by_cases hq : v ≤ In.lim m
    · rw [if_pos hq, vav] at H2
      have hf : In.fits (In.sg2 m v) := by
        have := In.lim_le m
        unfold In.fits In.sg2
        cases m
        · simp [In.lim] at hq ⊢; omega
        · simp [In.lim] at hq ⊢; omega
      obtain ⟨n, hn⟩ : ∃ n, n = In.sg2 m v := ⟨_, rfl⟩
      rw [← hn] at H2 hf
      refine ⟨n, 0, .inl ⟨rfl, by rw [hrd, hbd, In.fin_some, if_pos hq, hn], hf⟩, fun w hT => ?_⟩
      have HT := Lib.hid hT
      clear hs hl hb2 hb16 hrl hp hrd hg hT hv hbd ho ha hTT hq hf hn
      go_enter Tryz.func35, Tryz.ntmps35
      go_wp2_with fail
      refine (H1.out _ HT.out).mono ?_
      rintro e w1 ⟨rfl, hb⟩
      have HB := Lib.hid hb
      clear hb
      go_wp2_with fail
      refine (H2.out _).mono ?_
      rintro e w2 ⟨rfl, hb⟩
      have HB2 := Lib.hid (HB.out.trans (below_alloc hb |>.mono HB.out.size))
      clear hb
      go_wp2_with fail
      go_ret2
      exact ⟨rfl, HB2.out⟩
    · rw [if_neg hq, vav] at H2
      refine ⟨0, 8, .inr (.inr ⟨rfl, rfl, by rw [hrd, hbd, In.fin_some, if_neg hq]⟩), fun w hT => ?_⟩
      have HT := Lib.hid hT
      clear hs hl hb2 hb16 hrl hp hrd hg hT hv hbd ho ha hTT hq
      go_enter Tryz.func35, Tryz.ntmps35
      go_wp2_with fail
      refine (H1.out _ HT.out).mono ?_
      rintro e w1 ⟨rfl, hb⟩
      have HB := Lib.hid hb
      clear hb
      go_wp2_with fail
      refine (H2.out _).mono ?_
      rintro e w2 ⟨rfl, hb⟩
      have HB2 := Lib.hid (HB.out.trans (below_alloc hb |>.mono HB.out.size))
      clear hb
      go_wp2_with fail
      go_ret2
      exact ⟨rfl, HB2.out⟩
theorem pform_is {n : Int} (h : In.fits n) (w : World) (ht : Tab10 w) :
    Calls Tryz.prog 36 #[.int .i64 n] w fun e w' => e = .returned (.string (txt (In.nfI n))) ∧ Below w.heap.size w w' := by
  have H1 := Lib.hid (fint10_any h w ht)
  clear h ht
  go_enter Tryz.func36, Tryz.ntmps36
  go_wp2_with fail
  refine H1.out.mono ?_
  rintro e w1 ⟨rfl, hb⟩
  have HB := Lib.hid hb
  clear hb
  go_wp2_with fail
  go_ret
  exact ⟨rfl, HB.out⟩
theorem pread_is {l : List UInt8} {s : ByteArray} {R : In.R} (w : World) (hs : s = txt l) (hl : l.length ≤ 100000) (hR : R = In.rd l) (hT : Tab w) :
    Calls Tryz.prog 18 #[.string s] w fun e w' => e = .returned (irv R) ∧ Below w.heap.size w w' := by
  obtain ⟨n, c, hI, H1⟩ := pread0_is hs hl
  have H1 := Lib.hid (H1 w hT.1)
  have HT := Lib.hid hT
  clear hs hl hT
  rcases hI with ⟨rfl, hr, hf⟩ | ⟨rfl, rfl, hr⟩ | ⟨rfl, rfl, hr⟩
  · obtain rfl : R = .ok (In.nfI n) := by rw [hR, hr]
    obtain ⟨S, hS⟩ : ∃ S, S = txt (In.nfI n) := ⟨_, rfl⟩
    have H2 := Lib.hid (fun w h => pform_is hf w h)
    rw [irv, ← hS]
    rw [← hS] at H2
    clear hR hr hf hS
    go_enter Tryz.func18, Tryz.ntmps18
    go_wp2_with fail
    refine H1.out.mono ?_
    rintro e w1 ⟨rfl, hb⟩
    have HB := Lib.hid hb
    clear hb
    go_wp2_with fail
    refine (H2.out _ (HT.out.2.below HB.out)).mono ?_
    rintro e w2 ⟨rfl, hb⟩
    have HB2 := Lib.hid (below_tr HB.out hb)
    clear hb
    go_wp2_with fail
    go_ret2
    exact ⟨rfl, HB2.out⟩
  · obtain rfl : R = .syn := by rw [hR, hr]
    rw [irv]
    clear hR hr
    go_enter Tryz.func18, Tryz.ntmps18
    go_wp2_with fail
    refine H1.out.mono ?_
    rintro e w1 ⟨rfl, hb⟩
    have HB := Lib.hid hb
    clear hb
    go_wp2_with fail
    go_ret2
    exact ⟨rfl, HB.out⟩
  · obtain rfl : R = .big := by rw [hR, hr]
    rw [irv]
    clear hR hr
    go_enter Tryz.func18, Tryz.ntmps18
    go_wp2_with fail
    refine H1.out.mono ?_
    rintro e w1 ⟨rfl, hb⟩
    have HB := Lib.hid hb
    clear hb
    go_wp2_with fail
    go_ret2
    exact ⟨rfl, HB.out⟩
end Go.Proofs.YthjlnafmpcppfaaGreatDoor.II
