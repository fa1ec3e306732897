/- What landed: a text's parts. -/
import Derived.Test.YtbeefjhcbphiaaaGreatDoorGi
import Derived.Test.YtbeefjhcbphiaaaGreatDoorShelfm
import Derived.Test.YtbeefjhcbphiaaaGreatDoorGg
import Derived.Sort.Grow
namespace Go.Proofs.YtbeefjhcbphiaaaGreatDoor.II
open Go.RowKit

/-- The parts lie in W's next block; nothing that W had has turned. -/
def PW (W w : World) (m : Bool) (b : Int) (s : ByteArray) : Prop := Below W.heap.size W w ∧ w.heap[W.heap.size]? = some (wrt m b s)
section
variable {W w w' : World} {m m' : Bool} {b b' : Int} {s s' : ByteArray}
theorem PW.start : PW W (W.alloc (wrt m b s)) m b s := ⟨(Below.refl _ _).alloc (Nat.le_refl _) _, by show (W.heap.push _)[W.heap.size]? = _; simp⟩
theorem PW.below (h : PW W w m b s) (hb : Below w.heap.size w w') : PW W w' m b s := ⟨below_tr h.1 hb, by rw [hb.block _ (lt_of_block h.2)]; exact h.2⟩
theorem PW.cells (h : PW W w m b s) : w.cell? ⟨W.heap.size, 0, none⟩ = some (.bool m) ∧ w.cell? ⟨W.heap.size, 1, none⟩ = some (.int .i64 b) ∧ w.cell? ⟨W.heap.size, 2, none⟩ = some (.string s) ∧ w.frozen? ⟨W.heap.size, 0, none⟩ = false ∧ w.frozen? ⟨W.heap.size, 1, none⟩ = false ∧ w.frozen? ⟨W.heap.size, 2, none⟩ = false := by
  obtain ⟨_, h⟩ := h
  simp [World.cell?, World.frozen?, h]
theorem PW.set (h : PW W w m b s) : PW W (((w.setCell ⟨W.heap.size, 0, none⟩ (.bool m')).setCell ⟨W.heap.size, 1, none⟩ (.int .i64 b')).setCell ⟨W.heap.size, 2, none⟩ (.string s')) m' b' s' := by
  refine ⟨((h.1.setCell (Nat.le_refl _) _).setCell (Nat.le_refl _) _).setCell (Nat.le_refl _) _, ?_⟩
  have h1 := heap_setCell_same w W.heap.size 0 _ _ (.bool m') h.2
  have h2 := heap_setCell_same _ W.heap.size 1 _ _ (.int .i64 b') h1
  have h3 := heap_setCell_same _ W.heap.size 2 _ _ (.string s') h2
  rw [h3]; rfl
end
/-- What a text's parts are told as. -/
def spv (l : List UInt8) : Value := if In.good (In.pre l).1 (In.pre l).2.2 = true then .tuple #[wrv (In.pre l).2.1 (In.pre l).1 (txt (In.pre l).2.2), .bool true] else .tuple #[wrv false 0 ⟨#[]⟩, .bool false]
theorem spv_on {l : List UInt8} {b : Nat} {m : Bool} {r : List UInt8} (h : In.pre l = (b, m, r)) (hg : In.good b r = true) : spv l = .tuple #[wrv m b (txt r), .bool true] := by
  rw [spv, h, if_pos hg]
theorem spv_off {l : List UInt8} {b : Nat} {m : Bool} {r : List UInt8} (h : In.pre l = (b, m, r)) (hg : In.good b r = false) : spv l = .tuple #[wrv false 0 ⟨#[]⟩, .bool false] := by
  rw [spv, h, if_neg (by rw [hg]; simp)]
theorem pbs_le (l : List UInt8) : 2 ≤ pbs l ∧ pbs l ≤ 16 ∧ pbs l ≠ 10 := by unfold pbs; split <;> (try split) <;> omega
theorem sgn_pre {l : List UInt8} (h : rdx l = false) : ∃ m r, In.pre l = (10, m, r) ∧ r.length ≤ l.length := by
  rw [pre_sgn h]
  split
  · exact ⟨_, _, rfl, by simp⟩
  · split
    · exact ⟨_, _, rfl, by simp⟩
    · exact ⟨_, _, rfl, Nat.le_refl _⟩
theorem good_rdx {b : Nat} {r : List UInt8} (h : b ≠ 10) : In.good b r = In.spc b false r := by simp [In.good, h]
theorem good_sgn (r : List UInt8) : In.good 10 r = (!nau r && In.spc 10 false r) := by simp [In.good, nau]
set_option maxHeartbeats 4000000 in
set_option maxRecDepth 100000 in
theorem psplit_is {l : List UInt8} {s : ByteArray} {v : Value} (w : World) (hs : s = txt l) (hl : l.length ≤ 100000) (hT : Rads w) (hv : v = spv l) :
    Calls Tryz.prog 179 #[.string s] w fun e w' => e = .returned v ∧ Below w.heap.size w w' := by
  have HV := Lib.hid hv
  have HT := Lib.hid hT
  have H1 := Lib.hid (fun w h => pprefixed_is w hs hl h (rfl : pxv l = _))
  cases hr : rdx l
  · obtain ⟨m, r, hp, hrl⟩ := sgn_pre hr
    have hpx : pxv l = .tuple #[wrv false 0 ⟨#[]⟩, .bool false] := by rw [pxv, if_neg (by rw [hr]; simp)]
    rw [hpx] at H1
    have H2 := Lib.hid (fun w => psigned_is w hs hl hr hp (rfl : sgv m r = _))
    have HP := Lib.hid hp
    cases hn : nau r
    · have hsg : sgv m r = .tuple #[wrv m 10 (txt r), .bool true] := by rw [sgv, if_neg (by rw [hn]; simp)]
      rw [hsg] at H2
      obtain ⟨T, hTT⟩ : ∃ T, T = txt r := ⟨_, rfl⟩
      rw [← hTT] at H2
      obtain ⟨x, hx⟩ : ∃ x, x = In.spc 10 false r := ⟨_, rfl⟩
      have H3 := Lib.hid (fun w => pspaced_is (m := m) w hTT (by omega) (by omega : 10 ≤ 16) hx)
      have HG := Lib.hid (show In.good 10 r = x by rw [good_sgn, hn, hx]; rfl)
      have HTT := Lib.hid hTT
      clear hs hl hT hv hp hrl hpx hsg hTT hx hn hr
      go_enter Tryz.func179, Tryz.ntmps179
      go_wp2_with fail
      refine (H1.out _ (HT.out.below ((Below.refl _ _).alloc (Nat.le_refl _) _))).mono ?_
      rintro e w1 ⟨rfl, hb⟩
      have P1 := Lib.hid (PW.start.below hb)
      obtain ⟨c0, c1, c2, f0, f1, f2⟩ := P1.out.cells
      clear hb
      go_wp2_with fail
      refine (H2.out _).mono ?_
      rintro e w2 ⟨rfl, hb⟩
      have P2 := Lib.hid (P1.out.set.below hb)
      clear hb c0 c1 c2 f0 f1 f2
      obtain ⟨c0, c1, c2, f0, f1, f2⟩ := P2.out.cells
      have P3 := Lib.hid (P2.out.set (m' := m) (b' := 10) (s' := T))
      obtain ⟨d0, d1, d2, g0, g1, g2⟩ := P3.out.cells
      go_wp2_with fail
      refine (H3.out _).mono ?_
      rintro e w3 ⟨rfl, hb⟩
      have P4 := Lib.hid (P3.out.below hb)
      clear hb c0 c1 c2 f0 f1 f2 d0 d1 d2 g0 g1 g2
      obtain ⟨c0, c1, c2, f0, f1, f2⟩ := P4.out.cells
      cases x
      · have F := Lib.hid (show v = .tuple #[wrv false 0 ⟨#[]⟩, .bool false] by rw [HV.out]; exact spv_off HP.out HG.out)
        go_wp2_with fail
        refine bodyPost_ret (v := .tuple #[wrv false 0 ⟨#[]⟩, .bool false]) (by simp [results, Tryz.results179, go_sem, *]) rfl ?_
        exact ⟨by rw [F.out], P4.out.set.1⟩
      · have F := Lib.hid (show v = .tuple #[wrv m 10 T, .bool true] by rw [HV.out, HTT.out]; exact spv_on HP.out HG.out)
        go_wp2_with fail
        refine bodyPost_ret (v := .tuple #[wrv m 10 T, .bool true]) (by simp [results, Tryz.results179, go_sem, *]) rfl ?_
        exact ⟨by rw [F.out], P4.out.set.1⟩
    · have hsg : sgv m r = .tuple #[wrv false 0 ⟨#[]⟩, .bool false] := by rw [sgv, if_pos hn]
      rw [hsg] at H2
      have F := Lib.hid (show v = .tuple #[wrv false 0 ⟨#[]⟩, .bool false] by rw [HV.out]; exact spv_off HP.out (by rw [good_sgn, hn]; rfl))
      clear hs hl hT hv hp hrl hpx hsg hn hr
      go_enter Tryz.func179, Tryz.ntmps179
      go_wp2_with fail
      refine (H1.out _ (HT.out.below ((Below.refl _ _).alloc (Nat.le_refl _) _))).mono ?_
      rintro e w1 ⟨rfl, hb⟩
      have P1 := Lib.hid (PW.start.below hb)
      obtain ⟨c0, c1, c2, f0, f1, f2⟩ := P1.out.cells
      clear hb
      go_wp2_with fail
      refine (H2.out _).mono ?_
      rintro e w2 ⟨rfl, hb⟩
      have P2 := Lib.hid (P1.out.set.below hb)
      clear hb c0 c1 c2 f0 f1 f2
      obtain ⟨c0, c1, c2, f0, f1, f2⟩ := P2.out.cells
      have P3 := Lib.hid (P2.out.set (m' := false) (b' := 0) (s' := ⟨#[]⟩))
      obtain ⟨d0, d1, d2, g0, g1, g2⟩ := P3.out.cells
      go_wp2_with fail
      refine bodyPost_ret (v := .tuple #[wrv false 0 ⟨#[]⟩, .bool false]) (by simp [results, Tryz.results179, go_sem, *]) rfl ?_
      exact ⟨by rw [F.out], P3.out.set.1⟩
  · have hp : In.pre l = (pbs l, false, l.drop 2) := pre_rdx hr
    have hpx : pxv l = .tuple #[wrv false (pbs l) (txt (l.drop 2)), .bool true] := by rw [pxv, if_pos hr]
    rw [hpx] at H1
    obtain ⟨hb2, hb16, hb10⟩ := pbs_le l
    obtain ⟨r, hr2⟩ : ∃ r, r = l.drop 2 := ⟨_, rfl⟩
    have hrl : r.length ≤ l.length := by rw [hr2]; simp
    obtain ⟨b, hbb⟩ : ∃ b, b = pbs l := ⟨_, rfl⟩
    obtain ⟨T, hTT⟩ : ∃ T, T = txt r := ⟨_, rfl⟩
    rw [← hr2, ← hTT, ← hbb] at H1
    rw [← hr2, ← hbb] at hp
    rw [← hbb] at hb2 hb16 hb10
    obtain ⟨x, hx⟩ : ∃ x, x = In.spc b false r := ⟨_, rfl⟩
    have H3 := Lib.hid (fun w => pspaced_is (m := false) w hTT (by omega) hb16 hx)
    have HG := Lib.hid (show In.good b r = x by rw [good_rdx hb10, hx])
    have HTT := Lib.hid hTT
    have HP := Lib.hid hp
    clear hs hl hT hv hp hrl hpx hTT hx hr hr2 hbb hb2 hb16 hb10
    go_enter Tryz.func179, Tryz.ntmps179
    go_wp2_with fail
    refine (H1.out _ (HT.out.below ((Below.refl _ _).alloc (Nat.le_refl _) _))).mono ?_
    rintro e w1 ⟨rfl, hb⟩
    have P1 := Lib.hid (PW.start.below hb)
    obtain ⟨c0, c1, c2, f0, f1, f2⟩ := P1.out.cells
    clear hb
    have P3 := Lib.hid (P1.out.set (m' := false) (b' := b) (s' := T))
    obtain ⟨d0, d1, d2, g0, g1, g2⟩ := P3.out.cells
    go_wp2_with fail
    refine (H3.out _).mono ?_
    rintro e w3 ⟨rfl, hb⟩
    have P4 := Lib.hid (P3.out.below hb)
    clear hb c0 c1 c2 f0 f1 f2 d0 d1 d2 g0 g1 g2
    obtain ⟨c0, c1, c2, f0, f1, f2⟩ := P4.out.cells
    cases x
    · have F := Lib.hid (show v = .tuple #[wrv false 0 ⟨#[]⟩, .bool false] by rw [HV.out]; exact spv_off HP.out HG.out)
      go_wp2_with fail
      refine bodyPost_ret (v := .tuple #[wrv false 0 ⟨#[]⟩, .bool false]) (by simp [results, Tryz.results179, go_sem, *]) rfl ?_
      exact ⟨by rw [F.out], P4.out.set.1⟩
    · have F := Lib.hid (show v = .tuple #[wrv false b T, .bool true] by rw [HV.out, HTT.out]; exact spv_on HP.out HG.out)
      go_wp2_with fail
      refine bodyPost_ret (v := .tuple #[wrv false b T, .bool true]) (by simp [results, Tryz.results179, go_sem, *]) rfl ?_
      exact ⟨by rw [F.out], P4.out.set.1⟩
end Go.Proofs.YtbeefjhcbphiaaaGreatDoor.II
/- FormatInt at base 10 over lists: the library's table of powers, a normal form. -/
namespace Go.Proofs.YtbeefjhcbphiaaaGreatDoor.II
open Go.RowKit

/-- The library's table of powers lies as its text lays it. -/
def Tab10 (w : World) : Prop := Lib.TabIs Tryz.prog w "internal/strconv.uint64pow10" .u64 Lib.pow10Tab
theorem gPow : Tryz.prog.globalNamed "internal/strconv.uint64pow10" = some 1 := by kernel_rfl
theorem Tab10.below {w w' : World} (h : Tab10 w) (hb : Below w.heap.size w w') : Tab10 w' := by
  unfold Tab10 Lib.TabIs World.var? at h ⊢
  rw [gPow] at h ⊢
  simp only [Option.bind_some] at h ⊢
  have hlt : 1 < w.heap.size := by
    rcases Nat.lt_or_ge 1 w.heap.size with h' | h'
    · exact h'
    · rw [Array.getElem?_eq_none h'] at h; cases h
  rw [hb.block _ hlt]
  exact h
theorem dN_dec (n : Nat) : In.dN 10 n = Lib.decDigits n := by
  induction n using Nat.strongRecOn with
  | ind n ih =>
    rw [Lib.decDigits]
    by_cases h : n < 10
    · rw [dif_pos h, In.dN_lt h, In.ch_ten h]
    · rw [dif_neg h, In.dN_ge (by omega) (by omega), ih (n / 10) (by omega), In.ch_ten (Nat.mod_lt _ (by omega))]
theorem nfI_itoa (n : Int) : In.nfI n = Lib.itoa n := by
  unfold In.nfI Lib.itoa
  rw [dN_dec, dN_dec]
  by_cases h : n < 0
  · rw [if_pos h, if_pos h, show (-n).toNat = n.natAbs by omega]
  · rw [if_neg h, if_neg h]
theorem fint10_any {n : Int} (h : In.fits n) (w : World) (ht : Tab10 w) :
    Calls Tryz.prog 23 #[.int .i64 n, .int .i64 10] w fun e w' => e = .returned (.string (txt (In.nfI n))) ∧ Below w.heap.size w w' := by
  refine (Tryz.strconv_FormatInt_10 n h.1 h.2 w ht).mono ?_
  rintro e w' ⟨rfl, k, os, rfl⟩
  exact ⟨by rw [nfI_itoa]; rfl, ⟨rfl, rfl, rfl, by simp [Sort.grow], fun j hj => Sort.heap_grow_old _ _ hj⟩⟩
end Go.Proofs.YtbeefjhcbphiaaaGreatDoor.II
/- What landed: a text's value, its normal form; is a text a normal form; how two stand. -/
namespace Go.Proofs.YtbeefjhcbphiaaaGreatDoor.II
open Go.RowKit

/-- What the laws find when they are called: the table of radixes, the library's powers. -/
def Tab (w : World) : Prop := Rads w ∧ Tab10 w
theorem Tab.below {W w : World} (h : Tab W) (hb : Below W.heap.size W w) : Tab w := ⟨h.1.below hb, h.2.below hb⟩
/-- A reading: its value, and what is told. -/
def RdI (l : List UInt8) (n c : Int) : Prop := c = 0 ∧ In.rd l = .ok (In.nfI n) ∧ In.fits n ∨ c = 3 ∧ n = 0 ∧ In.rd l = .syn ∨ c = 8 ∧ n = 0 ∧ In.rd l = .big
theorem pre_base (l : List UInt8) : 2 ≤ (In.pre l).1 ∧ (In.pre l).1 ≤ 16 ∧ (In.pre l).2.2.length ≤ l.length := by
  cases hr : rdx l
  · obtain ⟨m, r, h, hl⟩ := sgn_pre hr
    rw [h]; exact ⟨by simp, by simp, hl⟩
  · rw [pre_rdx hr]
    have := pbs_le l
    exact ⟨this.1, this.2.1, by simp⟩
set_option maxHeartbeats 4000000 in
set_option maxRecDepth 100000 in
theorem pread0_is {l : List UInt8} {s : ByteArray} (hs : s = txt l) (hl : l.length ≤ 100000) : ∃ n c, RdI l n c ∧ ∀ w, Rads w →
    Calls Tryz.prog 158 #[.string s] w fun e w' => e = .returned (.tuple #[.int .i64 n, .int .i64 c]) ∧ Below w.heap.size w w' := by
  obtain ⟨hb2, hb16, hrl⟩ := pre_base l
  have H1 := Lib.hid (fun w h => psplit_is w hs hl h (rfl : spv l = _))
  obtain ⟨b, m, r, hp⟩ : ∃ b m r, In.pre l = (b, m, r) := ⟨_, _, _, rfl⟩
  rw [hp] at hb2 hb16 hrl
  have hrd : In.rd l = In.body b m r := by rw [In.rd, hp]
  cases hg : In.good b r
  · rw [spv_off hp hg] at H1
    refine ⟨0, 3, .inr (.inl ⟨rfl, rfl, by rw [hrd]; exact In.body_bad hg⟩), fun w hT => ?_⟩
    have HT := Lib.hid hT
    clear hs hl hb2 hb16 hrl hp hrd hg hT
    go_enter Tryz.func158, Tryz.ntmps158
    go_wp2_with fail
    refine (H1.out _ HT.out).mono ?_
    rintro e w1 ⟨rfl, hb⟩
    have HB := Lib.hid hb
    clear hb
    go_wp2_with fail
    go_ret2
    exact ⟨rfl, HB.out.alloc HB.out.size _⟩
  · rw [spv_on hp hg] at H1
    obtain ⟨v, hv, hbd, ho⟩ := In.body_good (m := m) hg
    have ha : In.amt b (In.lim m) 0 r = if v ≤ In.lim m then some v else none := In.vl_amt (by omega) (by have := In.lim_le m; omega) r false 0 v (Nat.zero_le _) hv
    obtain ⟨T, hTT⟩ : ∃ T, T = txt r := ⟨_, rfl⟩
    rw [← hTT] at H1
    have H2 := Lib.hid (fun w => pvalue_is (m := m) w hTT (by simp only at hrl; omega) hb2 hb16 ho (rfl : vav m _ = _))
    rw [ha] at H2
    by_cases hq : v ≤ In.lim m
    · rw [if_pos hq, vav] at H2
      have hf : In.fits (In.sg2 m v) := by
        have := In.lim_le m
        unfold In.fits In.sg2
        cases m
        · simp [In.lim] at hq ⊢; omega
        · simp [In.lim] at hq ⊢; omega
      obtain ⟨n, hn⟩ : ∃ n, n = In.sg2 m v := ⟨_, rfl⟩
      rw [← hn] at H2 hf
      refine ⟨n, 0, .inl ⟨rfl, by rw [hrd, hbd, In.fin_some, if_pos hq, hn], hf⟩, fun w hT => ?_⟩
      have HT := Lib.hid hT
      clear hs hl hb2 hb16 hrl hp hrd hg hT hv hbd ho ha hTT hq hf hn
      go_enter Tryz.func158, Tryz.ntmps158
      go_wp2_with fail
      refine (H1.out _ HT.out).mono ?_
      rintro e w1 ⟨rfl, hb⟩
      have HB := Lib.hid hb
      clear hb
      go_wp2_with fail
      refine (H2.out _).mono ?_
      rintro e w2 ⟨rfl, hb⟩
      have HB2 := Lib.hid (HB.out.trans (below_alloc hb |>.mono HB.out.size))
      clear hb
      go_wp2_with fail
      go_ret2
      exact ⟨rfl, HB2.out⟩
    · rw [if_neg hq, vav] at H2
      refine ⟨0, 8, .inr (.inr ⟨rfl, rfl, by rw [hrd, hbd, In.fin_some, if_neg hq]⟩), fun w hT => ?_⟩
      have HT := Lib.hid hT
      clear hs hl hb2 hb16 hrl hp hrd hg hT hv hbd ho ha hTT hq
      go_enter Tryz.func158, Tryz.ntmps158
      go_wp2_with fail
      refine (H1.out _ HT.out).mono ?_
      rintro e w1 ⟨rfl, hb⟩
      have HB := Lib.hid hb
      clear hb
      go_wp2_with fail
      refine (H2.out _).mono ?_
      rintro e w2 ⟨rfl, hb⟩
      have HB2 := Lib.hid (HB.out.trans (below_alloc hb |>.mono HB.out.size))
      clear hb
      go_wp2_with fail
      go_ret2
      exact ⟨rfl, HB2.out⟩
theorem pform_is {n : Int} (h : In.fits n) (w : World) (ht : Tab10 w) :
    Calls Tryz.prog 159 #[.int .i64 n] w fun e w' => e = .returned (.string (txt (In.nfI n))) ∧ Below w.heap.size w w' := by
  have H1 := Lib.hid (fint10_any h w ht)
  clear h ht
  go_enter Tryz.func159, Tryz.ntmps159
  go_wp2_with fail
  refine H1.out.mono ?_
  rintro e w1 ⟨rfl, hb⟩
  have HB := Lib.hid hb
  clear hb
  go_wp2_with fail
  go_ret
  exact ⟨rfl, HB.out⟩
theorem pread_is {l : List UInt8} {s : ByteArray} {R : In.R} (w : World) (hs : s = txt l) (hl : l.length ≤ 100000) (hR : R = In.rd l) (hT : Tab w) :
    Calls Tryz.prog 144 #[.string s] w fun e w' => e = .returned (irv R) ∧ Below w.heap.size w w' := by
  obtain ⟨n, c, hI, H1⟩ := pread0_is hs hl
  have H1 := Lib.hid (H1 w hT.1)
  have HT := Lib.hid hT
  clear hs hl hT
  rcases hI with ⟨rfl, hr, hf⟩ | ⟨rfl, rfl, hr⟩ | ⟨rfl, rfl, hr⟩
  · obtain rfl : R = .ok (In.nfI n) := by rw [hR, hr]
    obtain ⟨S, hS⟩ : ∃ S, S = txt (In.nfI n) := ⟨_, rfl⟩
    have H2 := Lib.hid (fun w h => pform_is hf w h)
    rw [irv, ← hS]
    rw [← hS] at H2
    clear hR hr hf hS
    go_enter Tryz.func144, Tryz.ntmps144
    go_wp2_with fail
    refine H1.out.mono ?_
    rintro e w1 ⟨rfl, hb⟩
    have HB := Lib.hid hb
    clear hb
    go_wp2_with fail
    refine (H2.out _ (HT.out.2.below HB.out)).mono ?_
    rintro e w2 ⟨rfl, hb⟩
    have HB2 := Lib.hid (below_tr HB.out hb)
    clear hb
    go_wp2_with fail
    go_ret2
    exact ⟨rfl, HB2.out⟩
  · obtain rfl : R = .syn := by rw [hR, hr]
    rw [irv]
    clear hR hr
    go_enter Tryz.func144, Tryz.ntmps144
    go_wp2_with fail
    refine H1.out.mono ?_
    rintro e w1 ⟨rfl, hb⟩
    have HB := Lib.hid hb
    clear hb
    go_wp2_with fail
    go_ret2
    exact ⟨rfl, HB.out⟩
  · obtain rfl : R = .big := by rw [hR, hr]
    rw [irv]
    clear hR hr
    go_enter Tryz.func144, Tryz.ntmps144
    go_wp2_with fail
    refine H1.out.mono ?_
    rintro e w1 ⟨rfl, hb⟩
    have HB := Lib.hid hb
    clear hb
    go_wp2_with fail
    go_ret2
    exact ⟨rfl, HB.out⟩
end Go.Proofs.YtbeefjhcbphiaaaGreatDoor.II
