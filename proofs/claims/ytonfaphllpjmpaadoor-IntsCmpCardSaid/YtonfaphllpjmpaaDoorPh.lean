/- What landed: a text's parts. -/
import Derived.Test.YtonfaphllpjmpaaDoorPg
namespace Go.Proofs.YtonfaphllpjmpaaDoor
open Go.RowKit

/-- The parts lie in W's next block; nothing that W had has turned. -/
def PW (W w : World) (m : Bool) (b : Int) (s : ByteArray) : Prop := Below W.heap.size W w ∧ w.heap[W.heap.size]? = some (wrt m b s)
section
variable {W w w' : World} {m m' : Bool} {b b' : Int} {s s' : ByteArray}
theorem PW.start : PW W (W.alloc (wrt m b s)) m b s := ⟨(Below.refl _ _).alloc (Nat.le_refl _) _, by show (W.heap.push _)[W.heap.size]? = _; simp⟩
theorem PW.below (h : PW W w m b s) (hb : Below w.heap.size w w') : PW W w' m b s := ⟨below_tr h.1 hb, by rw [hb.block _ (lt_of_block h.2)]; exact h.2⟩
theorem PW.cells (h : PW W w m b s) : w.cell? ⟨W.heap.size, 0, none⟩ = some (.bool m) ∧ w.cell? ⟨W.heap.size, 1, none⟩ = some (.int .i64 b) ∧ w.cell? ⟨W.heap.size, 2, none⟩ = some (.string s) ∧ w.frozen? ⟨W.heap.size, 0, none⟩ = false ∧ w.frozen? ⟨W.heap.size, 1, none⟩ = false ∧ w.frozen? ⟨W.heap.size, 2, none⟩ = false := by
  obtain ⟨_, h⟩ := h
  simp [World.cell?, World.frozen?, h]
theorem PW.set (h : PW W w m b s) : PW W (((w.setCell ⟨W.heap.size, 0, none⟩ (.bool m')).setCell ⟨W.heap.size, 1, none⟩ (.int .i64 b')).setCell ⟨W.heap.size, 2, none⟩ (.string s')) m' b' s' := by
  refine ⟨((h.1.setCell (Nat.le_refl _) _).setCell (Nat.le_refl _) _).setCell (Nat.le_refl _) _, ?_⟩
  have h1 := heap_setCell_same w W.heap.size 0 _ _ (.bool m') h.2
  have h2 := heap_setCell_same _ W.heap.size 1 _ _ (.int .i64 b') h1
  have h3 := heap_setCell_same _ W.heap.size 2 _ _ (.string s') h2
  rw [h3]; rfl
end
/-- What a text's parts are told as. -/
def spv (l : List UInt8) : Value := if In.good (In.pre l).1 (In.pre l).2.2 = true then .tuple #[wrv (In.pre l).2.1 (In.pre l).1 (txt (In.pre l).2.2), .bool true] else .tuple #[wrv false 0 ⟨#[]⟩, .bool false]
theorem spv_on {l : List UInt8} {b : Nat} {m : Bool} {r : List UInt8} (h : In.pre l = (b, m, r)) (hg : In.good b r = true) : spv l = .tuple #[wrv m b (txt r), .bool true] := by
  rw [spv, h, if_pos hg]
theorem spv_off {l : List UInt8} {b : Nat} {m : Bool} {r : List UInt8} (h : In.pre l = (b, m, r)) (hg : In.good b r = false) : spv l = .tuple #[wrv false 0 ⟨#[]⟩, .bool false] := by
  rw [spv, h, if_neg (by rw [hg]; simp)]
theorem pbs_le (l : List UInt8) : 2 ≤ pbs l ∧ pbs l ≤ 16 ∧ pbs l ≠ 10 := by unfold pbs; split <;> (try split) <;> omega
theorem sgn_pre {l : List UInt8} (h : rdx l = false) : ∃ m r, In.pre l = (10, m, r) ∧ r.length ≤ l.length := by
  rw [pre_sgn h]
  split
  · exact ⟨_, _, rfl, by simp⟩
  · split
    · exact ⟨_, _, rfl, by simp⟩
    · exact ⟨_, _, rfl, Nat.le_refl _⟩
theorem good_rdx {b : Nat} {r : List UInt8} (h : b ≠ 10) : In.good b r = In.spc b false r := by simp [In.good, h]
theorem good_sgn (r : List UInt8) : In.good 10 r = (!nau r && In.spc 10 false r) := by simp [In.good, nau]
set_option maxHeartbeats 4000000 in
set_option maxRecDepth 100000 in
theorem psplit_is {l : List UInt8} {s : ByteArray} {v : Value} (w : World) (hs : s = txt l) (hl : l.length ≤ 100000) (hT : Rads w) (hv : v = spv l) :
    Calls Tryd.prog 42 #[.string s] w fun e w' => e = .returned v ∧ Below w.heap.size w w' := by
  have HV := Lib.hid hv
  have HT := Lib.hid hT
  have H1 := Lib.hid (fun w h => pprefixed_is w hs hl h (rfl : pxv l = _))
  cases hr : rdx l
  · obtain ⟨m, r, hp, hrl⟩ := sgn_pre hr
    have hpx : pxv l = .tuple #[wrv false 0 ⟨#[]⟩, .bool false] := by rw [pxv, if_neg (by rw [hr]; simp)]
    rw [hpx] at H1
    have H2 := Lib.hid (fun w => psigned_is w hs hl hr hp (rfl : sgv m r = _))
    have HP := Lib.hid hp
    cases hn : nau r
    · have hsg : sgv m r = .tuple #[wrv m 10 (txt r), .bool true] := by rw [sgv, if_neg (by rw [hn]; simp)]
      rw [hsg] at H2
      obtain ⟨T, hTT⟩ : ∃ T, T = txt r := ⟨_, rfl⟩
      rw [← hTT] at H2
      obtain ⟨x, hx⟩ : ∃ x, x = In.spc 10 false r := ⟨_, rfl⟩
      have H3 := Lib.hid (fun w => pspaced_is (m := m) w hTT (by omega) (by omega : 10 ≤ 16) hx)
      have HG := Lib.hid (show In.good 10 r = x by rw [good_sgn, hn, hx]; rfl)
      have HTT := Lib.hid hTT
      clear hs hl hT hv hp hrl hpx hsg hTT hx hn hr
      go_enter Tryd.func42, Tryd.ntmps42
      go_wp2_with fail
      refine (H1.out _ (HT.out.below ((Below.refl _ _).alloc (Nat.le_refl _) _))).mono ?_
      rintro e w1 ⟨rfl, hb⟩
      have P1 := Lib.hid (PW.start.below hb)
      obtain ⟨c0, c1, c2, f0, f1, f2⟩ := P1.out.cells
      clear hb
      go_wp2_with fail
      refine (H2.out _).mono ?_
      rintro e w2 ⟨rfl, hb⟩
      have P2 := Lib.hid (P1.out.set.below hb)
      clear hb c0 c1 c2 f0 f1 f2
      obtain ⟨c0, c1, c2, f0, f1, f2⟩ := P2.out.cells
      have P3 := Lib.hid (P2.out.set (m' := m) (b' := 10) (s' := T))
      obtain ⟨d0, d1, d2, g0, g1, g2⟩ := P3.out.cells
      go_wp2_with fail
      refine (H3.out _).mono ?_
      rintro e w3 ⟨rfl, hb⟩
      have P4 := Lib.hid (P3.out.below hb)
      clear hb c0 c1 c2 f0 f1 f2 d0 d1 d2 g0 g1 g2
      obtain ⟨c0, c1, c2, f0, f1, f2⟩ := P4.out.cells
      cases x
      · have F := Lib.hid (show v = .tuple #[wrv false 0 ⟨#[]⟩, .bool false] by rw [HV.out]; exact spv_off HP.out HG.out)
        go_wp2_with fail
        refine bodyPost_ret (v := .tuple #[wrv false 0 ⟨#[]⟩, .bool false]) (by simp [results, Tryd.results42, go_sem, *]) rfl ?_
        exact ⟨by rw [F.out], P4.out.set.1⟩
      · have F := Lib.hid (show v = .tuple #[wrv m 10 T, .bool true] by rw [HV.out, HTT.out]; exact spv_on HP.out HG.out)
        go_wp2_with fail
        refine bodyPost_ret (v := .tuple #[wrv m 10 T, .bool true]) (by simp [results, Tryd.results42, go_sem, *]) rfl ?_
        exact ⟨by rw [F.out], P4.out.set.1⟩
    · have hsg : sgv m r = .tuple #[wrv false 0 ⟨#[]⟩, .bool false] := by rw [sgv, if_pos hn]
      rw [hsg] at H2
      have F := Lib.hid (show v = .tuple #[wrv false 0 ⟨#[]⟩, .bool false] by rw [HV.out]; exact spv_off HP.out (by rw [good_sgn, hn]; rfl))
      clear hs hl hT hv hp hrl hpx hsg hn hr
      go_enter Tryd.func42, Tryd.ntmps42
      go_wp2_with fail
      refine (H1.out _ (HT.out.below ((Below.refl _ _).alloc (Nat.le_refl _) _))).mono ?_
      rintro e w1 ⟨rfl, hb⟩
      have P1 := Lib.hid (PW.start.below hb)
      obtain ⟨c0, c1, c2, f0, f1, f2⟩ := P1.out.cells
      clear hb
      go_wp2_with fail
      refine (H2.out _).mono ?_
      rintro e w2 ⟨rfl, hb⟩
      have P2 := Lib.hid (P1.out.set.below hb)
      clear hb c0 c1 c2 f0 f1 f2
      obtain ⟨c0, c1, c2, f0, f1, f2⟩ := P2.out.cells
      have P3 := Lib.hid (P2.out.set (m' := false) (b' := 0) (s' := ⟨#[]⟩))
      obtain ⟨d0, d1, d2, g0, g1, g2⟩ := P3.out.cells
      go_wp2_with fail
      refine bodyPost_ret (v := .tuple #[wrv false 0 ⟨#[]⟩, .bool false]) (by simp [results, Tryd.results42, go_sem, *]) rfl ?_
      exact ⟨by rw [F.out], P3.out.set.1⟩
  · have hp : In.pre l = (pbs l, false, l.drop 2) := pre_rdx hr
    have hpx : pxv l = .tuple #[wrv false (pbs l) (txt (l.drop 2)), .bool true] := by rw [pxv, if_pos hr]
    rw [hpx] at H1
    obtain ⟨hb2, hb16, hb10⟩ := pbs_le l
    obtain ⟨r, hr2⟩ : ∃ r, r = l.drop 2 := ⟨_, rfl⟩
    have hrl : r.length ≤ l.length := by rw [hr2]; simp
    obtain ⟨b, hbb⟩ : ∃ b, b = pbs l := ⟨_, rfl⟩
    obtain ⟨T, hTT⟩ : ∃ T, T = txt r := ⟨_, rfl⟩
    rw [← hr2, ← hTT, ← hbb] at H1
    rw [← hr2, ← hbb] at hp
    rw [← hbb] at hb2 hb16 hb10
    obtain ⟨x, hx⟩ : ∃ x, x = In.spc b false r := ⟨_, rfl⟩
    have H3 := Lib.hid (fun w => pspaced_is (m := false) w hTT (by omega) hb16 hx)
    have HG := Lib.hid (show In.good b r = x by rw [good_rdx hb10, hx])
    have HTT := Lib.hid hTT
    have HP := Lib.hid hp
    clear hs hl hT hv hp hrl hpx hTT hx hr hr2 hbb hb2 hb16 hb10
    go_enter Tryd.func42, Tryd.ntmps42
    go_wp2_with fail
    refine (H1.out _ (HT.out.below ((Below.refl _ _).alloc (Nat.le_refl _) _))).mono ?_
    rintro e w1 ⟨rfl, hb⟩
    have P1 := Lib.hid (PW.start.below hb)
    obtain ⟨c0, c1, c2, f0, f1, f2⟩ := P1.out.cells
    clear hb
    have P3 := Lib.hid (P1.out.set (m' := false) (b' := b) (s' := T))
    obtain ⟨d0, d1, d2, g0, g1, g2⟩ := P3.out.cells
    go_wp2_with fail
    refine (H3.out _).mono ?_
    rintro e w3 ⟨rfl, hb⟩
    have P4 := Lib.hid (P3.out.below hb)
    clear hb c0 c1 c2 f0 f1 f2 d0 d1 d2 g0 g1 g2
    obtain ⟨c0, c1, c2, f0, f1, f2⟩ := P4.out.cells
    cases x
    · have F := Lib.hid (show v = .tuple #[wrv false 0 ⟨#[]⟩, .bool false] by rw [HV.out]; exact spv_off HP.out HG.out)
      go_wp2_with fail
      refine bodyPost_ret (v := .tuple #[wrv false 0 ⟨#[]⟩, .bool false]) (by simp [results, Tryd.results42, go_sem, *]) rfl ?_
      exact ⟨by rw [F.out], P4.out.set.1⟩
    · have F := Lib.hid (show v = .tuple #[wrv false b T, .bool true] by rw [HV.out, HTT.out]; exact spv_on HP.out HG.out)
      go_wp2_with fail
      refine bodyPost_ret (v := .tuple #[wrv false b T, .bool true]) (by simp [results, Tryd.results42, go_sem, *]) rfl ?_
      exact ⟨by rw [F.out], P4.out.set.1⟩
end Go.Proofs.YtonfaphllpjmpaaDoor
