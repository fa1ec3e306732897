/- The document's units of a string. -/
import Derived.Test.YtdclhepjoifpiaaGreatDoorQuUm
import Derived.Test.YtdclhepjoifpiaaGreatDoorRSmm
import Derived.Test.YtdclhepjoifpiaaGreatDoorAp
import Derived.Test.YtdclhepjoifpiaaGreatDoorAn
import Derived.Deep.LoopGhost
namespace Go.Proofs.YtdclhepjoifpiaaGreatDoor
open Go.RowKit

/-- A unit's cells. -/
def uV (u : Qu.U) : List Value := [.int .i64 (u.place : Int), .int .i64 (u.long : Int), .bool u.byte, .int .i64 (u.n : Int)]
def usV (us : List Qu.U) : List Value := us.flatMap uV
theorem usV_app (us : List Qu.U) (u : Qu.U) : usV (us ++ [u]) = usV us ++ uV u := by simp [usV]
theorem one4 (a b c : Int) (x : Bool) : ∀ u ∈ [Value.int .i64 a, .int .i64 b, .bool x, .int .i64 c], u.oneCell' = true := by
  intro u hu
  simp at hu
  rcases hu with rfl | rfl | rfl | rfl <;> rfl
def enI (e : Option Nat) : Int := match e with | some a => (a : Int) | none => -1
/-- What the units' reading leaves. -/
def UnPost (w : World) (l : List UInt8) (e : Ending) (w' : World) : Prop :=
  ∃ us en v, Qu.unq l = (us, en) ∧ e = .returned (.tuple #[v, .int .i64 (enI en)]) ∧ us.length ≤ l.length ∧ w'.ownsRow w.heap.size 132 4 v us.length (usV us) ∧ Below w.heap.size w w'
/-- What holds at each round's head. -/
def UnRel (w : World) (l : List UInt8) (i : Nat) (v : Value) (us : List Qu.U) (wr : World) : Prop :=
  Qu.unq l = (us ++ (Qu.unl i (l.drop i)).1, (Qu.unl i (l.drop i)).2) ∧ us.length ≤ i ∧ wr.ownsRow w.heap.size 132 4 v us.length (usV us) ∧ Below w.heap.size w wr
section
variable {w wr : World} {l : List UInt8} {i : Nat} {v : Value} {us : List Qu.U}
theorem UnRel.stop {en : Option Nat} {x : Int} (h : UnRel w l i v us wr) (hi : i ≤ l.length) (hu : Qu.unl i (l.drop i) = ([], en)) (hx : x = enI en) : UnPost w l (.returned (.tuple #[v, .int .i64 x])) wr := by
  obtain ⟨h1, h2, h3, h4⟩ := h
  rw [hu, List.append_nil] at h1
  exact ⟨us, en, v, h1, by rw [hx], by omega, h3, h4⟩
theorem UnRel.next {u : Qu.U} {k : Nat} {v2 : Value} {w2 : World} {o : Obj} {news : List Value} (h : UnRel w l i v us wr) (hk : 1 ≤ k) (hu : Qu.unl i (l.drop i) = (u :: (Qu.unl (i + k) (l.drop (i + k))).1, (Qu.unl (i + k) (l.drop (i + k))).2))
    (hn : news = uV u) (h5 : w2.ownsRow w.heap.size 132 4 v2 (us.length + 1) (usV us ++ news)) (h6 : (wr.alloc o).grownBy w2 v.ownBlock) : UnRel w l (i + k) v2 (us ++ [u]) w2 := by
  obtain ⟨h1, h2, h3, h4⟩ := h
  subst hn
  rw [hu] at h1
  refine ⟨by rw [h1]; simp, by simp; omega, by rw [usV_app, List.length_append]; exact h5, ?_⟩
  refine (h4.alloc h4.size o).grown h6 (by have := h4.size; simp; omega) (fun g e => ?_)
  rcases h3.2 with ⟨rfl, _⟩ | ⟨g', cap, cur, rfl, hb', _⟩
  · cases e
  · obtain rfl : g' = g := by simpa [Value.ownBlock] using e
    exact hb'
end
/-! ### The next unit, at a place -/
section
variable {l : List UInt8} {i : Nat}
theorem at_end (h : i = l.length) : Qu.unl i (l.drop i) = ([], some l.length) := by
  subst h; rw [List.drop_length]; exact Qu.unl_bad _ (show Qu.un [] = .bad 0 from rfl)
theorem drop_q (h : i < l.length) (hc : bt l i = 34) : l.drop i = 34 :: l.drop (i + 1) := by
  obtain ⟨c, hc', hb⟩ := drop_at h
  rw [hc', show c = 34 from UInt8.toNat_inj.1 (by rw [hc] at hb; simp; omega)]
theorem drop_e (h : i < l.length) (hc : bt l i = 92) : l.drop i = 92 :: l.drop (i + 1) := by
  obtain ⟨c, hc', hb⟩ := drop_at h
  rw [hc', show c = 92 from UInt8.toNat_inj.1 (by rw [hc] at hb; simp; omega)]
theorem at_q_more (h : i + 1 < l.length) (hc : bt l i = 34) : Qu.unl i (l.drop i) = ([], some (i + 1)) := by
  obtain ⟨d, hd, _⟩ := drop_at h
  rw [drop_q (by omega) hc, hd]
  exact Qu.unl_more i (by rfl)
theorem at_q_end (h : i + 1 = l.length) (hc : bt l i = 34) : Qu.unl i (l.drop i) = ([], none) := by
  rw [drop_q (by omega) hc, h, List.drop_length]
  exact Qu.unl_end i (by rfl)
theorem at_ctl (h : i < l.length) (hc : bt l i ≠ 34) (h2 : bt l i < 32) : Qu.unl i (l.drop i) = ([], some i) := by
  obtain ⟨c, hd, hb⟩ := drop_at h
  rw [hd]
  refine Qu.unl_bad (k := 0) i ?_
  rw [hb] at hc h2
  simp only [Qu.un]
  rw [if_neg, if_neg, if_pos]
  · omega
  · rintro rfl; exact absurd h2 (by decide)
  · rintro rfl; exact hc (by decide)
theorem at_plain (h : i < l.length) (hc : bt l i ≠ 34) (h2 : ¬ bt l i < 32) (h3 : bt l i ≠ 92) : Qu.unl i (l.drop i) = (⟨i, 1, true, (bt l i).toNat⟩ :: (Qu.unl (i + 1) (l.drop (i + 1))).1, (Qu.unl (i + 1) (l.drop (i + 1))).2) := by
  obtain ⟨c, hd, hb⟩ := drop_at h
  rw [hd, hb]
  refine Qu.unl_byte i ?_
  rw [hb] at hc h2 h3
  simp only [Qu.un]
  rw [if_neg, if_neg, if_neg]
  · omega
  · rintro rfl; exact h3 (by decide)
  · rintro rfl; exact hc (by decide)
theorem at_e_end (h : i + 1 = l.length) (hc : bt l i = 92) : Qu.unl i (l.drop i) = ([], some l.length) := by
  rw [drop_e (by omega) hc, h, List.drop_length, ← h]
  exact Qu.unl_bad (k := 1) i (by rfl)
theorem at_short (h : i + 1 < l.length) (hc : bt l i = 92) (hx : 0 ≤ srI (bt l (i + 1))) : Qu.unl i (l.drop i) = (⟨i, 2, true, (srI (bt l (i + 1))).toNat⟩ :: (Qu.unl (i + 2) (l.drop (i + 2))).1, (Qu.unl (i + 2) (l.drop (i + 2))).2) := by
  obtain ⟨d, hd, hb⟩ := drop_at h
  have e := srI_short d
  rw [hb] at hx ⊢
  cases hs : Qu.short d with
  | none => rw [hs] at e; simp only at e; omega
  | some b =>
    rw [hs] at e
    simp only at e
    rw [e, drop_e (by omega) hc, hd]
    refine Qu.unl_byte (k := 2) i ?_
    simp only [Qu.un, hs]
    rw [if_neg (by decide), if_pos trivial]
theorem at_not_u (h : i + 1 < l.length) (hc : bt l i = 92) (hx : srI (bt l (i + 1)) < 0) (hn : bt l (i + 1) ≠ 117) : Qu.unl i (l.drop i) = ([], some (i + 1)) := by
  obtain ⟨d, hd, hb⟩ := drop_at h
  have e := srI_short d
  rw [hb] at hx hn
  cases hs : Qu.short d with
  | some b => rw [hs] at e; simp only at e; omega
  | none =>
    rw [drop_e (by omega) hc, hd]
    refine Qu.unl_bad (k := 1) i ?_
    simp only [Qu.un, hs]
    rw [if_neg (by decide), if_pos trivial, if_neg]
    rintro rfl; exact hn (by decide)
theorem drop_u (h : i + 1 < l.length) (hc : bt l i = 92) (hu : bt l (i + 1) = 117) : l.drop i = 92 :: 117 :: l.drop (i + 2) := by
  obtain ⟨d, hd, hb⟩ := drop_at h
  rw [drop_e (by omega) hc, hd, show d = 117 from UInt8.toNat_inj.1 (by rw [hu] at hb; simp; omega)]
theorem at_u_bad (h : i + 1 < l.length) (hc : bt l i = 92) (hu : bt l (i + 1) = 117) {j : Nat} (hx : Qu.hx 4 0 (l.drop (i + 2)) = .inl j) : Qu.unl i (l.drop i) = ([], some (i + 2 + j)) := by
  rw [drop_u h hc hu, Nat.add_assoc]
  exact Qu.unl_bad i (by rw [Qu.un_u, hx])
theorem at_u (h : i + 1 < l.length) (hc : bt l i = 92) (hu : bt l (i + 1) = 117) {n : Nat} {r : List UInt8} (hx : Qu.hx 4 0 (l.drop (i + 2)) = .inr (n, r)) : Qu.unl i (l.drop i) = (⟨i, 6, false, n⟩ :: (Qu.unl (i + 6) (l.drop (i + 6))).1, (Qu.unl (i + 6) (l.drop (i + 6))).2) := by
  have hr := hx4_drop hx
  subst hr
  rw [drop_u h hc hu]
  exact Qu.unl_rune i (by rw [Qu.un_u, hx])
theorem unq_not (h : ¬ (0 < l.length ∧ bt l 0 = 34)) : Qu.unq l = ([], some 0) := by
  unfold Qu.unq
  split
  · rename_i r
    exact absurd ⟨by simp, by simp [bt]⟩ h
  · rfl
theorem unq_at (h : 0 < l.length) (hc : bt l 0 = 34) : Qu.unq l = Qu.unl 1 (l.drop 1) := by
  have := drop_q h hc
  rw [List.drop_zero] at this
  unfold Qu.unq
  split
  · rename_i r
    rfl
  · rename_i hh
    exact absurd this (hh _)
end
set_option maxHeartbeats 8000000 in
set_option maxRecDepth 100000 in
theorem units_any {l : List UInt8} {s : ByteArray} (w : World) (hs : s = txt l) (hl : l.length ≤ 1000000) :
    Calls Tryz.prog 77 #[.string s] w (UnPost w l) := by
  obtain ⟨i4, hi, hz0, hz1, hz2⟩ := info_parts (show (Tryz.prog.info? 132).map (fun i => (i.zero, i.size, i.bytes)) = some (some (.agg #[.int .i64 0, .int .i64 0, .bool false, .int .i64 0]), 4, 32) by kernel_rfl)
  have HS := Lib.hid hs
  have HZ := Lib.hid (show s.size = l.length by rw [hs, txt_size])
  have hsz : s.size ≤ 1000000 := by rw [hs, txt_size]; exact hl
  have hx0 := txt_at hs (k := 0)
  clear hs hl
  by_cases h0 : s.size = 0
  · have E := Lib.hid (unq_not (l := l) (by have := HZ.out; omega))
    go_enter Tryz.func77, Tryz.ntmps77
    go_wp2_with fail
    go_ret2
    exact ⟨[], some 0, _, E.out, rfl, Nat.zero_le _, World.ownsRow_nil _ _ _ _, Below.refl _ _⟩
  have h0' : 0 < s.size := by omega
  have g0 : ((s.size : Int) == 0) = false := beq_eq_false_iff_ne.2 (by omega)
  obtain ⟨y0, HY0⟩ : ∃ y, Hid (y = bt l 0) := ⟨_, rfl⟩
  rw [← HY0.out] at hx0
  by_cases hq : y0 = 34
  · have R0 : UnRel w l 1 (.slice none 0 0) [] w := ⟨by rw [List.nil_append, unq_at (by have := HZ.out; omega) (by rw [← HY0.out]; exact hq)], Nat.zero_le _, World.ownsRow_nil _ _ _ _, Below.refl _ _⟩
    subst hq
    go_enter Tryz.func77, Tryz.ntmps77
    go_wp2_with fail
    clear hx0 HY0
    go_loopw [4, 5] (fun v i wr => ∃ (k : Nat) (us : List Qu.U), 1 ≤ k ∧ k ≤ s.size ∧ i = .int .i64 k ∧ UnRel w l k v us wr) (fun _ i _ => s.size - (intOf i).toNat)
    case atStart => exact ⟨1, [], Nat.le_refl _, h0', rfl, R0⟩
    case round =>
      obtain ⟨k, us, hk1, hk, rfl, R⟩ := hrel
      clear R0 h0 h0' g0
      have HR := Lib.hid R
      have hul : us.length ≤ 1000000 := Nat.le_trans R.2.1 (Nat.le_trans hk hsz)
      have HOw := Lib.hid R.2.2.1
      have hbs : w.heap.size ≤ wr.heap.size := R.2.2.2.size
      have HK := Lib.hid (show k ≤ l.length by rw [← HZ.out]; exact hk)
      clear R
      by_cases hlt : k < s.size
      · have hlt' : k < l.length := by rw [← HZ.out]; exact hlt
        have HLT := Lib.hid hlt'
        have hx := txt_at HS.out (k := k)
        obtain ⟨y, HY⟩ : ∃ y, Hid (y = bt l k) := ⟨_, rfl⟩
        have hy0 : 0 ≤ y := by rw [HY.out]; exact bt_lo _ _
        have hy1 : y ≤ 255 := by rw [HY.out]; exact bt_hi _ _
        rw [← HY.out] at hx
        clear hlt'
        by_cases c34 : y = 34
        · by_cases hm : k + 1 < s.size
          · have E := Lib.hid (at_q_more (l := l) (i := k) (by rw [← HZ.out]; exact hm) (by rw [← HY.out]; exact c34))
            subst c34
            go_wp2_with fail
            go_ret2
            exact HR.out.stop HK.out E.out rfl
          · have hm' : ¬ ((k : Int) + 1 < s.size) := by omega
            have E := Lib.hid (at_q_end (l := l) (i := k) (by rw [← HZ.out]; omega) (by rw [← HY.out]; exact c34))
            subst c34
            go_wp2_with fail
            go_ret2
            exact HR.out.stop HK.out E.out rfl
        have d34 : (y == 34) = false := by simp [c34]
        by_cases c32 : y < 32
        · have E := Lib.hid (at_ctl (l := l) (i := k) HLT.out (by rw [← HY.out]; exact c34) (by rw [← HY.out]; exact c32))
          go_wp2_with fail
          go_ret2
          exact HR.out.stop HK.out E.out rfl
        by_cases c92 : y = 92
        · by_cases hm : k + 1 < s.size
          · have hx1 := txt_at HS.out (k := k + 1)
            obtain ⟨z, HZ1⟩ : ∃ z, Hid (z = bt l (k + 1)) := ⟨_, rfl⟩
            rw [← HZ1.out] at hx1
            have hm1 : ((k : Int) + 1).toNat = k + 1 := by omega
            have HM := Lib.hid (show k + 1 < l.length by rw [← HZ.out]; exact hm)
            have H92 := Lib.hid (show bt l k = 92 by rw [← HY.out]; exact c92)
            obtain ⟨x, HX⟩ : ∃ x, Hid (x = srI z) := ⟨_, rfl⟩
            subst c92
            by_cases hxs : 0 ≤ x
            · have E := Lib.hid (at_short (l := l) (i := k) HM.out H92.out (by rw [← HZ1.out, ← HX.out]; exact hxs))
              have HN := Lib.hid (show [.int .i64 (k : Int), .int .i64 2, .bool true, .int .i64 x] = uV ⟨k, 2, true, (srI (bt l (k + 1))).toNat⟩ by simp only [uV]; rw [← HZ1.out, ← HX.out, Int.toNat_of_nonneg hxs]; rfl)
              go_wp2_with (first
                | (go_at_call 94; refine (rshort_is HX.out _).mono ?_; rintro e w' ⟨rfl, rfl⟩)
                | (at_builtin; refine wpList_append_own _ rfl (.tmp 73) (.tmp 81) 128 rfl w.heap.size 132 i4 (.agg #[.int .i64 0, .int .i64 0, .bool false, .int .i64 0]) 4 32 Tryz.underlying128 hi hz0 hz1 hz2 rfl (by decide) _ us.length (usV us) rfl (HOw.out.alloc _) ⟨wr.heap.size, 0, none⟩ 1 1 [.int .i64 (k : Int), .int .i64 2, .bool true, .int .i64 x] rfl rfl (cells_new _ _ rfl) (one4 _ _ _ _) (by unfold maxLen; omega) (by omega) (by simp; omega) ?_; intro v2 w2 hown2 hg2 _))
              have N := Lib.hid (HR.out.next (k := 2) (by omega) E.out HN.out hown2 hg2)
              clear hown2 hg2
              go_roundw
              case rel => exact ⟨k + 2, _, by omega, by omega, by go_num, N.out⟩
              case measure => simp [intOf]; omega
            · by_cases c117 : z = 117
              · have HU := Lib.hid (show bt l (k + 1) = 117 by rw [← HZ1.out]; exact c117)
                subst c117
                go_wp2_with (first | (go_at_call 94; refine (rshort_is HX.out _).mono ?_; rintro e w' ⟨rfl, rfl⟩))
                go_loop [6, 7] (fun n k' => ∃ (K M : Nat), K ≤ 4 ∧ k' = .int .i64 K ∧ n = .int .i64 M ∧ k + 2 + K ≤ s.size ∧ M < 16 ^ K ∧ Qu.hx 4 0 (l.drop (k + 2)) = hxS K (Qu.hx (4 - K) M (l.drop (k + 2 + K)))) (fun _ k' => 4 - (intOf k').toNat)
                case atStart => exact ⟨0, 0, by omega, rfl, rfl, by omega, by simp, by cases Qu.hx 4 0 (l.drop (k + 2)) <;> simp [hxS]⟩
                case round =>
                  obtain ⟨K, M, hK, rfl, rfl, hKs, hM, hrel⟩ := hrel
                  have HM1 := Lib.hid hM
                  have HR1 := Lib.hid hrel
                  obtain ⟨q, HQ⟩ : ∃ q, Hid (q = k + 2 + K) := ⟨_, rfl⟩
                  have hq : (k : Int) + 2 + K = q := by have := HQ.out; omega
                  have hq2 : ((k : Int) + 2 + K).toNat = q := by have := HQ.out; omega
                  have hqs : q ≤ s.size := by rw [HQ.out]; exact hKs
                  have hq6 : q ≤ 1000000 := by omega
                  clear hrel hKs
                  by_cases hk4 : K < 4
                  · have hMb : M ≤ 4095 := by
                      have : 16 ^ K ≤ 16 ^ 3 := Nat.pow_le_pow_right (by omega) (by omega)
                      omega
                    clear hM
                    by_cases hql : q < s.size
                    · have hxq := txt_at HS.out (k := q)
                      have b0 := bt_lo l q
                      have b1 := bt_hi l q
                      obtain ⟨u, HU1⟩ : ∃ u, Hid (u = bt l q) := ⟨_, rfl⟩
                      rw [← HU1.out] at hxq b0 b1
                      obtain ⟨d, HD⟩ : ∃ d, Hid (d = dgI u) := ⟨_, rfl⟩
                      have hdb := dgI_bd u
                      rw [← HD.out] at hdb
                      obtain ⟨hd1, hd2⟩ := hdb
                      have HQL := Lib.hid (show q < l.length by rw [← HZ.out]; exact hql)
                      by_cases hneg : d < 0
                      · have E1 := Lib.hid (hx_none (m := 4 - K - 1) (n := M) HQL.out (by rw [← HU1.out, ← HD.out]; exact hneg))
                        go_wp2_with (first | (go_at_call 95; refine (rdigit_is HD.out b0 b1 _).mono ?_; rintro e w' ⟨rfl, rfl⟩))
                        go_ret2
                        exact HR.out.stop HK.out (at_u_bad HM.out H92.out HU.out (j := K) (by rw [HR1.out, show 4 - K = 4 - K - 1 + 1 by omega, ← HQ.out, E1.out]; rfl)) (by rw [← HQ.out]; rfl)
                      · have E1 := Lib.hid (hx_step (m := 4 - K - 1) (n := M) HQL.out (by rw [← HU1.out, ← HD.out]; omega))
                        go_wp2_with (first | (go_at_call 95; refine (rdigit_is HD.out b0 b1 _).mono ?_; rintro e w' ⟨rfl, rfl⟩))
                        go_round
                        case rel =>
                          refine ⟨K + 1, 16 * M + d.toNat, by omega, by go_num, by simp; omega, by have := HQ.out; omega, ?_, ?_⟩
                          · have := HM1.out
                            rw [Nat.pow_succ]; omega
                          · rw [HR1.out, show 4 - K = 4 - K - 1 + 1 by omega, ← HQ.out, E1.out, ← HU1.out, ← HD.out, hxS_hxS, HQ.out]; rfl
                        case measure => simp [intOf]; omega
                    · have E1 := Lib.hid (hx_off (l := l) (q := q) (m := 4 - K - 1) (n := M) (by rw [← HZ.out]; omega))
                      have hqe : q = s.size := by omega
                      have HQE := Lib.hid hqe
                      go_wp2_with fail
                      go_ret2
                      exact HR.out.stop HK.out (at_u_bad HM.out H92.out HU.out (j := K) (by rw [HR1.out, show 4 - K = 4 - K - 1 + 1 by omega, ← HQ.out, E1.out]; rfl)) (by rw [← HQ.out, HQE.out]; rfl)
                  · obtain rfl : K = 4 := by omega
                    have HX4 := Lib.hid (show Qu.hx 4 0 (l.drop (k + 2)) = .inr (M, l.drop (k + 2 + 4)) by rw [HR1.out]; rfl)
                    have E := Lib.hid (at_u (l := l) (i := k) HM.out H92.out HU.out HX4.out)
                    have HN := Lib.hid (show [.int .i64 (k : Int), .int .i64 6, .bool false, .int .i64 (M : Int)] = uV ⟨k, 6, false, M⟩ from rfl)
                    have hk6 : k + 6 ≤ s.size := by have := HQ.out; omega
                    go_wp2_with (at_builtin; refine wpList_append_own _ rfl (.tmp 125) (.tmp 129) 128 rfl w.heap.size 132 i4 (.agg #[.int .i64 0, .int .i64 0, .bool false, .int .i64 0]) 4 32 Tryz.underlying128 hi hz0 hz1 hz2 rfl (by decide) _ us.length (usV us) rfl (HOw.out.alloc _) ⟨wr.heap.size, 0, none⟩ 1 1 [.int .i64 (k : Int), .int .i64 6, .bool false, .int .i64 (M : Int)] rfl rfl (cells_new _ _ rfl) (one4 _ _ _ _) (by unfold maxLen; omega) (by omega) (by simp; omega) ?_; intro v2 w2 hown2 hg2 _)
                    have N := Lib.hid (HR.out.next (k := 6) (by omega) E.out HN.out hown2 hg2)
                    clear hown2 hg2
                    go_roundw
                    case rel => exact ⟨k + 6, _, by omega, by omega, by go_num, N.out⟩
                    case measure => simp [intOf]; omega
              · have E := Lib.hid (at_not_u (l := l) (i := k) HM.out H92.out (by rw [← HZ1.out, ← HX.out]; omega) (by rw [← HZ1.out]; exact c117))
                have d117 : (z != 117) = true := by simp [c117]
                go_wp2_with (first | (go_at_call 94; refine (rshort_is HX.out _).mono ?_; rintro e w' ⟨rfl, rfl⟩))
                go_ret2
                exact HR.out.stop HK.out E.out rfl
          · have hm' : ¬ ((k : Int) + 1 < s.size) := by omega
            have hm2 : k + 1 = s.size := by omega
            have E := Lib.hid (at_e_end (l := l) (i := k) (by rw [← HZ.out]; omega) (by rw [← HY.out]; exact c92))
            subst c92
            clear hm hm2
            go_wp2_with fail
            go_ret2
            exact HR.out.stop HK.out E.out (by rw [HZ.out]; rfl)
        · have E := Lib.hid (at_plain (l := l) (i := k) HLT.out (by rw [← HY.out]; exact c34) (by rw [← HY.out]; exact c32) (by rw [← HY.out]; exact c92))
          have HN := Lib.hid (show [.int .i64 (k : Int), .int .i64 1, .bool true, .int .i64 y] = uV ⟨k, 1, true, (bt l k).toNat⟩ by simp only [uV]; rw [← HY.out, Int.toNat_of_nonneg hy0]; rfl)
          have d92 : (y != 92) = true := by simp [c92]
          go_wp2_with (at_builtin; refine wpList_append_own _ rfl (.tmp 48) (.tmp 55) 128 rfl w.heap.size 132 i4 (.agg #[.int .i64 0, .int .i64 0, .bool false, .int .i64 0]) 4 32 Tryz.underlying128 hi hz0 hz1 hz2 rfl (by decide) _ us.length (usV us) rfl (HOw.out.alloc _) ⟨wr.heap.size, 0, none⟩ 1 1 [.int .i64 (k : Int), .int .i64 1, .bool true, .int .i64 y] rfl rfl (cells_new _ _ rfl) (one4 _ _ _ _) (by unfold maxLen; omega) (by omega) (by simp; omega) ?_; intro v2 w2 hown2 hg2 _)
          have N := Lib.hid (HR.out.next (k := 1) (by omega) E.out HN.out hown2 hg2)
          clear hown2 hg2
          go_roundw
          case rel => exact ⟨k + 1, _, by omega, by omega, by go_num, N.out⟩
          case measure => simp [intOf]; omega
      · have hke : k = s.size := by omega
        have E := Lib.hid (at_end (l := l) (i := k) (by rw [← HZ.out]; exact hke))
        subst hke
        go_wp2_with fail
        go_ret2
        exact HR.out.stop HK.out E.out (by rw [HZ.out]; rfl)
  · have E := Lib.hid (unq_not (l := l) (by rw [← HY0.out]; exact fun h => hq h.2))
    have dq : (y0 != 34) = true := by simp [hq]
    go_enter Tryz.func77, Tryz.ntmps77
    go_wp2_with fail
    go_ret2
    exact ⟨[], some 0, _, E.out, rfl, Nat.zero_le _, World.ownsRow_nil _ _ _ _, Below.refl _ _⟩
end Go.Proofs.YtdclhepjoifpiaaGreatDoor
