/- The reader's numbered escapes (TOML). -/
import Derived.Test.YtpdaelcoiilkkaaDoorTqJ
namespace Go.Proofs.YtpdaelcoiilkkaaDoor
open Go.RowKit

/-- What is left of some digits' reading from p on. -/
def NmPost (W : World) (b : Nat) (K : Kd) (s : ByteArray) (l : List UInt8) (many p : Nat) (t : List UInt8) (e : Ending) (w' : World) : Prop :=
  (∃ j, Qu.hx many 0 (l.drop p) = .inl j ∧ e = .returned (.bool false) ∧ TR W b K s w' ((p + j : Nat) : Int) t) ∨
  (∃ n r, Qu.hx many 0 (l.drop p) = .inr (n, r) ∧ Tq.sur n = true ∧ e = .returned (.bool false) ∧ TR W b K s w' (p : Int) t) ∨
  (∃ n r, Qu.hx many 0 (l.drop p) = .inr (n, r) ∧ Tq.sur n = false ∧ p + many ≤ l.length ∧ e = .returned (.bool true) ∧ TR W b K s w' ((p + many : Nat) : Int) (t ++ Qu.pt n))
def NmRel (W : World) (b : Nat) (K : Kd) (s : ByteArray) (l : List UInt8) (many p : Nat) (t : List UInt8) (k n : Nat) (wr : World) : Prop :=
  p + k ≤ l.length ∧ n < 16 ^ k ∧ Qu.hx many 0 (l.drop p) = hxS k (Qu.hx (many - k) n (l.drop (p + k))) ∧ TR W b K s wr ((p + k : Nat) : Int) t
section
variable {W w : World} {b : Nat} {K : Kd} {s : ByteArray} {p many : Nat} {t l : List UInt8}
set_option maxHeartbeats 4000000 in
set_option maxRecDepth 100000 in
theorem tnumbered_any (M : Int) (hM : M = many) (hm8 : many ≤ 8) (h : TR W b K s w p t) (hs : s = txt l) (hl : l.length ≤ 1000000) (hp : p ≤ l.length) (ht : t.length ≤ 4 * p)
    (hH : ∀ n r, Qu.hx many 0 (l.drop p) = .inr (n, r) → Tq.sur n = false → Heads W ∧ 2 < W.heap.size) :
    Calls Tryd.prog 96 #[.pointer (some ⟨b, 0, none⟩), .int .i64 M] w (NmPost W b K s l many p t) := by
  obtain ⟨i0, hi, hz0, hz1, hz2⟩ := info_parts (show (Tryd.prog.info? 5).map (fun i => (i.zero, i.size, i.bytes)) = some (some (.int .u8 0), 1, 1) by kernel_rfl)
  have R0 : NmRel W b K s l many p t 0 0 w := ⟨hp, by simp, by cases Qu.hx many 0 (l.drop p) <;> simp [hxS], h⟩
  have HS := Lib.hid hs
  have HL := Lib.hid hl
  have HT := Lib.hid ht
  have HH := Lib.hid hH
  have HMM := Lib.hid hM
  have hM8 : M ≤ 8 := by omega
  have hp2 : p ≤ 1000000 := by omega
  obtain ⟨_, _, v0, h30, _⟩ := h
  obtain ⟨_, c10, _, _, _⟩ := td_cells h30
  clear hs hl hp h30 ht hH hM
  go_enter Tryd.func96, Tryd.ntmps96
  go_wp2_with fail
  clear c10
  go_loopw [6, 12] (fun v i wr => ∃ k n : Nat, k ≤ many ∧ i = .int .i64 k ∧ v = .int .i64 n ∧ NmRel W b K s l many p t k n wr) (fun _ i _ => many - (intOf i).toNat)
  case atStart => exact ⟨0, 0, Nat.zero_le _, rfl, rfl, R0⟩
  case round =>
    obtain ⟨k, n, hk, rfl, rfl, R⟩ := hrel
    clear R0
    obtain ⟨q, HQ⟩ : ∃ q, Hid (q = p + k) := ⟨_, rfl⟩
    have hsz : s.size = l.length := by rw [HS.out, txt_size]
    by_cases hk4 : k < many
    · have hkM : (k : Int) < M := by rw [HMM.out]; omega
      have HK := Lib.hid hk4
      have HR := Lib.hid R
      obtain ⟨r1, r2, r3, r4⟩ := R
      rw [← HQ.out] at r1 r4
      have hn : n ≤ 268435455 := by
        have : 16 ^ k ≤ 16 ^ 7 := Nat.pow_le_pow_right (by omega) (by omega)
        omega
      obtain ⟨_, _, v, h3, _⟩ := r4
      obtain ⟨c0, c1, _, _, cf⟩ := td_cells h3
      have f1 := cf 1
      clear r2 r3 h3 cf hk4
      have hm : s.size ≤ 1000000 := by have := HL.out; omega
      have HM8 := Lib.hid hm8
      clear hm8
      by_cases hq : q < l.length
      · have hx := txt_at HS.out (k := q)
        have hz : q < s.size := by omega
        have g1 : ((q : Int) == (s.size : Int)) = false := by simp; omega
        have b0 := bt_lo l q
        have b1 := bt_hi l q
        obtain ⟨y, HY⟩ : ∃ y, Hid (y = bt l q) := ⟨_, rfl⟩
        rw [← HY.out] at hx b0 b1
        obtain ⟨x, HX⟩ : ∃ x, Hid (x = dgI y) := ⟨_, rfl⟩
        have hxb := dgI_bd y
        rw [← HX.out] at hxb
        obtain ⟨hx1, hx2⟩ := hxb
        clear r1 hsz
        by_cases hneg : x < 0
        · have E := Lib.hid (hx_none (m := many - k - 1) (n := n) hq (by rw [← HY.out, ← HX.out]; exact hneg))
          clear hq
          go_wp2_with fail
          go_quiet (first | (go_at_call 98; refine (digit_is HX.out b0 b1 _).mono ?_; rintro _ _ ⟨rfl, rfl⟩; exact ⟨rfl, _, rfl⟩))
          go_wp2_with fail
          go_ret
          refine .inl ⟨k, ?_, rfl, ?_⟩
          · rw [HR.out.2.2.1, show many - k = many - k - 1 + 1 by have := HK.out; omega, ← HQ.out, E.out]; rfl
          · exact HR.out.2.2.2.drewN _
        · have E := Lib.hid (hx_step (m := many - k - 1) (n := n) hq (by rw [← HY.out, ← HX.out]; omega))
          have hq1 : q + 1 ≤ l.length := by omega
          clear hq
          go_wp2_with fail
          go_quiet (first | (go_at_call 98; refine (digit_is HX.out b0 b1 _).mono ?_; rintro _ _ ⟨rfl, rfl⟩; exact ⟨rfl, _, rfl⟩))
          go_wp2_with fail
          go_quiet (first | (go_at_call 98; refine (digit_is HX.out b0 b1 _).mono ?_; rintro _ _ ⟨rfl, rfl⟩; exact ⟨rfl, _, rfl⟩))
          go_wp2_with fail
          go_roundw
          case rel =>
            refine ⟨k + 1, 16 * n + x.toNat, HK.out, by go_num, by simp; omega, by have := HQ.out; omega, ?_, ?_, ?_⟩
            · have := HR.out.2.1
              rw [Nat.pow_succ]; omega
            · rw [HR.out.2.2.1, show many - k = many - k - 1 + 1 by have := HK.out; omega, ← HQ.out, E.out, ← HY.out, ← HX.out, hxS_hxS, HQ.out]; rfl
            · rw [show ((p + (k + 1) : Nat) : Int) = (q : Int) + 1 by have := HQ.out; omega]
              have r4 := HR.out.2.2.2
              rw [← HQ.out] at r4
              first | exact ((r4.drewN _).drewN _).pos _ | exact (r4.drewN _).pos _
          case measure => have := HK.out; simp [intOf]; omega
      · have E := Lib.hid (hx_off (l := l) (q := q) (m := many - k - 1) (n := n) (by omega))
        have g1 : ((q : Int) == (s.size : Int)) = true := by simp; omega
        clear hq r1 hsz
        go_wp2_with fail
        go_quiet (fail)
        go_wp2_with fail
        go_ret
        refine .inl ⟨k, ?_, rfl, ?_⟩
        · rw [HR.out.2.2.1, show many - k = many - k - 1 + 1 by have := HK.out; omega, ← HQ.out, E.out]; rfl
        · exact HR.out.2.2.2.drewN _
    · obtain rfl : k = many := by omega
      have HR := Lib.hid R
      have hkM : ¬ (k : Int) < M := by rw [HMM.out]; omega
      obtain ⟨r1, r2, r3, r4⟩ := R
      have hnn : n ≤ 4294967295 := by
        have : 16 ^ k ≤ 16 ^ 8 := Nat.pow_le_pow_right (by omega) hm8
        omega
      obtain ⟨r, hr⟩ : ∃ r, Qu.hx k 0 (l.drop p) = .inr (n, r) := ⟨_, by rw [r3, Nat.sub_self]; rfl⟩
      have HRR := Lib.hid hr
      obtain ⟨x, HX⟩ : ∃ x, Hid (x = rnI n) := ⟨_, rfl⟩
      have hsu : x = !Tq.sur n := by rw [HX.out, rnI_sur]
      obtain ⟨v, RV1⟩ := r4.rv
      have HV := Lib.hid RV1
      obtain ⟨c0, c1, c2, c3, cf⟩ := RV1.cells
      have f1 := cf 1
      have f2 := cf 3
      have HK1 := Lib.hid r1
      have HM8 := Lib.hid hm8
      clear r1 r2 r3 r4 hr RV1 cf hm8 c2
      cases x
      · have HSU := Lib.hid (show Tq.sur n = true by revert hsu; cases Tq.sur n <;> simp)
        clear hsu
        go_wp2_with fail
        refine (isRune_is HX.out _).mono ?_
        rintro e w3 ⟨rfl, rfl⟩
        go_wp2_with fail
        go_ret
        exact .inr (.inl ⟨n, r, HRR.out, HSU.out, rfl, HV.out.rs.pos _⟩)
      · have HSU := Lib.hid (show Tq.sur n = false by revert hsu; cases Tq.sur n <;> simp)
        have HHH := Lib.hid (HH.out n r HRR.out HSU.out)
        have htl : t.length ≤ 4000000 := by have := HT.out; have := HK1.out; have := HL.out; omega
        have HU := Lib.hid (tputs_one HSU.out)
        have hpl : (puts [(n : Int)]).length ≤ 4 := by rw [HU.out]; exact pt_len n
        clear hsu
        go_wp2_with fail
        refine (isRune_is HX.out _).mono ?_
        rintro e w3 ⟨rfl, rfl⟩
        go_wp2_with fail
        have ca := (HV.out.alloc (.cells #[.int .i64 n] 3)).cells.2.2.2.1
        go_region_law (first
          | (refine tstep_app rfl (.tmp 69) (.tmp 72) 49 rfl W.heap.size 5 i0 (.int .u8 0) 1 Tryd.underlying49 hi hz0 hz1 hz2 rfl v t.length (bytV t) rfl R4.2.2.2 A (puts [(n : Int)]).length c _ (puts [(n : Int)]) rfl rfl hA hnone (by unfold maxLen; omega) (by omega) R4.1.size ?_; intro v' w5 hown5 hg5; obtain ⟨⟨A', n', cp', rfl⟩, h5, R5⟩ := TV.text R4 hown5 hg5; obtain ⟨c0', c1', c2', c3', cf'⟩ := td_cells h5; have f2' := cf' 3; clear cf' h5 hown5 hg5 c2')
          | (go_simp; go_at_call 100; refine (tputs1 HV.out HHH.out.1 HHH.out.2 n).mono ?_; rintro e w4 ⟨A, c, rfl, hA, hnone, R4⟩; obtain ⟨d0, d1, d2, d3, df⟩ := R4.cells; clear d0 d1 d2 df))
        all_goals (have HR5 := Lib.hid R5; clear R5)
        all_goals go_wp2_with fail
        all_goals go_ret
        all_goals exact .inr (.inr ⟨n, r, HRR.out, HSU.out, HK1.out, rfl, by have := HR5.out; rw [HU.out] at this; exact this⟩)
end
end Go.Proofs.YtpdaelcoiilkkaaDoor
