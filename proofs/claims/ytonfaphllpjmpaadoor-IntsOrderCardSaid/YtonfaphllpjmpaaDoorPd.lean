/- What landed: the amount of digits, its sign. -/
import Derived.Test.YtonfaphllpjmpaaDoorPc
import Derived.BigQuiet
import Derived.IntWalk
namespace Go.Proofs.YtonfaphllpjmpaaDoor
open Go.RowKit

/-- What the amount is told as. -/
def amv : Option Nat → Value
  | some n => .tuple #[.int .u64 n, .bool true]
  | none => .tuple #[.int .u64 0, .bool false]
def AmRel (W : World) (b M : Nat) (r : List UInt8) (k n : Nat) (wx : World) : Prop :=
  k ≤ r.length ∧ In.amt b M 0 r = In.amt b M n (r.drop k) ∧ n ≤ M ∧ Below W.heap.size W wx
theorem amt_95 {b M : Nat} {r : List UInt8} {k n : Nat} (h : k < r.length) (hy : bt r k = 95) : In.amt b M n (r.drop k) = In.amt b M n (r.drop (k + 1)) := by
  obtain ⟨c, e, hb⟩ := drop_one h
  obtain rfl : c = 95 := by_num (k := 95) hb (by omega) hy
  rw [e, In.amt, if_pos rfl]
theorem amt_dg {b M : Nat} (hb : b ≤ 16) {r : List UInt8} (ho : In.okB b r) {k n : Nat} (h : k < r.length) (hy : bt r k ≠ 95) : ∃ d : Nat, gJ (bt r k) = (d : Int) ∧ d < b ∧ In.amt b M n (r.drop k) = if (M - d) / b < n then none else In.amt b M (n * b + d) (r.drop (k + 1)) := by
  obtain ⟨c, e, hbb⟩ := drop_one h
  rw [hbb] at hy ⊢
  have hc : c ≠ 95 := by rintro rfl; exact hy rfl
  have hm : c ∈ r := by
    have : c ∈ r.drop k := by rw [e]; simp
    exact List.mem_of_mem_drop this
  have hd : In.dg c < b := (ho c hm).resolve_left hc
  have hj := dJ_dg c hb
  rw [if_pos hd] at hj
  unfold dJ at hj
  refine ⟨In.dg c, ?_, hd, ?_⟩
  · split at hj
    · omega
    · exact hj
  · rw [e, In.amt, if_neg hc]
theorem amt_end {b M n : Nat} {r : List UInt8} {k : Nat} (h : k = r.length) : In.amt b M n (r.drop k) = some n := by
  rw [h, List.drop_length]; rfl
theorem int_of_u64 {b : Nat} (h : b ≤ 16) : IntKind.u64.wrap (b : Int) = b := IntWalk.u64_in _ (by omega)
/-- The room above an amount. -/
theorem room {M d b n : Nat} (hM : M ≤ 9223372036854775808) (hb : 2 ≤ b) (hd : d < b) (hb2 : b ≤ 16) (hMb : 16 ≤ M) (h : ¬ (M - d) / b < n) : n * b + d ≤ M := by
  have h2 : n ≤ (M - d) / b := by omega
  have h3 := (Nat.le_div_iff_mul_le (by omega : 0 < b)).1 h2
  omega
theorem below_drewN {B : Nat} {W w : World} (h : Below B W w) (n : Nat) : Below B W (w.drewN n) := ⟨h.os, h.tape, h.output, h.size, h.block⟩
set_option maxHeartbeats 4000000 in
set_option maxRecDepth 100000 in
theorem pamount_is {r : List UInt8} {s : ByteArray} {m : Bool} {b : Nat} {v : Value} (w : World) (hs : s = txt r) (hl : r.length ≤ 100000) (hb2 : 2 ≤ b) (hb : b ≤ 16) (ho : In.okB b r) (hv : v = amv (In.amt b (In.lim m) 0 r)) :
    Calls Tryd.prog 61 #[wrv m b s] w fun e w' => e = .returned v ∧ Below w.heap.size w w' := by
  have HS := Lib.hid hs
  have HZ := Lib.hid (show s.size = r.length by rw [hs, txt_size])
  have hsz : s.size ≤ 100000 := by rw [HZ.out]; exact hl
  have HV := Lib.hid hv
  have HO := Lib.hid ho
  have HBB := Lib.hid hb
  have HB2 := Lib.hid hb2
  have hbw := int_of_u64 hb
  have hbz : ¬ b = 0 := by omega
  obtain ⟨M, hM⟩ : ∃ M : Nat, Hid (M = In.lim m) := ⟨_, Lib.hid rfl⟩
  have HM := Lib.hid (show 9223372036854775807 ≤ M ∧ M ≤ 9223372036854775808 by rw [hM.out]; exact In.lim_le m)
  have HMM := Lib.hid (show (M : Int) = if m = true then 9223372036854775808 else 9223372036854775807 by rw [hM.out]; cases m <;> rfl)
  rw [← hM.out] at HV
  clear hs hl hb2 hb ho hv hM
  go_enter Tryd.func61, Tryd.ntmps61
  go_upto_region 1 with fail
  go_quiet (fail)
  go_upto_if 12 with fail
  go_cut [4] (fun x wx => x = .int .u64 M ∧ Below (w.alloc (wrt m b s)).heap.size (w.alloc (wrt m b s)) wx)
  case first =>
    cases m
    · go_wp2_with fail
      go_meet
      exact ⟨by rw [HMM.out]; rfl, below_drewN (Below.refl _ _) _⟩
    · go_wp2_with fail
      go_meet
      exact ⟨by rw [HMM.out]; rfl, below_drewN (Below.refl _ _) _⟩
  case rest =>
    obtain ⟨rfl, hb0⟩ := hcut
    have R0 : AmRel (w.alloc (wrt m b s)) b M r 0 0 wc := ⟨Nat.zero_le _, rfl, Nat.zero_le _, hb0⟩
    obtain ⟨d0, d1, d2⟩ := wr_cells hb0
    clear hb0
    go_wp2_with fail
    clear d0 d1 d2
    go_loopw [2, 18] (fun v i wx => ∃ (k n : Nat), i = .int .i64 k ∧ v = .int .u64 n ∧ AmRel (w.alloc (wrt m b s)) b M r k n wx) (fun _ i _ => s.size - (intOf i).toNat)
    case atStart => exact ⟨0, 0, rfl, rfl, R0⟩
    case round =>
      obtain ⟨k, n, rfl, rfl, Rk⟩ := hrel
      clear R0
      have HRk := Lib.hid Rk
      obtain ⟨c0, c1, c2⟩ := wr_cells Rk.2.2.2
      have hkT : k ≤ s.size := by rw [HZ.out]; exact Rk.1
      clear Rk
      by_cases hlt : k < s.size
      · have hkr : k < r.length := by rw [← HZ.out]; exact hlt
        have hx := txt_at HS.out (k := k)
        have b0 := bt_lo r k
        have b1 := bt_hi r k
        obtain ⟨z, HYY⟩ : ∃ z, Hid (z = bt r k) := ⟨_, rfl⟩
        rw [← HYY.out] at hx b0 b1
        by_cases h95 : z = 95
        · have HE := Lib.hid (show bt r k = 95 by rw [← HYY.out]; exact h95)
          have F := Lib.hid (show AmRel (w.alloc (wrt m b s)) b M r (k + 1) n _ from ⟨hkr, by rw [HRk.out.2.1, amt_95 hkr HE.out], HRk.out.2.2.1, HRk.out.2.2.2⟩)
          subst h95
          go_wp2_with fail
          exact ⟨⟨k + 1, n, by simp, rfl, F.out⟩, by show s.size - ((k : Int) + 1).toNat < s.size - (k : Int).toNat; omega⟩
        · have hzi : (z == 95) = false := by simp [h95]
          have HE := Lib.hid (show bt r k ≠ 95 by rw [← HYY.out]; exact h95)
          obtain ⟨d, hd, hdb, he⟩ := amt_dg (M := M) (n := n) HBB.out HO.out hkr HE.out
          rw [← HYY.out] at hd
          have HP := Lib.hid (fun w => pdigit_is w hd.symm b0 b1)
          have HDB := Lib.hid hdb
          have HEE := Lib.hid he
          have w1 : IntKind.u64.wrap (d : Int) = d := IntWalk.u64_in _ (by have := HBB.out; omega)
          have w2 : IntKind.u64.wrap ((M : Int) - d) = ((M - d : Nat) : Int) := by
            have := HBB.out; have := HM.out
            rw [IntWalk.u64_in _ (by omega)]; omega
          obtain ⟨X, hX⟩ : ∃ X : Nat, X = M - d := ⟨_, rfl⟩
          rw [← hX] at w2
          have w3 : IntKind.u64.wrap ((X : Int) / b) = ((X / b : Nat) : Int) := by
            have h1 : X / b ≤ X := Nat.div_le_self _ _
            have := HM.out
            rw [IntWalk.u64_in _ (by constructor; exact Int.ediv_nonneg (by omega) (by omega); rw [← Int.natCast_ediv]; omega), Int.natCast_ediv]
          obtain ⟨Y, hY⟩ : ∃ Y : Nat, Y = X / b := ⟨_, rfl⟩
          rw [← hY] at w3
          by_cases hq : Y < n
          · have F := Lib.hid (show v = amv none by rw [HV.out, HRk.out.2.1, HEE.out, ← hX, ← hY, if_pos hq])
            have hqi : (Y : Int) < n := by omega
            clear he hd hdb hX hY
            go_wp2_with fail
            refine (HP.out _).mono ?_
            rintro e w1 ⟨rfl, rfl⟩
            go_wp2_with fail
            go_ret2
            exact ⟨by rw [F.out]; rfl, below_alloc HRk.out.2.2.2⟩
          · have hrm := room (n := n) HM.out.2 HB2.out hdb HBB.out (by have := HM.out; omega) (by rw [← hX, ← hY]; exact hq)
            have F := Lib.hid (show AmRel (w.alloc (wrt m b s)) b M r (k + 1) (n * b + d) _ from ⟨hkr, by rw [HRk.out.2.1, HEE.out, ← hX, ← hY, if_neg hq], hrm, HRk.out.2.2.2⟩)
            have hqi : ¬ (Y : Int) < n := by omega
            obtain ⟨U, hU⟩ : ∃ U : Nat, U = n * b := ⟨_, rfl⟩
            rw [← hU] at hrm F
            have w4 : IntKind.u64.wrap ((n : Int) * b) = U := by
              have := HM.out
              rw [hU, IntWalk.u64_in _ (by constructor; exact Int.mul_nonneg (by omega) (by omega); rw [← Int.natCast_mul, ← hU]; omega), Int.natCast_mul]
            have w5 : IntKind.u64.wrap ((U : Int) + d) = ((U + d : Nat) : Int) := by
              have := HM.out
              rw [IntWalk.u64_in _ (by omega)]; omega
            clear he hd hdb hX hY hU hrm
            go_wp2_with fail
            refine (HP.out _).mono ?_
            rintro e w1 ⟨rfl, rfl⟩
            go_wp2_with fail
            exact ⟨⟨k + 1, U + d, by simp, rfl, F.out⟩, by show s.size - ((k : Int) + 1).toNat < s.size - (k : Int).toNat; omega⟩
      · have F := Lib.hid (show v = amv (some n) by rw [HV.out, HRk.out.2.1, amt_end (by rw [← HZ.out]; omega)])
        go_wp2_with fail
        go_ret2
        exact ⟨by rw [F.out]; rfl, below_alloc HRk.out.2.2.2⟩
end Go.Proofs.YtonfaphllpjmpaaDoor
