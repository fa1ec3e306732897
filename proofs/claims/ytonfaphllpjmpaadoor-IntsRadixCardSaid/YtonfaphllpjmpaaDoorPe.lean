/- What landed: a value with its sign. -/
import Derived.Test.YtonfaphllpjmpaaDoorPd
namespace Go.Proofs.YtonfaphllpjmpaaDoor
open Go.RowKit

/-- What a value is told as. -/
def vav (m : Bool) : Option Nat → Value
  | some n => .tuple #[.int .i64 (In.sg2 m n), .bool true]
  | none => .tuple #[.int .i64 0, .bool false]
theorem amt_le {b M : Nat} : ∀ (r : List UInt8) (m n : Nat), m ≤ M → 0 < b → b ≤ 16 → 16 ≤ M → In.okB b r → In.amt b M m r = some n → n ≤ M
  | [], m, n, hm, _, _, _, _, h => by rw [In.amt] at h; injection h with h; omega
  | c :: r, m, n, hm, hb, hb2, hM, ho, h => by
    have ho2 : In.okB b r := fun x hx => ho x (List.mem_cons_of_mem _ hx)
    rw [In.amt] at h
    split at h
    · exact amt_le r m n hm hb hb2 hM ho2 h
    · rename_i hc
      have hd := (ho c (by simp)).resolve_left hc
      split at h
      · cases h
      · rename_i hq
        have h2 : m ≤ (M - In.dg c) / b := by omega
        have h3 := (Nat.le_div_iff_mul_le hb).1 h2
        exact amt_le r _ n (by omega) hb hb2 hM ho2 h
theorem sg_minus {n : Nat} (h : n ≤ 9223372036854775808) : IntKind.i64.wrap (-(IntKind.i64.wrap (n : Int))) = -(n : Int) := by
  by_cases h2 : n = 9223372036854775808
  · subst h2; decide +kernel
  · rw [IntWalk.i64_in (n : Int) (by omega), IntWalk.i64_in _ (by omega)]
set_option maxHeartbeats 4000000 in
theorem pvalue_is {r : List UInt8} {s : ByteArray} {m : Bool} {b : Nat} {v : Value} (w : World) (hs : s = txt r) (hl : r.length ≤ 100000) (hb2 : 2 ≤ b) (hb : b ≤ 16) (ho : In.okB b r) (hv : v = vav m (In.amt b (In.lim m) 0 r)) :
    Calls Tryd.prog 43 #[wrv m b s] w fun e w' => e = .returned v ∧ Below w.heap.size w w' := by
  obtain ⟨A, hA⟩ : ∃ A, A = In.amt b (In.lim m) 0 r := ⟨_, rfl⟩
  have HA := Lib.hid (fun w => pamount_is (m := m) w hs hl hb2 hb ho (by rw [← hA]))
  have HL : Hid (∀ n, A = some n → n ≤ In.lim m) := Lib.hid (fun n e => amt_le r 0 n (Nat.zero_le _) (by omega) hb (by have := In.lim_le m; omega) ho (by rw [← hA]; exact e))
  have HV := Lib.hid (show v = vav m A by rw [hv, hA])
  clear hs hl hb2 hb ho hv hA
  go_enter Tryd.func43, Tryd.ntmps43
  go_wp2_with fail
  refine (HA.out _).mono ?_
  rintro e w1 ⟨rfl, hb⟩
  have HB := Lib.hid (below_alloc hb)
  obtain ⟨c0, c1, c2⟩ := wr_cells hb
  clear hb HA
  cases A with
  | none =>
    rw [amv]
    go_wp2_with fail
    go_ret2
    exact ⟨by rw [HV.out]; rfl, HB.out⟩
  | some n =>
    rw [amv]
    have hn := HL.out n rfl
    cases m
    · have e1 : IntKind.i64.wrap (n : Int) = n := IntWalk.i64_in _ (by simp [In.lim] at hn; omega)
      clear hn HL
      go_wp2_with fail
      go_ret2
      exact ⟨by rw [HV.out]; rfl, HB.out⟩
    · obtain ⟨x, hx⟩ : ∃ x, x = IntKind.i64.wrap (n : Int) := ⟨_, rfl⟩
      have e1 : IntKind.i64.wrap (n : Int) = x := hx.symm
      have e2 : IntKind.i64.wrap (-x) = -(n : Int) := by rw [hx]; exact sg_minus (by simp [In.lim] at hn; omega)
      clear hn HL hx
      go_wp2_with fail
      go_ret2
      exact ⟨by rw [HV.out]; rfl, HB.out⟩
end Go.Proofs.YtonfaphllpjmpaaDoor
