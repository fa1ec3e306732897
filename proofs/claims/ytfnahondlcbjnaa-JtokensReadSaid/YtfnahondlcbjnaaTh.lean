/- The document's next token: spaces. -/
import Derived.Test.YtfnahondlcbjnaaTg
namespace Go.Proofs.Ytfnahondlcbjnaa
open Go.RowKit
namespace Jk

theorem byt_two {w : World} {B : Nat} {A : Option Addr} {l : List UInt8} (hA : Byt w B A l) (hB : B ≤ w.heap.size) (o p : Obj) : Byt ((w.alloc o).alloc p) B A l :=
  Lst.alloc (Lst.alloc hA hB o) (by simp; omega) p
section
variable {l : List UInt8} {A : Option Addr}
set_option maxHeartbeats 8000000 in
set_option maxRecDepth 100000 in
theorem rnext_space (n c i : Nat) {B : Nat} {x : Int} (w : World) (hn : n = l.length) (hA : Byt w B A l) (hB : B ≤ w.heap.size) (hm : n ≤ 1000000) (hx : x = i) (hi : spc (bt l i) = true) :
    Calls Try.prog 11 #[.slice A n c, .int .i64 x] w fun e w' => e = .returned (nxA i (nx (l.drop i))) ∧ Below w.heap.size w w' := by
  have hm0 := spc_v.1 hi
  have hil : i < l.length := bt_in (by omega)
  have E := Lib.hid (show nxA i (nx (l.drop i)) = .tuple #[rtV 0 x ((i + rw spc (l.drop i) : Nat) : Int), fvV 0 0] by
    rw [nx_space (by rw [bt_drop, Nat.add_zero]; exact hi), hx]; rfl)
  have HA := Lib.hid (byt_two hA hB (rtO 0 0 0) (fvO 0 0))
  obtain ⟨b, off, rfl, hb, hc⟩ := hA.at_ hil
  have k0 := hc i hil
  have hbw : b < w.heap.size := by omega
  obtain ⟨d, hd⟩ : ∃ d, d = bt l i := ⟨_, rfl⟩
  rw [← hd] at k0 hi
  have S := Lib.hid (fun w => rsp_is (c := d) (b := true) w hi.symm)
  have k1 : ((w.alloc (rtO 0 0 0)).alloc (fvO 0 0)).cell? ⟨b, off + i, none⟩ = some (.int .u8 d) := by
    rw [World.cell?_alloc_lt _ _ _ (by simp; omega), World.cell?_alloc_lt _ _ _ (by simpa using hbw)]; exact k0
  have h0 : ¬ x < 0 := by omega
  have h1 : ¬ (n : Int) ≤ x := by omega
  have hin : i < n := by omega
  subst hx
  have Hn := Lib.hid hn
  clear hn hA hB hi hil hc hd k0 hb hm0
  go_enter Try.func11, Try.ntmps11
  go_wp2_with (go_at_call 19; refine (S.out _).mono ?_; rintro e w' ⟨rfl, rfl⟩)
  go_loop [7] (fun v => ∃ j : Nat, v = .int .i64 j ∧ j ≤ n ∧ j + rw spc (l.drop j) = i + rw spc (l.drop i)) (fun v => n - (intOf v).toNat)
  case atStart => exact ⟨i, rfl, by omega, rfl⟩
  case round =>
    obtain ⟨j, rfl, hj, hs⟩ := hrel
    have HS := Lib.hid hs
    clear hs
    have G := Lib.hid (rw_at (p := spc) spc0 (l := l) (k := j))
    obtain ⟨d2, Hb⟩ : ∃ b, Hid (b = bt l j) := ⟨_, rfl⟩
    by_cases hd : spc d2 = true
    · have hlt : j < n := by
        have : j < l.length := bt_in (by rw [← Hb.out]; have := spc_v.1 hd; omega)
        have := Hn.out; omega
      have e : rw spc (l.drop j) = rw spc (l.drop (j + 1)) + 1 := by rw [G.out, ← Hb.out, if_pos hd]
      have E2 := Lib.hid e
      have D := Lib.hid (fun w => rsp_is (c := d2) (b := true) w hd.symm)
      clear e hd
      go_wp2_with first
        | (go_at_call 20; refine (rat_is n c j (v := d2) _ Hn.out HA.out rfl Hb.out).mono ?_; rintro e w' ⟨rfl, rfl⟩)
        | (go_at_call 19; refine (D.out _).mono ?_; rintro e w' ⟨rfl, rfl⟩)
      go_round
      case rel => exact ⟨j + 1, by go_num, by omega, by have := HS.out; have := E2.out; omega⟩
      case measure => simp [intOf]; omega
    · rw [Bool.not_eq_true] at hd
      have e : rw spc (l.drop j) = 0 := by rw [G.out, ← Hb.out, hd]; rfl
      have E2 := Lib.hid e
      have D := Lib.hid (fun w => rsp_is (c := d2) (b := false) w hd.symm)
      have F0 := Lib.hid (RS.start (w := w) (k := 0) (i := i) (j := j) (c := 0) (a := 0))
      clear e hd
      go_wp2_with first
        | (go_at_call 20; refine (rat_is n c j (v := d2) _ Hn.out HA.out rfl Hb.out).mono ?_; rintro e w' ⟨rfl, rfl⟩)
        | (go_at_call 19; refine (D.out _).mono ?_; rintro e w' ⟨rfl, rfl⟩)
      refine bodyPost_ret (v := .tuple #[rtV 0 i j, fvV 0 0]) (by simp [results, Try.results11, go_sem, *]) rfl ?_
      exact ⟨by rw [E.out]; have := HS.out; have := E2.out; rw [show i + rw spc (l.drop i) = j by omega], F0.out.below⟩
end
end Jk
end Go.Proofs.Ytfnahondlcbjnaa
