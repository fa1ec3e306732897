/- The document's next token: a minus with no digit behind. -/
import Derived.Test.YtfnahondlcbjnaaTh
namespace Go.Proofs.Ytfnahondlcbjnaa
open Go.RowKit
namespace Jk
section
variable {l : List UInt8} {A : Option Addr}
set_option maxHeartbeats 8000000 in
set_option maxRecDepth 100000 in
theorem rnext_minus (n c i : Nat) {B : Nat} {x : Int} (w : World) (hn : n = l.length) (hA : Byt w B A l) (hB : B ≤ w.heap.size) (hm : n ≤ 1000000) (hx : x = i) (g : bt l i = 45) (g5 : dg (bt l (i + 1)) = false) :
    Calls Try.prog 11 #[.slice A n c, .int .i64 x] w fun e w' => e = .returned (nxA i (nx (l.drop i))) ∧ Below w.heap.size w w' := by
  have hil : i < l.length := bt_in (by omega)
  have e0 : bt (l.drop i) 0 = 45 := by rw [bt_drop, Nat.add_zero, g]
  have em : mnE (l.drop i) = 1 := by rw [mnE, if_pos e0]
  have E := Lib.hid (show nxA i (nx (l.drop i)) = .tuple #[rtV 0 0 0, fvV 3 (i + 1)] by
    rw [nx_digit (.inl e0), em, bt_drop, g5]; rfl)
  have HA := Lib.hid (byt_two hA hB (rtO 0 0 0) (fvO 0 0))
  obtain ⟨b, off, rfl, hb, hc⟩ := hA.at_ hil
  have k0 := hc i hil
  have hbw : b < w.heap.size := by omega
  rw [g] at k0
  have S := Lib.hid (fun w => rsp_is (c := 45) (b := false) w rfl)
  obtain ⟨d2, Hb⟩ : ∃ b, Hid (b = bt l (i + 1)) := ⟨_, rfl⟩
  rw [← Hb.out] at g5
  have D := Lib.hid (fun w => rdg_is (c := d2) (b := false) w g5.symm)
  have k1 : ((w.alloc (rtO 0 0 0)).alloc (fvO 0 0)).cell? ⟨b, off + i, none⟩ = some (.int .u8 45) := by
    rw [World.cell?_alloc_lt _ _ _ (by simp; omega), World.cell?_alloc_lt _ _ _ (by simpa using hbw)]; exact k0
  have h0 : ¬ x < 0 := by omega
  have h1 : ¬ (n : Int) ≤ x := by omega
  have hin : i < n := by omega
  have hi6 : i ≤ 1000000 := by omega
  subst hx
  have hw : wrap64 ((i : Int) + 1) = i + 1 := by unfold wrap64; omega
  have Hn := Lib.hid hn
  clear hn hA hB g g5 hil hc k0 hb e0 em
  have F0 := Lib.hid (RS.start (w := w) (k := 0) (i := 0) (j := 0) (c := 0) (a := 0))
  go_enter Try.func11, Try.ntmps11
  go_wp2_with first
    | (go_at_call 19; refine (S.out _).mono ?_; rintro e w' ⟨rfl, rfl⟩)
    | (go_at_call 20; refine (rat_is n c (i + 1) (v := d2) _ Hn.out HA.out (by omega) Hb.out).mono ?_; rintro e w' ⟨rfl, rfl⟩)
    | (go_at_call 21; refine (D.out _).mono ?_; rintro e w' ⟨rfl, rfl⟩)
  refine (rsyn_is _ _).mono ?_
  rintro e w1 ⟨rfl, hb⟩
  have F1 := Lib.hid (F0.out.on hb)
  clear hb
  obtain ⟨⟨c0, c1, c2, c3, c4⟩, f0, f1, f2, f3, f4⟩ := F1.out.cells
  go_wp2_with fail
  refine bodyPost_ret (v := .tuple #[rtV 0 0 0, fvV 3 (i + 1)]) (by simp [results, Try.results11, go_sem, *]) rfl ?_
  exact ⟨by rw [E.out], F1.out.set.below⟩
end
end Jk
end Go.Proofs.Ytfnahondlcbjnaa
