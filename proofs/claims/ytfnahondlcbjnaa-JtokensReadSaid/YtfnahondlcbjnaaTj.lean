/- The document's next token: what begins none. -/
import Derived.Test.YtfnahondlcbjnaaTh
namespace Go.Proofs.Ytfnahondlcbjnaa
open Go.RowKit
namespace Jk
section
variable {l : List UInt8} {A : Option Addr}
set_option maxHeartbeats 8000000 in
set_option maxRecDepth 100000 in
theorem rnext_other (n c i : Nat) {B : Nat} {x : Int} (w : World) (hn : n = l.length) (hA : Byt w B A l) (hB : B ≤ w.heap.size) (_hm : n ≤ 1000000) (hx : x = i) (hil : i < l.length)
    (g1 : spc (bt l i) = false) (g2 : mrk (bt l i) = false) (g3 : ltr (bt l i) = false) (g4 : ¬ bt l i = 45) (g5 : dg (bt l i) = false) (g6 : ¬ bt l i = 34) :
    Calls Try.prog 11 #[.slice A n c, .int .i64 x] w fun e w' => e = .returned (nxA i (nx (l.drop i))) ∧ Below w.heap.size w w' := by
  have e0 : bt (l.drop i) 0 = bt l i := by rw [bt_drop, Nat.add_zero]
  have E := Lib.hid (show nxA i (nx (l.drop i)) = .tuple #[rtV 0 0 0, fvV 3 x] by
    rw [nx_other (by rw [e0, g1]) (by rw [e0, g2]) (by rw [e0, g3]) (by rw [e0]; exact g4) (by rw [e0]; exact g5) (by rw [e0]; exact g6), hx]; rfl)
  obtain ⟨b, off, rfl, hb, hc⟩ := hA.at_ hil
  have k0 := hc i hil
  have hbw : b < w.heap.size := by omega
  obtain ⟨d, hd⟩ : ∃ d, d = bt l i := ⟨_, rfl⟩
  rw [← hd] at k0 g1 g2 g3 g4 g5 g6
  have S := Lib.hid (fun w => rsp_is (c := d) (b := false) w g1.symm)
  have D := Lib.hid (fun w => rdg_is (c := d) (b := false) w g5.symm)
  have k1 : ((w.alloc (rtO 0 0 0)).alloc (fvO 0 0)).cell? ⟨b, off + i, none⟩ = some (.int .u8 d) := by
    rw [World.cell?_alloc_lt _ _ _ (by simp; omega), World.cell?_alloc_lt _ _ _ (by simpa using hbw)]; exact k0
  have h0 : ¬ x < 0 := by omega
  have h1 : ¬ (n : Int) ≤ x := by omega
  have hin : i < n := by omega
  have m0 : ¬ (d = 123 ∨ d = 125 ∨ d = 91 ∨ d = 93 ∨ d = 44 ∨ d = 58) := fun h => by rw [mrk_v.2 h] at g2; cases g2
  have l0 : ¬ (97 ≤ d ∧ d ≤ 122) := fun h => by rw [ltr_v.2 h] at g3; cases g3
  have q1 : (d == 123) = false := by simp; omega
  have q2 : (d == 125) = false := by simp; omega
  have q3 : (d == 91) = false := by simp; omega
  have q4 : (d == 93) = false := by simp; omega
  have q5 : (d == 44) = false := by simp; omega
  have q6 : (d == 58) = false := by simp; omega
  have q7 : (d == 45) = false := by simp; omega
  have q8 : (d == 34) = false := by simp; omega
  have hcase : (97 ≤ d ∧ ¬ d ≤ 122) ∨ ¬ 97 ≤ d := by omega
  subst hx
  clear hn hA hB _hm g1 g2 g3 g4 g5 g6 hil hc hd k0 hb e0 m0 l0
  have F0 := Lib.hid (RS.start (w := w) (k := 0) (i := 0) (j := 0) (c := 0) (a := 0))
  rcases hcase with ⟨p1, p2⟩ | p1
  all_goals
    go_enter Try.func11, Try.ntmps11
    go_wp2_with first
      | (go_at_call 19; refine (S.out _).mono ?_; rintro e w' ⟨rfl, rfl⟩)
      | (go_at_call 21; refine (D.out _).mono ?_; rintro e w' ⟨rfl, rfl⟩)
    refine (rsyn_is _ _).mono ?_
    rintro e w1 ⟨rfl, hb⟩
    have F1 := Lib.hid (F0.out.on hb)
    clear hb
    obtain ⟨⟨c0, c1, c2, c3, c4⟩, f0, f1, f2, f3, f4⟩ := F1.out.cells
    go_wp2_with fail
    refine bodyPost_ret (v := .tuple #[rtV 0 0 0, fvV 3 i]) (by simp [results, Try.results11, go_sem, *]) rfl ?_
    exact ⟨by rw [E.out], F1.out.set.below⟩
end
end Jk
end Go.Proofs.Ytfnahondlcbjnaa
