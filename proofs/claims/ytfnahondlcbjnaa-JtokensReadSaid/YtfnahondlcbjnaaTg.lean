/- The document's next token: behind the end, marks, what begins none. -/
import Derived.Test.YtfnahondlcbjnaaTf
import Derived.Test.YtfnahondlcbjnaaTc
namespace Go.Proofs.Ytfnahondlcbjnaa
open Go.RowKit
namespace Jk

/-- What is answered of a place. -/
def nxA (i : Nat) : TR → Value
  | .tok k n => .tuple #[rtV k i ((i + n : Nat) : Int), fvV 0 0]
  | .bad n => .tuple #[rtV 0 0 0, fvV 3 ((i + n : Nat) : Int)]
section
variable {l : List UInt8} {A : Option Addr}
set_option maxHeartbeats 8000000 in
set_option maxRecDepth 100000 in
theorem rnext_neg (n c : Nat) {x : Int} (w : World) (hx : x < 0) :
    Calls Try.prog 11 #[.slice A n c, .int .i64 x] w fun e w' => e = .returned (.tuple #[rtV 0 0 0, fvV 3 0]) ∧ Below w.heap.size w w' := by
  have F0 := Lib.hid (RS.start (w := w) (k := 0) (i := 0) (j := 0) (c := 0) (a := 0))
  go_enter Try.func11, Try.ntmps11
  go_wp2_with fail
  refine (rsyn_is _ _).mono ?_
  rintro e w1 ⟨rfl, hb⟩
  have F1 := Lib.hid (F0.out.on hb)
  clear hb
  obtain ⟨⟨c0, c1, c2, c3, c4⟩, f0, f1, f2, f3, f4⟩ := F1.out.cells
  go_wp2_with fail
  refine bodyPost_ret (v := .tuple #[rtV 0 0 0, fvV 3 0]) (by simp [results, Try.results11, go_sem, *]) rfl ?_
  exact ⟨rfl, F1.out.set.below⟩
set_option maxHeartbeats 8000000 in
set_option maxRecDepth 100000 in
theorem rnext_end (n c i : Nat) {x : Int} (w : World) (hn : n = l.length) (hx : x = i) (hi : l.length ≤ i) :
    Calls Try.prog 11 #[.slice A n c, .int .i64 x] w fun e w' => e = .returned (nxA i (nx (l.drop i))) ∧ Below w.heap.size w w' := by
  have E := Lib.hid (show nxA i (nx (l.drop i)) = .tuple #[rtV 0 0 0, fvV 3 x] by rw [List.drop_eq_nil_of_le hi, nx, if_pos rfl, hx]; rfl)
  have h0 : ¬ x < 0 := by omega
  have h1 : (n : Int) ≤ x := by omega
  clear hx hi hn
  have F0 := Lib.hid (RS.start (w := w) (k := 0) (i := 0) (j := 0) (c := 0) (a := 0))
  go_enter Try.func11, Try.ntmps11
  go_wp2_with fail
  refine (rsyn_is _ _).mono ?_
  rintro e w1 ⟨rfl, hb⟩
  have F1 := Lib.hid (F0.out.on hb)
  clear hb
  obtain ⟨⟨c0, c1, c2, c3, c4⟩, f0, f1, f2, f3, f4⟩ := F1.out.cells
  go_wp2_with fail
  refine bodyPost_ret (v := .tuple #[rtV 0 0 0, fvV 3 x]) (by simp [results, Try.results11, go_sem, *]) rfl ?_
  exact ⟨by rw [E.out], F1.out.set.below⟩
set_option maxHeartbeats 8000000 in
set_option maxRecDepth 100000 in
theorem rnext_mark (n c i : Nat) {B : Nat} {x : Int} (w : World) (hn : n = l.length) (hA : Byt w B A l) (hB : B ≤ w.heap.size) (hm : n ≤ 1000000) (hx : x = i) (hi : mrk (bt l i) = true) :
    Calls Try.prog 11 #[.slice A n c, .int .i64 x] w fun e w' => e = .returned (nxA i (nx (l.drop i))) ∧ Below w.heap.size w w' := by
  have hm0 := mrk_v.1 hi
  have hil : i < l.length := bt_in (by omega)
  have E := Lib.hid (show nxA i (nx (l.drop i)) = .tuple #[rtV 1 x (x + 1), fvV 0 0] by
    rw [nx_mark (by rw [bt_drop, Nat.add_zero]; exact hi), hx]; rfl)
  obtain ⟨b, off, rfl, hb, hc⟩ := hA.at_ hil
  have k0 := hc i hil
  have hbw : b < w.heap.size := by omega
  obtain ⟨d, hd⟩ : ∃ d, d = bt l i := ⟨_, rfl⟩
  rw [← hd] at k0 hm0
  have S := Lib.hid (fun w => rsp_is (c := d) (b := false) w (by rw [spc_no]; omega))
  have k1 : ((w.alloc (rtO 0 0 0)).alloc (fvO 0 0)).cell? ⟨b, off + i, none⟩ = some (.int .u8 d) := by
    rw [World.cell?_alloc_lt _ _ _ (by simp; omega), World.cell?_alloc_lt _ _ _ (by simpa using hbw)]; exact k0
  have h0 : ¬ x < 0 := by omega
  have h1 : ¬ (n : Int) ≤ x := by omega
  have hin : i < n := by omega
  have hi6 : i ≤ 1000000 := by omega
  subst hx
  have hw : wrap64 ((i : Int) + 1) = i + 1 := by unfold wrap64; omega
  clear hn hA hB hm hi hil hc hd k0 hb
  have F0 := Lib.hid (RS.start (w := w) (k := 1) (i := i) (j := i + 1) (c := 0) (a := 0))
  have hM : d = 123 ∨ d = 125 ∨ d = 91 ∨ d = 93 ∨ d = 44 ∨ d = 58 := hm0
  clear hm0
  rcases hM with rfl | rfl | rfl | rfl | rfl | rfl
  all_goals
    go_enter Try.func11, Try.ntmps11
    go_wp2_with (go_at_call 19; refine (S.out _).mono ?_; rintro e w' ⟨rfl, rfl⟩)
    refine bodyPost_ret (v := .tuple #[rtV 1 i (i + 1), fvV 0 0]) (by simp [results, Try.results11, go_sem, *]) rfl ?_
    exact ⟨by rw [E.out], F0.out.below⟩
end
end Jk
end Go.Proofs.Ytfnahondlcbjnaa
