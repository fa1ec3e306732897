/- The document's small words: a byte at a place, a space, a digit, hex; where digits end. -/
import Derived.Test.YtdclhepjoifpiaaGreatDoorAt
import Derived.LoopTactic
import Derived.Outline
import Derived.Test.YtdclhepjoifpiaaGreatDoorProg
import Derived.OneCell
namespace Go.Proofs.YtdclhepjoifpiaaGreatDoor
open Go.RowKit
namespace Jk

theorem rdg_is {c : Int} {b : Bool} (w : World) (h : b = dg c) : Calls Tryz.prog 48 #[.int .u8 c] w fun e w' => e = .returned (.bool b) ∧ w = w' := by
  unfold dg at h
  by_cases h1 : 48 ≤ c
  · by_cases h2 : c ≤ 57
    · have E := Lib.hid (show b = true by rw [h]; simp; omega)
      clear h
      go_enter Tryz.func48, Tryz.ntmps48
      go_wp2_with fail
      go_ret
      exact ⟨ret_bool E.out.symm, rfl⟩
    · have E := Lib.hid (show b = false by rw [h]; simp; omega)
      clear h
      go_enter Tryz.func48, Tryz.ntmps48
      go_wp2_with fail
      go_ret
      exact ⟨ret_bool E.out.symm, rfl⟩
  · have E := Lib.hid (show b = false by rw [h]; simp; omega)
    clear h
    go_enter Tryz.func48, Tryz.ntmps48
    go_wp2_with fail
    go_ret
    exact ⟨ret_bool E.out.symm, rfl⟩
theorem rsp_is {c : Int} {b : Bool} (w : World) (h : b = spc c) : Calls Tryz.prog 46 #[.int .u8 c] w fun e w' => e = .returned (.bool b) ∧ w = w' := by
  unfold spc at h
  by_cases h1 : c = 32
  · subst h1; subst h
    go_enter Tryz.func46, Tryz.ntmps46
    go_wp2_with fail
    go_ret
    exact ⟨rfl, rfl⟩
  by_cases h2 : c = 9
  · subst h2; subst h
    go_enter Tryz.func46, Tryz.ntmps46
    go_wp2_with fail
    go_ret
    exact ⟨rfl, rfl⟩
  by_cases h3 : c = 10
  · subst h3; subst h
    go_enter Tryz.func46, Tryz.ntmps46
    go_wp2_with fail
    go_ret
    exact ⟨rfl, rfl⟩
  have q1 : (c == 32) = false := by simp; omega
  have q2 : (c == 9) = false := by simp; omega
  have q3 : (c == 10) = false := by simp; omega
  have E := Lib.hid (show b = (c == 13) by rw [h]; by_cases q : c = 13 <;> simp [q, h1, h2, h3])
  clear h
  go_enter Tryz.func46, Tryz.ntmps46
  go_wp2_with fail
  go_ret
  exact ⟨ret_bool E.out.symm, rfl⟩
theorem rhx_is {c : Int} {b : Bool} (w : World) (h : b = hx c) : Calls Tryz.prog 50 #[.int .u8 c] w fun e w' => e = .returned (.bool b) ∧ w = w' := by
  have D : ∀ w, Calls Tryz.prog 48 #[.int .u8 c] w fun e w' => e = .returned (.bool (dg c)) ∧ w = w' := fun w => rdg_is w rfl
  by_cases h0 : dg c = true
  · have E := Lib.hid (show b = true by have := dg_iff.1 h0; rw [h]; simp [hx]; omega)
    rw [h0] at D
    have D := Lib.hid D
    clear h
    go_enter Tryz.func50, Tryz.ntmps50
    go_wp2_with (go_at_call 48; refine (D.out _).mono ?_; rintro e w' ⟨rfl, rfl⟩)
    go_ret
    exact ⟨ret_bool E.out.symm, rfl⟩
  have hd : ¬ (48 ≤ c ∧ c ≤ 57) := fun g => h0 (dg_iff.2 g)
  rw [Bool.not_eq_true] at h0
  rw [h0] at D
  have D := Lib.hid D
  replace h : b = decide (97 ≤ c ∧ c ≤ 102 ∨ 65 ≤ c ∧ c ≤ 70) := by rw [h, hx, decide_eq_decide]; omega
  have hd := Lib.hid hd
  by_cases h1 : 97 ≤ c
  · by_cases h2 : c ≤ 102
    · have E := Lib.hid (show b = true by rw [h]; simp; omega)
      clear h
      go_enter Tryz.func50, Tryz.ntmps50
      go_wp2_with (go_at_call 48; refine (D.out _).mono ?_; rintro e w' ⟨rfl, rfl⟩)
      go_ret
      exact ⟨ret_bool (by rw [E.out] <;> (try simp) <;> (try omega)), rfl⟩
    · have E := Lib.hid (show b = false by rw [h]; simp; omega)
      clear h
      go_enter Tryz.func50, Tryz.ntmps50
      go_wp2_with (go_at_call 48; refine (D.out _).mono ?_; rintro e w' ⟨rfl, rfl⟩)
      go_ret
      exact ⟨ret_bool (by rw [E.out] <;> (try simp) <;> (try omega)), rfl⟩
  · by_cases h3 : 65 ≤ c
    · by_cases h4 : c ≤ 70
      · have E := Lib.hid (show b = true by rw [h]; simp; omega)
        clear h
        go_enter Tryz.func50, Tryz.ntmps50
        go_wp2_with (go_at_call 48; refine (D.out _).mono ?_; rintro e w' ⟨rfl, rfl⟩)
        go_ret
        exact ⟨ret_bool (by rw [E.out] <;> (try simp) <;> (try omega)), rfl⟩
      · have E := Lib.hid (show b = false by rw [h]; simp; omega)
        clear h
        go_enter Tryz.func50, Tryz.ntmps50
        go_wp2_with (go_at_call 48; refine (D.out _).mono ?_; rintro e w' ⟨rfl, rfl⟩)
        go_ret
        exact ⟨ret_bool (by rw [E.out] <;> (try simp) <;> (try omega)), rfl⟩
    · have E := Lib.hid (show b = false by rw [h]; simp; omega)
      clear h
      go_enter Tryz.func50, Tryz.ntmps50
      go_wp2_with (go_at_call 48; refine (D.out _).mono ?_; rintro e w' ⟨rfl, rfl⟩)
      go_ret
      exact ⟨ret_bool (by rw [E.out] <;> (try simp) <;> (try omega)), rfl⟩
section
variable {l : List UInt8} {B : Nat} {A : Option Addr}
theorem rat_is (n c k : Nat) {x v : Int} (w : World) (hn : n = l.length) (hA : Byt w B A l) (hx : x = k) (hv : v = bt l k) :
    Calls Tryz.prog 47 #[.slice A n c, .int .i64 x] w fun e w' => e = .returned (.int .u8 v) ∧ w = w' := by
  subst hx
  by_cases h : k < n
  · obtain ⟨b, off, rfl, _, hc⟩ := hA.at_ (k := k) (by omega)
    have c1 := hc k (by omega)
    rw [← hv] at c1
    clear hc hv hn
    go_enter Tryz.func47, Tryz.ntmps47
    go_wp2_with fail
    go_ret
    exact ⟨rfl, rfl⟩
  · have E := Lib.hid (show v = 0 by rw [hv]; exact bt_far (by omega))
    clear hv hn
    go_enter Tryz.func47, Tryz.ntmps47
    go_wp2_with fail
    go_ret
    exact ⟨ret_int E.out.symm, rfl⟩
theorem rdigits_is (n c k : Nat) {x v : Int} (w : World) (hn : n = l.length) (hA : Byt w B A l) (hm : n ≤ 1000000) (hx : x = k) (hk : k ≤ 1000100) (hv : v = ((k + rw dg (l.drop k) : Nat) : Int)) :
    Calls Tryz.prog 49 #[.slice A n c, .int .i64 x] w fun e w' => e = .returned (.int .i64 v) ∧ w = w' := by
  subst hx
  have Hn := Lib.hid hn
  have Hv := Lib.hid hv
  clear hn hv
  go_enter Tryz.func49, Tryz.ntmps49
  go_wp2
  go_loop [1] (fun i => ∃ j : Nat, i = .int .i64 j ∧ j ≤ 1000100 ∧ v = ((j + rw dg (l.drop j) : Nat) : Int)) (fun i => n - (intOf i).toNat)
  case atStart => exact ⟨k, rfl, hk, Hv.out⟩
  case round =>
    obtain ⟨j, rfl, hj, hs⟩ := hrel
    have HS := Lib.hid hs
    clear hs
    have G := Lib.hid (rw_at (p := dg) dg0 (l := l) (k := j))
    obtain ⟨b, Hb⟩ : ∃ b, Hid (b = bt l j) := ⟨_, rfl⟩
    by_cases hd : dg b = true
    · have hlt : j < n := by have := dg_in (l := l) (k := j) (by rw [← Hb.out]; exact hd); have := Hn.out; omega
      have e : rw dg (l.drop j) = rw dg (l.drop (j + 1)) + 1 := by rw [G.out, ← Hb.out, if_pos hd]
      have E := Lib.hid e
      have D := Lib.hid (fun w => rdg_is (c := b) (b := true) w hd.symm)
      clear e hd
      go_wp2_with first
        | (go_at_call 47; refine (rat_is n c j (v := b) _ Hn.out hA rfl Hb.out).mono ?_; rintro e w' ⟨rfl, rfl⟩)
        | (go_at_call 48; refine (D.out _).mono ?_; rintro e w' ⟨rfl, rfl⟩)
      go_round
      case rel => exact ⟨j + 1, by go_num, by omega, by rw [HS.out, E.out]; congr 1; omega⟩
      case measure => simp [intOf]; omega
    · rw [Bool.not_eq_true] at hd
      have e : rw dg (l.drop j) = 0 := by rw [G.out, ← Hb.out, hd]; rfl
      have E := Lib.hid e
      have D := Lib.hid (fun w => rdg_is (c := b) (b := false) w hd.symm)
      clear e hd
      go_wp2_with first
        | (go_at_call 47; refine (rat_is n c j (v := b) _ Hn.out hA rfl Hb.out).mono ?_; rintro e w' ⟨rfl, rfl⟩)
        | (go_at_call 48; refine (D.out _).mono ?_; rintro e w' ⟨rfl, rfl⟩)
      go_ret
      exact ⟨ret_int (by rw [HS.out, E.out]; rfl), rfl⟩
end
end Jk
end Go.Proofs.YtdclhepjoifpiaaGreatDoor
/- The document's fault of a place; its two answers' blocks. -/
namespace Go.Proofs.YtdclhepjoifpiaaGreatDoor
open Go.RowKit
namespace Jk

theorem below_tr {a b c : World} (h1 : Below a.heap.size a b) (h2 : Below b.heap.size b c) : Below a.heap.size a c :=
  h1.trans (h2.mono h1.size)
/-- A token of the document's, a fault. -/
abbrev rtV (k i j : Int) : Value := .agg #[.int .i64 k, .int .i64 i, .int .i64 j]
abbrev fvV (c a : Int) : Value := .agg #[.int .i64 c, .int .i64 a]
abbrev rtO (k i j : Int) : Obj := .cells #[.int .i64 k, .int .i64 i, .int .i64 j] 72
abbrev fvO (c a : Int) : Obj := .cells #[.int .i64 c, .int .i64 a] 30
/-- The answers' blocks: a token's, a fault's. -/
structure RS (w wx : World) (k i j c a : Int) : Prop where
  below : Below w.heap.size w wx
  r : wx.heap[w.heap.size]? = some (rtO k i j)
  v : wx.heap[w.heap.size + 1]? = some (fvO c a)
theorem lt_blk {wx : World} {k : Nat} {o : Obj} (h : wx.heap[k]? = some o) : k < wx.heap.size := by
  rcases Nat.lt_or_ge k wx.heap.size with q | q
  · exact q
  · rw [Array.getElem?_eq_none q] at h; cases h
section
variable {w wx wy : World} {k i j c a k' i' j' c' a' : Int}
theorem RS.start : RS w ((w.alloc (rtO k i j)).alloc (fvO c a)) k i j c a := by
  refine ⟨((Below.refl _ _).alloc (Nat.le_refl _) _).alloc (by simp) _, ?_, ?_⟩
  · show ((w.heap.push _).push _)[w.heap.size]? = _
    rw [Array.getElem?_push, if_neg (by simp), Array.getElem?_push, if_pos rfl]
  · show ((w.heap.push _).push _)[w.heap.size + 1]? = _
    rw [Array.getElem?_push, if_pos (by simp)]
theorem RS.on (H : RS w wx k i j c a) (hb : Below wx.heap.size wx wy) : RS w wy k i j c a :=
  ⟨below_tr H.below hb, by rw [hb.block _ (lt_blk H.r)]; exact H.r, by rw [hb.block _ (lt_blk H.v)]; exact H.v⟩
theorem RS.cells (H : RS w wx k i j c a) : (wx.cell? ⟨w.heap.size, 0, none⟩ = some (.int .i64 k) ∧ wx.cell? ⟨w.heap.size, 1, none⟩ = some (.int .i64 i) ∧ wx.cell? ⟨w.heap.size, 2, none⟩ = some (.int .i64 j) ∧ wx.cell? ⟨w.heap.size + 1, 0, none⟩ = some (.int .i64 c) ∧ wx.cell? ⟨w.heap.size + 1, 1, none⟩ = some (.int .i64 a)) ∧
    wx.frozen? ⟨w.heap.size, 0, none⟩ = false ∧ wx.frozen? ⟨w.heap.size, 1, none⟩ = false ∧ wx.frozen? ⟨w.heap.size, 2, none⟩ = false ∧ wx.frozen? ⟨w.heap.size + 1, 0, none⟩ = false ∧ wx.frozen? ⟨w.heap.size + 1, 1, none⟩ = false := by
  simp [World.cell?, World.frozen?, H.r, H.v]
theorem RS.set (H : RS w wx k i j c a) : RS w (((((wx.setCell ⟨w.heap.size, 0, none⟩ (.int .i64 k')).setCell ⟨w.heap.size, 1, none⟩ (.int .i64 i')).setCell ⟨w.heap.size, 2, none⟩ (.int .i64 j')).setCell ⟨w.heap.size + 1, 0, none⟩ (.int .i64 c')).setCell ⟨w.heap.size + 1, 1, none⟩ (.int .i64 a')) k' i' j' c' a' := by
  have h1 := heap_setCell_same wx w.heap.size 0 _ _ (.int .i64 k') H.r
  have h2 := heap_setCell_same _ w.heap.size 1 _ _ (.int .i64 i') h1
  have h3 := heap_setCell_same _ w.heap.size 2 _ _ (.int .i64 j') h2
  have oth : ∀ (W : World) (p q n : Nat) (o : Obj) (u : Value), p ≠ q → W.heap[p]? = some o → (W.setCell ⟨q, n, none⟩ u).heap[p]? = some o := fun W p q n o u hpq hW => by
    rw [heap_setCell_other W ⟨q, n, none⟩ p u (by simpa using hpq)]; exact hW
  have g0 := oth _ (w.heap.size + 1) w.heap.size 2 _ (.int .i64 j') (by omega) (oth _ (w.heap.size + 1) w.heap.size 1 _ (.int .i64 i') (by omega) (oth _ (w.heap.size + 1) w.heap.size 0 _ (.int .i64 k') (by omega) H.v))
  have g1 := heap_setCell_same _ (w.heap.size + 1) 0 _ _ (.int .i64 c') g0
  have g2 := heap_setCell_same _ (w.heap.size + 1) 1 _ _ (.int .i64 a') g1
  refine ⟨((((H.below.setCell (by simp) _).setCell (by simp) _).setCell (by simp) _).setCell (by simp) _).setCell (by simp) _, ?_, g2⟩
  exact oth _ _ _ _ _ _ (by omega) (oth _ _ _ _ _ _ (by omega) h3)
end
theorem rsyn_is (x : Int) (w : World) : Calls Tryz.prog 45 #[.int .i64 x] w fun e w' => e = .returned (.tuple #[rtV 0 0 0, fvV 3 x]) ∧ Below w.heap.size w w' := by
  have F0 := Lib.hid (RS.start (w := w) (k := 0) (i := 0) (j := 0) (c := 3) (a := x))
  go_enter Tryz.func45, Tryz.ntmps45
  go_wp2_with fail
  refine bodyPost_ret (v := .tuple #[rtV 0 0 0, fvV 3 x]) (by simp [results, Tryz.results45, go_sem, *]) rfl ?_
  exact ⟨rfl, F0.out.below⟩
end Jk
end Go.Proofs.YtdclhepjoifpiaaGreatDoor
/- The document's next token: behind the end, marks, what begins none. -/
namespace Go.Proofs.YtdclhepjoifpiaaGreatDoor
open Go.RowKit
namespace Jk

/-- What is answered of a place. -/
def nxA (i : Nat) : TR → Value
  | .tok k n => .tuple #[rtV k i ((i + n : Nat) : Int), fvV 0 0]
  | .bad n => .tuple #[rtV 0 0 0, fvV 3 ((i + n : Nat) : Int)]
section
variable {l : List UInt8} {A : Option Addr}
set_option maxHeartbeats 8000000 in
set_option maxRecDepth 100000 in
theorem rnext_neg (n c : Nat) {x : Int} (w : World) (hx : x < 0) :
    Calls Tryz.prog 32 #[.slice A n c, .int .i64 x] w fun e w' => e = .returned (.tuple #[rtV 0 0 0, fvV 3 0]) ∧ Below w.heap.size w w' := by
  have F0 := Lib.hid (RS.start (w := w) (k := 0) (i := 0) (j := 0) (c := 0) (a := 0))
  go_enter Tryz.func32, Tryz.ntmps32
  go_wp2_with fail
  refine (rsyn_is _ _).mono ?_
  rintro e w1 ⟨rfl, hb⟩
  have F1 := Lib.hid (F0.out.on hb)
  clear hb
  obtain ⟨⟨c0, c1, c2, c3, c4⟩, f0, f1, f2, f3, f4⟩ := F1.out.cells
  go_wp2_with fail
  refine bodyPost_ret (v := .tuple #[rtV 0 0 0, fvV 3 0]) (by simp [results, Tryz.results32, go_sem, *]) rfl ?_
  exact ⟨rfl, F1.out.set.below⟩
set_option maxHeartbeats 8000000 in
set_option maxRecDepth 100000 in
theorem rnext_end (n c i : Nat) {x : Int} (w : World) (hn : n = l.length) (hx : x = i) (hi : l.length ≤ i) :
    Calls Tryz.prog 32 #[.slice A n c, .int .i64 x] w fun e w' => e = .returned (nxA i (nx (l.drop i))) ∧ Below w.heap.size w w' := by
  have E := Lib.hid (show nxA i (nx (l.drop i)) = .tuple #[rtV 0 0 0, fvV 3 x] by rw [List.drop_eq_nil_of_le hi, nx, if_pos rfl, hx]; rfl)
  have h0 : ¬ x < 0 := by omega
  have h1 : (n : Int) ≤ x := by omega
  clear hx hi hn
  have F0 := Lib.hid (RS.start (w := w) (k := 0) (i := 0) (j := 0) (c := 0) (a := 0))
  go_enter Tryz.func32, Tryz.ntmps32
  go_wp2_with fail
  refine (rsyn_is _ _).mono ?_
  rintro e w1 ⟨rfl, hb⟩
  have F1 := Lib.hid (F0.out.on hb)
  clear hb
  obtain ⟨⟨c0, c1, c2, c3, c4⟩, f0, f1, f2, f3, f4⟩ := F1.out.cells
  go_wp2_with fail
  refine bodyPost_ret (v := .tuple #[rtV 0 0 0, fvV 3 x]) (by simp [results, Tryz.results32, go_sem, *]) rfl ?_
  exact ⟨by rw [E.out], F1.out.set.below⟩
set_option maxHeartbeats 8000000 in
set_option maxRecDepth 100000 in
theorem rnext_mark (n c i : Nat) {B : Nat} {x : Int} (w : World) (hn : n = l.length) (hA : Byt w B A l) (hB : B ≤ w.heap.size) (hm : n ≤ 1000000) (hx : x = i) (hi : mrk (bt l i) = true) :
    Calls Tryz.prog 32 #[.slice A n c, .int .i64 x] w fun e w' => e = .returned (nxA i (nx (l.drop i))) ∧ Below w.heap.size w w' := by
  have hm0 := mrk_v.1 hi
  have hil : i < l.length := bt_in (by omega)
  have E := Lib.hid (show nxA i (nx (l.drop i)) = .tuple #[rtV 1 x (x + 1), fvV 0 0] by
    rw [nx_mark (by rw [bt_drop, Nat.add_zero]; exact hi), hx]; rfl)
  obtain ⟨b, off, rfl, hb, hc⟩ := hA.at_ hil
  have k0 := hc i hil
  have hbw : b < w.heap.size := by omega
  obtain ⟨d, hd⟩ : ∃ d, d = bt l i := ⟨_, rfl⟩
  rw [← hd] at k0 hm0
  have S := Lib.hid (fun w => rsp_is (c := d) (b := false) w (by rw [spc_no]; omega))
  have k1 : ((w.alloc (rtO 0 0 0)).alloc (fvO 0 0)).cell? ⟨b, off + i, none⟩ = some (.int .u8 d) := by
    rw [World.cell?_alloc_lt _ _ _ (by simp; omega), World.cell?_alloc_lt _ _ _ (by simpa using hbw)]; exact k0
  have h0 : ¬ x < 0 := by omega
  have h1 : ¬ (n : Int) ≤ x := by omega
  have hin : i < n := by omega
  have hi6 : i ≤ 1000000 := by omega
  subst hx
  have hw : wrap64 ((i : Int) + 1) = i + 1 := by unfold wrap64; omega
  clear hn hA hB hm hi hil hc hd k0 hb
  have F0 := Lib.hid (RS.start (w := w) (k := 1) (i := i) (j := i + 1) (c := 0) (a := 0))
  have hM : d = 123 ∨ d = 125 ∨ d = 91 ∨ d = 93 ∨ d = 44 ∨ d = 58 := hm0
  clear hm0
  rcases hM with rfl | rfl | rfl | rfl | rfl | rfl
  all_goals
    go_enter Tryz.func32, Tryz.ntmps32
    go_wp2_with (go_at_call 46; refine (S.out _).mono ?_; rintro e w' ⟨rfl, rfl⟩)
    refine bodyPost_ret (v := .tuple #[rtV 1 i (i + 1), fvV 0 0]) (by simp [results, Tryz.results32, go_sem, *]) rfl ?_
    exact ⟨by rw [E.out], F0.out.below⟩
end
end Jk
end Go.Proofs.YtdclhepjoifpiaaGreatDoor
/- The document's next token: spaces. -/
namespace Go.Proofs.YtdclhepjoifpiaaGreatDoor
open Go.RowKit
namespace Jk

theorem byt_two {w : World} {B : Nat} {A : Option Addr} {l : List UInt8} (hA : Byt w B A l) (hB : B ≤ w.heap.size) (o p : Obj) : Byt ((w.alloc o).alloc p) B A l :=
  Lst.alloc (Lst.alloc hA hB o) (by simp; omega) p
section
variable {l : List UInt8} {A : Option Addr}
set_option maxHeartbeats 8000000 in
set_option maxRecDepth 100000 in
theorem rnext_space (n c i : Nat) {B : Nat} {x : Int} (w : World) (hn : n = l.length) (hA : Byt w B A l) (hB : B ≤ w.heap.size) (hm : n ≤ 1000000) (hx : x = i) (hi : spc (bt l i) = true) :
    Calls Tryz.prog 32 #[.slice A n c, .int .i64 x] w fun e w' => e = .returned (nxA i (nx (l.drop i))) ∧ Below w.heap.size w w' := by
  have hm0 := spc_v.1 hi
  have hil : i < l.length := bt_in (by omega)
  have E := Lib.hid (show nxA i (nx (l.drop i)) = .tuple #[rtV 0 x ((i + rw spc (l.drop i) : Nat) : Int), fvV 0 0] by
    rw [nx_space (by rw [bt_drop, Nat.add_zero]; exact hi), hx]; rfl)
  have HA := Lib.hid (byt_two hA hB (rtO 0 0 0) (fvO 0 0))
  obtain ⟨b, off, rfl, hb, hc⟩ := hA.at_ hil
  have k0 := hc i hil
  have hbw : b < w.heap.size := by omega
  obtain ⟨d, hd⟩ : ∃ d, d = bt l i := ⟨_, rfl⟩
  rw [← hd] at k0 hi
  have S := Lib.hid (fun w => rsp_is (c := d) (b := true) w hi.symm)
  have k1 : ((w.alloc (rtO 0 0 0)).alloc (fvO 0 0)).cell? ⟨b, off + i, none⟩ = some (.int .u8 d) := by
    rw [World.cell?_alloc_lt _ _ _ (by simp; omega), World.cell?_alloc_lt _ _ _ (by simpa using hbw)]; exact k0
  have h0 : ¬ x < 0 := by omega
  have h1 : ¬ (n : Int) ≤ x := by omega
  have hin : i < n := by omega
  subst hx
  have Hn := Lib.hid hn
  clear hn hA hB hi hil hc hd k0 hb hm0
  go_enter Tryz.func32, Tryz.ntmps32
  go_wp2_with (go_at_call 46; refine (S.out _).mono ?_; rintro e w' ⟨rfl, rfl⟩)
  go_loop [7] (fun v => ∃ j : Nat, v = .int .i64 j ∧ j ≤ n ∧ j + rw spc (l.drop j) = i + rw spc (l.drop i)) (fun v => n - (intOf v).toNat)
  case atStart => exact ⟨i, rfl, by omega, rfl⟩
  case round =>
    obtain ⟨j, rfl, hj, hs⟩ := hrel
    have HS := Lib.hid hs
    clear hs
    have G := Lib.hid (rw_at (p := spc) spc0 (l := l) (k := j))
    obtain ⟨d2, Hb⟩ : ∃ b, Hid (b = bt l j) := ⟨_, rfl⟩
    by_cases hd : spc d2 = true
    · have hlt : j < n := by
        have : j < l.length := bt_in (by rw [← Hb.out]; have := spc_v.1 hd; omega)
        have := Hn.out; omega
      have e : rw spc (l.drop j) = rw spc (l.drop (j + 1)) + 1 := by rw [G.out, ← Hb.out, if_pos hd]
      have E2 := Lib.hid e
      have D := Lib.hid (fun w => rsp_is (c := d2) (b := true) w hd.symm)
      clear e hd
      go_wp2_with first
        | (go_at_call 47; refine (rat_is n c j (v := d2) _ Hn.out HA.out rfl Hb.out).mono ?_; rintro e w' ⟨rfl, rfl⟩)
        | (go_at_call 46; refine (D.out _).mono ?_; rintro e w' ⟨rfl, rfl⟩)
      go_round
      case rel => exact ⟨j + 1, by go_num, by omega, by have := HS.out; have := E2.out; omega⟩
      case measure => simp [intOf]; omega
    · rw [Bool.not_eq_true] at hd
      have e : rw spc (l.drop j) = 0 := by rw [G.out, ← Hb.out, hd]; rfl
      have E2 := Lib.hid e
      have D := Lib.hid (fun w => rsp_is (c := d2) (b := false) w hd.symm)
      have F0 := Lib.hid (RS.start (w := w) (k := 0) (i := i) (j := j) (c := 0) (a := 0))
      clear e hd
      go_wp2_with first
        | (go_at_call 47; refine (rat_is n c j (v := d2) _ Hn.out HA.out rfl Hb.out).mono ?_; rintro e w' ⟨rfl, rfl⟩)
        | (go_at_call 46; refine (D.out _).mono ?_; rintro e w' ⟨rfl, rfl⟩)
      refine bodyPost_ret (v := .tuple #[rtV 0 i j, fvV 0 0]) (by simp [results, Tryz.results32, go_sem, *]) rfl ?_
      exact ⟨by rw [E.out]; have := HS.out; have := E2.out; rw [show i + rw spc (l.drop i) = j by omega], F0.out.below⟩
end
end Jk
end Go.Proofs.YtdclhepjoifpiaaGreatDoor
