/- What landed of paths: rows put together (slices.Concat of two rows of steps); with a step more. -/
import Derived.Test.YtoebhnhiljlljaaDoorPl
import Derived.Test.YtoebhnhiljlljaaDoorApp
namespace Go.Proofs.YtoebhnhiljlljaaDoor
open Go.RowKit
namespace Pa
set_option maxRecDepth 100000

/-- append of a row of steps, behind a row of one's own that has room. -/
theorem wpSt (w : World) {ops : Array Oper} {rest : List Oper} {o : Oper} {a : Act} {Q : Exit → Act → World → Prop} (hgd : o.guard = none) (s x : Operand) (hop : o.op = Op.call { callee := Callee.builtin Builtin.append, args := #[s, x], argTypes := #[22, 22] })
    (base g G n k : Nat) (L : List St) (hown : OS base w g G L) (hk : L.length = k) (hs : a.eval s = .slice (some ⟨g, 0, none⟩) k G) (A : Option Addr) (c : Nat) (M : List St) (hx : a.eval x = .slice A n c) (hM : Sm w A n c M) (hroom : k + n ≤ G)
    (hK : ∀ w', OS base w' g G (L ++ M) → w.grownBy w' (some g) → wpList Tryd.prog ops Q rest (a.put o.dst (.slice (some ⟨g, 0, none⟩) (k + n) G)) w') : wpList Tryd.prog ops Q (o :: rest) a w := by
  obtain ⟨i0, hi, hz0, hz1, hz2⟩ := step_info
  subst hk
  have hn := hM.len
  cases A with
  | some ad =>
    refine wpList_append_own_spare w hgd s x 22 hop base 32 i0 4 Tryd.underlying22 hi hz1 g L.length G (cel L) hs hown ad n c (cel M) hx (by rw [cel_len, hn]) ?_ cel_ones hroom ?_
    · intro j u hu
      have h0 := (List.getElem?_eq_some_iff.1 hu).1
      rw [cel_len] at h0
      obtain ⟨g', o', e, _, hf⟩ := hM.row (by omega)
      exact cel_cells (Option.some.inj e) hf j u hu
    · intro w' h1 h2
      exact hK w' (by unfold OS; rw [List.length_append, cel_app, ← hn]; exact h1) h2
  | none =>
    have hc := hM.nil rfl
    have h0 := hM.cap.1
    obtain rfl : n = 0 := by omega
    subst hc
    obtain rfl : M = [] := List.eq_nil_of_length_eq_zero hn.symm
    refine wpList_plain hgd fun K hK' => ?_
    have hrun := run_append_owned_none (P := Tryd.prog) w base 22 o.type 32 i0 4 Tryd.underlying22 hi _ L.length (cel L) hown
    unfold Oper.wp
    simp [execOp, hop, resolve, invoke, builtin, hs, hx, hrun, Result.andThen]
    exact hK' _ _ (by have := hK w (by rw [List.append_nil]; exact hown) (World.grownBy.refl w _); simpa using this)
set_option maxHeartbeats 4000000 in
theorem grow_any {n : Nat} (w : World) (h0 : 0 < n) (hn : n ≤ 1000000000) :
    Calls Tryd.prog 46 #[.slice none 0 0, .int .i64 n] w fun e w' => (∃ g G, e = .returned (.slice (some ⟨g, 0, none⟩) 0 G) ∧ n ≤ G ∧ OS w.heap.size w' g G []) ∧ Below w.heap.size w w' := by
  obtain ⟨i0, hi, hz0, hz1, hz2⟩ := step_info
  obtain ⟨G, hG⟩ : ∃ G, G = grownCap w n 0 32 := ⟨_, rfl⟩
  obtain ⟨W1, hW1⟩ : ∃ W, W = w.drew.alloc (.cells (#[] ++ Builtin.zeroCells (Value.agg #[.int .u8 0, .string ⟨#[]⟩, .string ⟨#[]⟩, .int .i64 0]).cells n ++ Builtin.zeroCells (Value.agg #[.int .u8 0, .string ⟨#[]⟩, .string ⟨#[]⟩, .int .i64 0]).cells (G - n)) 32) := ⟨_, rfl⟩
  have hGn : n ≤ G := by rw [hG]; exact grownCap_ge w _ _ _
  have hG63 : G ≤ maxLen := by rw [hG]; exact grownCap_le_maxLen w n 0 _ (by unfold maxLen; omega)
  have hrz : ∀ ty, (Builtin.append_ #[22, 3] ty #[.slice none 0 0, .int .i64 (n : Int)]).run Tryd.prog w = .ok (.slice (some ⟨w.heap.size, 0, none⟩) n G) W1 := fun ty => by
    have h := Lib.run_append_grow_zeros (P := Tryd.prog) w 22 3 ty 32 i0 _ .i64 .i64 Tryd.underlying22 Tryd.underlying3 hi hz0 none 0 0 [] (run_firstCells_none w.drew i0.size 0 0 0) n h0 (by omega) (by omega) (by omega) (by rw [hz2]; omega) (growslice_fits (by omega) (by rw [hz2]; omega))
    rw [Nat.zero_add, ← hG] at h
    rw [hW1]; exact h
  have HO := Lib.hid (show OS w.heap.size W1 w.heap.size G [] from by
    rw [hW1]
    exact World.ownsRow_made w.drew _ G (Nat.le_refl _) hG63 (by simp [size_zeroCells, Value.cells]; omega))
  have HB := Lib.hid (show Below w.heap.size w W1 from by rw [hW1]; exact (Below.refl w.heap.size w).drew.alloc (Nat.le_refl _) _)
  have hG5 : G ≤ 9223372036854775807 := by unfold maxLen at hG63; omega
  clear hG hW1 hG63
  go_enter Tryd.func46, Tryd.ntmps46
  go_wp2_with (at_builtin; refine Lib.wpList_append_run _ rfl _ _ _ _ rfl _ _ rfl rfl _ _ (hrz _) ?_)
  go_ret
  exact ⟨⟨w.heap.size, G, rfl, hGn, HO.out⟩, HB.out⟩
set_option maxHeartbeats 4000000 in
theorem concat_any {A B : Option Addr} {n m c d q k : Nat} {L M : List St} (w : World) (h : Sm w A n c L) (h' : Sm w B m d M) (h0 : 0 < n + m) (hn : n ≤ 100000000) (hm : m ≤ 100000000)
    (q0 : w.cell? ⟨q, 0, none⟩ = some (.slice A n c)) (q1 : w.cell? ⟨q, 1, none⟩ = some (.slice B m d)) :
    Calls Tryd.prog 31 #[.slice (some ⟨q, 0, none⟩) 2 k] w fun e w' => (∃ g G, e = .returned (.slice (some ⟨g, 0, none⟩) (n + m : Nat) G) ∧ OS w.heap.size w' g G (L ++ M)) ∧ Below w.heap.size w w' := by
  have HS := Lib.hid h
  have HT := Lib.hid h'
  have CG := Lib.hid (grow_any (n := n + m) w h0 (by omega))
  have HQ0 := Lib.hid q0
  have HQ1 := Lib.hid q1
  obtain ⟨N, HN⟩ : ∃ N, Hid (N = n + m) := ⟨_, Lib.hid rfl⟩
  rw [← HN.out] at CG ⊢
  have HL := Lib.hid h.len
  have HM := Lib.hid h'.len
  clear h h'
  go_enter Tryd.func31, Tryd.ntmps31
  go_wp2_with fail
  go_loopw [3, 5, 11] (fun a _ i wx => w = wx ∧ ∃ j : Nat, j ≤ 2 ∧ i = .int .i64 j ∧ a = .int .i64 (if j = 0 then 0 else if j = 1 then n else N : Nat)) (fun _ _ i _ => 2 - (intOf i).toNat)
  case atStart => exact ⟨rfl, 0, by omega, rfl, rfl⟩
  case round =>
    obtain ⟨rfl, j, hj, rfl, rfl⟩ := hrel
    have h9 : j = 0 ∨ j = 1 ∨ j = 2 := by omega
    rcases h9 with rfl | rfl | rfl
    · simp only [if_true]
      go_wp2_with fail
      go_roundw
      case rel => exact ⟨by first | rfl | trivial, 1, by omega, by first | rfl | trivial, by first | rfl | (simp; done)⟩
      case measure => simp [intOf]
    · simp only [if_true, if_false, show ¬ (1 : Nat) = 0 by decide]
      have hw1 : IntKind.i64.wrap ((n : Int) + (m : Int)) = (n : Int) + (m : Int) := by rw [IntKind.wrap_i64]; omega
      have hw2 : ¬ (n : Int) + (m : Int) < 0 := by omega
      go_wp2_with fail
      go_roundw
      case rel => exact ⟨by first | rfl | trivial, 2, by omega, by first | rfl | trivial, by simp [HN.out]⟩
      case measure => simp [intOf]
    · simp only [if_false, show ¬ (2 : Nat) = 0 by decide, show ¬ (2 : Nat) = 1 by decide]
      go_wp2_with fail
      refine CG.out.mono ?_
      rintro e w1 ⟨⟨g, G, rfl, hG, hO⟩, hb⟩
      have HO := Lib.hid hO
      have HB := Lib.hid hb
      have HQL := Lib.hid (World.block_lt_of_cell? w _ HQ0.out)
      have p0 := (HB.out.cell (World.block_lt_of_cell? w _ HQ0.out)).trans HQ0.out
      have p1 := (HB.out.cell (World.block_lt_of_cell? w _ HQ1.out)).trans HQ1.out
      have HG := Lib.hid hG
      have HP := Lib.hid (And.intro p0 p1)
      have HGL := Lib.hid (show w.heap.size ≤ g ∧ g < w1.heap.size from hO.lt)
      clear hO hb q0 q1 hG hj p0 p1
      go_wp2_with fail
      go_loopw [6, 8, 27] (fun a _ i wx => Hid (Below w.heap.size w wx) ∧ ∃ j : Nat, j ≤ 2 ∧ i = .int .i64 j ∧ a = .slice (some ⟨g, 0, none⟩) (if j = 0 then 0 else if j = 1 then n else n + m) G ∧ Hid (OS w.heap.size wx g G (if j = 0 then [] else if j = 1 then L else L ++ M))) (fun _ _ i _ => 2 - (intOf i).toNat)
      case atStart => exact ⟨HB, 0, by omega, rfl, rfl, HO⟩
      case round =>
        obtain ⟨HBR, j, hj, rfl, rfl, HQ⟩ := hrel
        have hql : q < w1.heap.size := by have := HGL.out; have := HQL.out; omega
        have p0 : wr.cell? ⟨q, 0, none⟩ = some (.slice A n c) := by
          have e := HBR.out.block q HQL.out
          have := HQ0.out
          simp only [World.cell?] at this ⊢
          rw [e]; exact this
        have p1 : wr.cell? ⟨q, 1, none⟩ = some (.slice B m d) := by
          have e := HBR.out.block q HQL.out
          have := HQ1.out
          simp only [World.cell?] at this ⊢
          rw [e]; exact this
        have h9 : j = 0 ∨ j = 1 ∨ j = 2 := by omega
        rcases h9 with rfl | rfl | rfl
        · simp only [if_true] at HQ ⊢
          go_wp2_with (at_builtin; refine wpSt _ rfl (.tmp 31) (.tmp 32) rfl w.heap.size g G n 0 [] HQ.out rfl rfl A c L rfl (HS.out.on HBR.out) (by have := HG.out; have := HN.out; omega) ?_; intro w2 hO2 hg2)
          have HO2 := Lib.hid hO2
          have HB2 := Lib.hid (show Below w.heap.size w w2 from HBR.out.grown hg2 HBR.out.size (fun _ e => by cases e; exact HGL.out.1))
          clear hO2 hg2
          go_roundw
          case rel => exact ⟨HB2, 1, by omega, by first | rfl | trivial, by simp, HO2⟩
          case measure => simp [intOf]
        · simp only [if_true, if_false, show ¬ (1 : Nat) = 0 by decide] at HQ ⊢
          go_wp2_with (at_builtin; refine wpSt _ rfl (.tmp 31) (.tmp 32) rfl w.heap.size g G m n L HQ.out HL.out.symm rfl B d M rfl (HT.out.on HBR.out) (by have := HG.out; have := HN.out; omega) ?_; intro w2 hO2 hg2)
          have HO2 := Lib.hid hO2
          have HB2 := Lib.hid (show Below w.heap.size w w2 from HBR.out.grown hg2 HBR.out.size (fun _ e => by cases e; exact HGL.out.1))
          clear hO2 hg2
          go_roundw
          case rel => exact ⟨HB2, 2, by omega, by first | rfl | trivial, by simp, HO2⟩
          case measure => simp [intOf]
        · simp only [if_false, show ¬ (2 : Nat) = 0 by decide, show ¬ (2 : Nat) = 1 by decide] at HQ ⊢
          rw [← HN.out]
          go_wp2_with fail
          go_ret
          exact ⟨⟨g, G, by first | rfl | trivial, HQ.out⟩, HBR.out⟩
set_option maxHeartbeats 4000000 in
theorem to_any {A : Option Addr} {n c : Nat} {L : List St} {s : St} (w : World) (h : Sm w A n c L) (hs : s.Ok) (hn : n ≤ 10000000) (hw : ∀ x ∈ L, sw x ≤ 1000000000000) (hw2 : sw s ≤ 1000000000000) :
    Calls Tryd.prog 17 #[.slice A n c, stV s] w fun e w' => (∃ g, e = .returned (.slice (some ⟨g, 0, none⟩) (n + 1 : Nat) (n + 1 : Nat)) ∧ OS w.heap.size w' g (n + 1) (L ++ [s])) ∧ Below w.heap.size w w' := by
  have HS := Lib.hid h
  have HL := Lib.hid h.len
  obtain ⟨T, hT⟩ : ∃ T, T = txt s.text := ⟨_, rfl⟩
  obtain ⟨U, hU⟩ : ∃ U, U = txt s.id := ⟨_, rfl⟩
  obtain ⟨k, hk⟩ : ∃ k : Int, k = s.kind := ⟨_, rfl⟩
  obtain ⟨p, hp⟩ : ∃ p : Int, p = s.pos := ⟨_, rfl⟩
  unfold stV
  rw [← hT, ← hU, ← hk, ← hp]
  obtain ⟨W1, hW1⟩ : ∃ W, W = w.alloc (.cells #[.int .u8 k, .string T, .string U, .int .i64 p] 32) := ⟨_, rfl⟩
  obtain ⟨W2, hW2⟩ : ∃ W, W = W1.alloc (.cells #[.int .u8 k, .string T, .string U, .int .i64 p] 32) := ⟨_, rfl⟩
  obtain ⟨W3, hW3⟩ : ∃ W, W = W2.alloc (.cells #[.slice A n c, .slice (some ⟨W1.heap.size, 0, none⟩) 1 1] 22) := ⟨_, rfl⟩
  have hb1 : Below w.heap.size w W1 := by rw [hW1]; exact below_new ..
  have hb2 : Below W1.heap.size W1 W2 := by rw [hW2]; exact below_new ..
  have hb3 : Below W2.heap.size W2 W3 := by rw [hW3]; exact below_new ..
  have hsz : w.heap.size + 1 = W1.heap.size := by rw [hW1]; show _ = (w.heap.push _).size; rw [Array.size_push]
  have hsz2 : w.heap.size + 1 + 1 = W2.heap.size := by rw [hW2, hsz]; show _ = (W1.heap.push _).size; rw [Array.size_push]
  have HB3 := Lib.hid (below_tr (below_tr hb1 hb2) hb3)
  have HX := Lib.hid (show Bx W1 w.heap.size (.int .u8 k) (.string T) (.string U) (.int .i64 p) from by rw [hW1]; exact Bx.new ..)
  have HY := Lib.hid (show Bx W2 W1.heap.size (.int .u8 k) (.string T) (.string U) (.int .i64 p) from by rw [hW2]; exact Bx.new ..)
  have HSM := Lib.hid (show Sm W3 (some ⟨W1.heap.size, 0, none⟩) 1 1 [s] from by
    refine ⟨rfl, ⟨Nat.le_refl _, by unfold maxLen; omega⟩, (fun e => by cases e), fun _ => ⟨W1.heap.size, 0, rfl, Nat.lt_of_lt_of_le HY.out.lt hb3.size, fun i x hx => ?_⟩, fun x hx => by obtain rfl : x = s := (by simpa using hx); exact hs⟩
    have hi := (List.getElem?_eq_some_iff.1 hx).1
    obtain rfl : i = 0 := by simpa using hi
    obtain rfl : s = x := by simpa using hx
    have y := HY.out.on hb3
    rw [hk, hT, hU, hp] at y
    exact ⟨y.c0, y.c1, y.c2, y.c3⟩)
  have HW1 := Lib.hid hW1
  have HW2 := Lib.hid hW2
  have HW3 := Lib.hid hW3
  have CC := Lib.hid (fun (q0 : W3.cell? ⟨W2.heap.size, 0, none⟩ = some (.slice A n c)) (q1 : W3.cell? ⟨W2.heap.size, 1, none⟩ = some (.slice (some ⟨W1.heap.size, 0, none⟩) 1 1)) => concat_any (k := 2) W3 (HS.out.on HB3.out) HSM.out (by omega) (by omega) (by omega) q0 q1)
  have HQ := Lib.hid (show W3.cell? ⟨W2.heap.size, 0, none⟩ = some (.slice A n c) ∧ W3.cell? ⟨W2.heap.size, 1, none⟩ = some (.slice (some ⟨W1.heap.size, 0, none⟩) 1 1) from by
    have e : W3.heap[W2.heap.size]? = some (.cells #[.slice A n c, .slice (some ⟨W1.heap.size, 0, none⟩) 1 1] 22 (0, 0)) := by rw [hW3]; exact heap_alloc_new ..
    constructor <;> · simp only [World.cell?, e]; rfl)
  have HOK := Lib.hid (show ∀ x ∈ L ++ [s], x.Ok from fun x hx => by
    rcases List.mem_append.1 hx with hx | hx
    · exact HS.out.ok x hx
    · obtain rfl : x = s := (by simpa using hx); exact hs)
  have HWW := Lib.hid (show ∀ x ∈ L ++ [s], sw x ≤ 1000000000000 from fun x hx => by
    rcases List.mem_append.1 hx with hx | hx
    · exact hw x hx
    · obtain rfl : x = s := (by simpa using hx); exact hw2)
  obtain ⟨x0, x1, x2, x3⟩ : W1.cell? ⟨w.heap.size, 0, none⟩ = some (.int .u8 k) ∧ W1.cell? ⟨w.heap.size, 1, none⟩ = some (.string T) ∧ W1.cell? ⟨w.heap.size, 2, none⟩ = some (.string U) ∧ W1.cell? ⟨w.heap.size, 3, none⟩ = some (.int .i64 p) := ⟨HX.out.c0, HX.out.c1, HX.out.c2, HX.out.c3⟩
  clear h hs hw hw2 hb1 hb2 hb3 hT hU hk hp hW1 hW2 hW3
  go_enter Tryd.func17, Tryd.ntmps17
  go_upto_region 1 with fail
  rw [← HW1.out]
  have HSZ := Lib.hid (show W1.heap.size + 1 = W2.heap.size by omega)
  clear hsz hsz2
  go_wp2_with fail
  rw [← HW2.out, ← HW3.out, HSZ.out]
  refine (CC.out HQ.out.1 HQ.out.2).mono ?_
  rintro e w4 ⟨⟨g, G, rfl, hO⟩, hb⟩
  have HB4 := Lib.hid (below_tr HB3.out hb)
  have HS4 := Lib.hid (show Sm w4 (some ⟨g, 0, none⟩) (n + 1) G (L ++ [s]) from by
    have := hO.sm HOK.out
    rwa [List.length_append, ← HL.out] at this)
  have CE := Lib.hid (each_any w4 HS4.out (by omega) HWW.out)
  clear hO hb x0 x1 x2 x3
  go_wp2_with fail
  refine CE.out.mono ?_
  rintro e w5 ⟨⟨g2, rfl, hO⟩, hb⟩
  go_wp2_with fail
  go_ret
  refine ⟨⟨g2, rfl, hO.1, ?_⟩, below_tr HB4.out hb⟩
  rcases hO.2 with ⟨e, _⟩ | ⟨g3, c3, cur, e, h1, h2⟩
  · cases e
  · exact .inr ⟨g3, c3, cur, e, by have := HB4.out.size; omega, h2⟩
end Pa
end Go.Proofs.YtoebhnhiljlljaaDoor
