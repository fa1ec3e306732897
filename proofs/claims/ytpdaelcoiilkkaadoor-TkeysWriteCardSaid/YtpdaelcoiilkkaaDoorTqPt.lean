/- A byte's unit put behind others: the program's put (TOML). -/
import Derived.Test.YtpdaelcoiilkkaaDoorTqX
namespace Go.Proofs.YtpdaelcoiilkkaaDoor
open Go.RowKit

theorem cells_two {w : World} (c d : UInt8) (x y : Int) (hx : x = (c.toNat : Int)) (hy : y = (d.toNat : Int)) : Byt (w.alloc (.cells #[.int .u8 x, .int .u8 y] 5)) (w.alloc (.cells #[.int .u8 x, .int .u8 y] 5)).heap.size (some ⟨w.heap.size, 0, none⟩) [c, d] := by
  subst hx; subst hy
  refine fun _ => ⟨w.heap.size, 0, rfl, by simp, fun k hk => ?_⟩
  rw [World.cell?_alloc_at _ _ _ _ rfl]
  obtain rfl | rfl : k = 0 ∨ k = 1 := by simp at hk; omega
  · rfl
  · rfl
theorem cells_one' {w : World} (c : UInt8) (x : Int) (hx : x = (c.toNat : Int)) : Byt (w.alloc (.cells #[.int .u8 x] 5)) (w.alloc (.cells #[.int .u8 x] 5)).heap.size (some ⟨w.heap.size, 0, none⟩) [c] := by
  subst hx
  refine fun _ => ⟨w.heap.size, 0, rfl, by simp, fun k hk => ?_⟩
  obtain rfl : k = 0 := by simpa using hk
  rw [World.cell?_alloc_at _ _ _ _ rfl]
  simp [bt]
theorem cells_six {w : World} (a b c d e f : UInt8) : Byt (w.alloc (.cells #[.int .u8 (a.toNat : Int), .int .u8 (b.toNat : Int), .int .u8 (c.toNat : Int), .int .u8 (d.toNat : Int), .int .u8 (e.toNat : Int), .int .u8 (f.toNat : Int)] 5)).drew
    (w.alloc (.cells #[.int .u8 (a.toNat : Int), .int .u8 (b.toNat : Int), .int .u8 (c.toNat : Int), .int .u8 (d.toNat : Int), .int .u8 (e.toNat : Int), .int .u8 (f.toNat : Int)] 5)).drew.heap.size (some ⟨w.heap.size, 0, none⟩) [a, b, c, d, e, f] := by
  refine fun _ => ⟨w.heap.size, 0, rfl, by show _ < (w.alloc _).heap.size; simp, fun k hk => ?_⟩
  show (w.alloc _).cell? _ = _
  rw [World.cell?_alloc_at _ _ _ _ rfl]
  obtain rfl | rfl | rfl | rfl | rfl | rfl : k = 0 ∨ k = 1 ∨ k = 2 ∨ k = 3 ∨ k = 4 ∨ k = 5 := by simp at hk; omega
  all_goals rfl
theorem figU_at {n : Nat} (h : n < 16) : (⟨#[48, 49, 50, 51, 52, 53, 54, 55, 56, 57, 65, 66, 67, 68, 69, 70]⟩ : ByteArray)[n]'h = Tq.hxU n := by
  have : ∀ n : Fin 16, (⟨#[48, 49, 50, 51, 52, 53, 54, 55, 56, 57, 65, 66, 67, 68, 69, 70]⟩ : ByteArray)[n.1]'n.2 = Tq.hxU n.1 := by decide +kernel
  exact this ⟨n, h⟩
/-- A row of bytes that is the call's own; nothing below it has turned. -/
def OR (w : World) (base : Nat) (t : List UInt8) (e : Ending) (w' : World) : Prop := ∃ v, e = .returned v ∧ w'.ownsRow base 5 1 v t.length (bytV t) ∧ Below base w w'
theorem OR.of {w wr w' : World} {base : Nat} {t u : List UInt8} {v v' : Value} {o : Obj} (hg : w.grownBy wr none) (hb : base ≤ w.heap.size) (hown : wr.ownsRow base 5 1 v t.length (bytV t)) (h1 : w'.ownsRow base 5 1 v' (t.length + u.length) (bytV t ++ bytV u)) (h2 : (wr.alloc o).grownBy w' v.ownBlock) : OR w base (t ++ u) (.returned v') w' := by
  refine ⟨v', rfl, by rw [List.length_append, show bytV (t ++ u) = bytV t ++ bytV u by simp [bytV]]; exact h1, ?_⟩
  have a1 : Below base w wr := (Below.refl _ _).grown hg hb (fun _ h => by cases h)
  refine (a1.alloc (Nat.le_trans hb hg.size) o).grown h2 (by have := hg.size; simp; omega) (fun g e => ?_)
  rcases hown.2 with ⟨rfl, _⟩ | ⟨g', cap, cur, rfl, hb', _⟩
  · cases e
  · obtain rfl : g' = g := by simpa [Value.ownBlock] using e
    exact hb'
theorem we_at {c : UInt8} (h : Tq.pl c = true) (hn : ∀ j, j < 7 → ([8, 9, 10, 12, 13, 34, 92] : List Int).getD j 0 ≠ (c.toNat : Int)) : Tq.we c = [c] := by
  have := Qu.byte_all (p := fun c => !Tq.pl c || (List.range 7).any (fun j => ([8, 9, 10, 12, 13, 34, 92] : List Int).getD j 0 == (c.toNat : Int)) || Tq.we c == [c]) (by decide +kernel) c
  simp only [h, Bool.not_true, Bool.false_or, Bool.or_eq_true, beq_iff_eq] at this
  rcases this with h1 | h1
  · obtain ⟨j, hj, e⟩ := List.any_eq_true.1 h1
    exact absurd (by simpa using e) (hn j (List.mem_range.1 hj))
  · exact h1
theorem we_ct {c : UInt8} (h : Tq.pl c = false) (hn : ∀ j, j < 7 → ([8, 9, 10, 12, 13, 34, 92] : List Int).getD j 0 ≠ (c.toNat : Int)) : Tq.we c = [92, 117, 48, 48, Tq.hxU (c.toNat / 16), Tq.hxU (c.toNat % 16)] := by
  have := Qu.byte_all (p := fun c => Tq.pl c || (List.range 7).any (fun j => ([8, 9, 10, 12, 13, 34, 92] : List Int).getD j 0 == (c.toNat : Int)) || Tq.we c == [92, 117, 48, 48, Tq.hxU (c.toNat / 16), Tq.hxU (c.toNat % 16)]) (by decide +kernel) c
  simp only [h, Bool.false_or, Bool.or_eq_true, beq_iff_eq] at this
  rcases this with h1 | h1
  · obtain ⟨j, hj, e⟩ := List.any_eq_true.1 h1
    exact absurd (by simpa using e) (hn j (List.mem_range.1 hj))
  · exact h1
section
variable {w : World} {base : Nat} {t : List UInt8} {v : Value}
set_option maxHeartbeats 4000000 in
set_option maxRecDepth 100000 in
theorem tput_any (c : UInt8) (x : Int) (hx : x = (c.toNat : Int)) (hown : w.ownsRow base 5 1 v t.length (bytV t)) (hb : base ≤ w.heap.size) (hS : TShorts w) (ht : t.length ≤ 10000000) :
    Calls Tryd.prog 40 #[v, .int .u8 x] w (OR w base (t ++ Tq.we c)) := by
  obtain ⟨i0, hi, hz0, hz1, hz2⟩ := info_parts (show (Tryd.prog.info? 5).map (fun i => (i.zero, i.size, i.bytes)) = some (some (.int .u8 0), 1, 1) by kernel_rfl)
  have HX := Lib.hid hx
  have HO := Lib.hid hown
  have h256 := c.toNat_lt
  have hx0 : 0 ≤ x := by omega
  have hx1 : x ≤ 255 := by omega
  obtain ⟨z0, z1, z2, z3, z4, z5, z6, z7, z8, z9, z10, z11, z12, z13⟩ := hS
  clear hx hown h256
  go_enter Tryd.func40, Tryd.ntmps40
  go_wp2_with fail
  clear z0 z1 z2 z3 z4 z5 z6 z7 z8 z9 z10 z11 z12 z13
  go_loopw [8] (fun i wr => ∃ k : Nat, k ≤ 7 ∧ i = .int .i64 k ∧ w.grownBy wr none ∧ ∀ j, j < k → ([8, 9, 10, 12, 13, 34, 92] : List Int).getD j 0 ≠ x) (fun i _ => 7 - (intOf i).toNat)
  case atStart => exact ⟨0, Nat.zero_le _, rfl, World.grownBy.refl _ _, fun j hj => by omega⟩
  case round =>
    obtain ⟨k, hk, rfl, hg, hno⟩ := hrel
    have HG := Lib.hid hg
    have HN := Lib.hid hno
    have HOr := Lib.hid (HO.out.kept hg (by
      rcases h : v.ownBlock with _ | g
      · exact .inl rfl
      · exact .inr (by simp)))
    have hbr : base ≤ wr.heap.size := Nat.le_trans hb hg.size
    clear hg hno
    rcases (show k = 0 ∨ k = 1 ∨ k = 2 ∨ k = 3 ∨ k = 4 ∨ k = 5 ∨ k = 6 ∨ k = 7 by omega) with rfl | rfl | rfl | rfl | rfl | rfl | rfl | rfl
    · have hix := tix_0 wr
      by_cases hc : x = 8
      · have HE := Lib.hid (show Tq.we c = [92, 98] by
          have : c = 8 := UInt8.toNat_inj.1 (by have := HX.out; rw [hc] at this; simp; omega)
          rw [this]; decide)
        subst hc
        go_wp2_with (at_builtin; refine wpApp _ rfl (.tmp 15) (.tmp 18) 49 rfl base 5 i0 (.int .u8 0) 1 Tryd.underlying49 hi hz0 hz1 hz2 rfl v t.length (bytV t) rfl ((HOr.out.alloc _).alloc _) (some ⟨wr.heap.size + 1, 0, none⟩) 2 2 _ [92, 98] rfl rfl (by have := cells_two (w := wr.alloc (.cells #[.int .u8 98, .int .u8 8] 100)) 92 98 92 98 (by decide) (by decide); rw [show (wr.alloc (.cells #[.int .u8 98, .int .u8 8] 100)).heap.size = wr.heap.size + 1 by simp] at this; exact this) (fun h => by cases h) (by unfold maxLen; omega) (by omega) (by simp; omega) ?_; intro v2 w2 hown2 hg2 _)
        go_ret
        rw [HE.out]
        exact OR.of (HG.out.trans (World.grownBy_alloc _ _ _)) hb (HOr.out.alloc _) hown2 hg2
      · have hc' : (8 == x) = false := by simp; omega
        go_wp2_with fail
        go_roundw
        case rel => exact ⟨1, by omega, by go_num, HG.out.trans (World.grownBy_alloc _ _ _), fun j hj => by
          rcases Nat.lt_or_ge j 0 with h1 | h1
          · exact HN.out j h1
          · obtain rfl : j = 0 := by omega
            exact fun e => hc e.symm⟩
        case measure => simp [intOf]
    · have hix := tix_1 wr
      by_cases hc : x = 9
      · have HE := Lib.hid (show Tq.we c = [92, 116] by
          have : c = 9 := UInt8.toNat_inj.1 (by have := HX.out; rw [hc] at this; simp; omega)
          rw [this]; decide)
        subst hc
        go_wp2_with (at_builtin; refine wpApp _ rfl (.tmp 15) (.tmp 18) 49 rfl base 5 i0 (.int .u8 0) 1 Tryd.underlying49 hi hz0 hz1 hz2 rfl v t.length (bytV t) rfl ((HOr.out.alloc _).alloc _) (some ⟨wr.heap.size + 1, 0, none⟩) 2 2 _ [92, 116] rfl rfl (by have := cells_two (w := wr.alloc (.cells #[.int .u8 116, .int .u8 9] 100)) 92 116 92 116 (by decide) (by decide); rw [show (wr.alloc (.cells #[.int .u8 116, .int .u8 9] 100)).heap.size = wr.heap.size + 1 by simp] at this; exact this) (fun h => by cases h) (by unfold maxLen; omega) (by omega) (by simp; omega) ?_; intro v2 w2 hown2 hg2 _)
        go_ret
        rw [HE.out]
        exact OR.of (HG.out.trans (World.grownBy_alloc _ _ _)) hb (HOr.out.alloc _) hown2 hg2
      · have hc' : (9 == x) = false := by simp; omega
        go_wp2_with fail
        go_roundw
        case rel => exact ⟨2, by omega, by go_num, HG.out.trans (World.grownBy_alloc _ _ _), fun j hj => by
          rcases Nat.lt_or_ge j 1 with h1 | h1
          · exact HN.out j h1
          · obtain rfl : j = 1 := by omega
            exact fun e => hc e.symm⟩
        case measure => simp [intOf]
    · have hix := tix_2 wr
      by_cases hc : x = 10
      · have HE := Lib.hid (show Tq.we c = [92, 110] by
          have : c = 10 := UInt8.toNat_inj.1 (by have := HX.out; rw [hc] at this; simp; omega)
          rw [this]; decide)
        subst hc
        go_wp2_with (at_builtin; refine wpApp _ rfl (.tmp 15) (.tmp 18) 49 rfl base 5 i0 (.int .u8 0) 1 Tryd.underlying49 hi hz0 hz1 hz2 rfl v t.length (bytV t) rfl ((HOr.out.alloc _).alloc _) (some ⟨wr.heap.size + 1, 0, none⟩) 2 2 _ [92, 110] rfl rfl (by have := cells_two (w := wr.alloc (.cells #[.int .u8 110, .int .u8 10] 100)) 92 110 92 110 (by decide) (by decide); rw [show (wr.alloc (.cells #[.int .u8 110, .int .u8 10] 100)).heap.size = wr.heap.size + 1 by simp] at this; exact this) (fun h => by cases h) (by unfold maxLen; omega) (by omega) (by simp; omega) ?_; intro v2 w2 hown2 hg2 _)
        go_ret
        rw [HE.out]
        exact OR.of (HG.out.trans (World.grownBy_alloc _ _ _)) hb (HOr.out.alloc _) hown2 hg2
      · have hc' : (10 == x) = false := by simp; omega
        go_wp2_with fail
        go_roundw
        case rel => exact ⟨3, by omega, by go_num, HG.out.trans (World.grownBy_alloc _ _ _), fun j hj => by
          rcases Nat.lt_or_ge j 2 with h1 | h1
          · exact HN.out j h1
          · obtain rfl : j = 2 := by omega
            exact fun e => hc e.symm⟩
        case measure => simp [intOf]
    · have hix := tix_3 wr
      by_cases hc : x = 12
      · have HE := Lib.hid (show Tq.we c = [92, 102] by
          have : c = 12 := UInt8.toNat_inj.1 (by have := HX.out; rw [hc] at this; simp; omega)
          rw [this]; decide)
        subst hc
        go_wp2_with (at_builtin; refine wpApp _ rfl (.tmp 15) (.tmp 18) 49 rfl base 5 i0 (.int .u8 0) 1 Tryd.underlying49 hi hz0 hz1 hz2 rfl v t.length (bytV t) rfl ((HOr.out.alloc _).alloc _) (some ⟨wr.heap.size + 1, 0, none⟩) 2 2 _ [92, 102] rfl rfl (by have := cells_two (w := wr.alloc (.cells #[.int .u8 102, .int .u8 12] 100)) 92 102 92 102 (by decide) (by decide); rw [show (wr.alloc (.cells #[.int .u8 102, .int .u8 12] 100)).heap.size = wr.heap.size + 1 by simp] at this; exact this) (fun h => by cases h) (by unfold maxLen; omega) (by omega) (by simp; omega) ?_; intro v2 w2 hown2 hg2 _)
        go_ret
        rw [HE.out]
        exact OR.of (HG.out.trans (World.grownBy_alloc _ _ _)) hb (HOr.out.alloc _) hown2 hg2
      · have hc' : (12 == x) = false := by simp; omega
        go_wp2_with fail
        go_roundw
        case rel => exact ⟨4, by omega, by go_num, HG.out.trans (World.grownBy_alloc _ _ _), fun j hj => by
          rcases Nat.lt_or_ge j 3 with h1 | h1
          · exact HN.out j h1
          · obtain rfl : j = 3 := by omega
            exact fun e => hc e.symm⟩
        case measure => simp [intOf]
    · have hix := tix_4 wr
      by_cases hc : x = 13
      · have HE := Lib.hid (show Tq.we c = [92, 114] by
          have : c = 13 := UInt8.toNat_inj.1 (by have := HX.out; rw [hc] at this; simp; omega)
          rw [this]; decide)
        subst hc
        go_wp2_with (at_builtin; refine wpApp _ rfl (.tmp 15) (.tmp 18) 49 rfl base 5 i0 (.int .u8 0) 1 Tryd.underlying49 hi hz0 hz1 hz2 rfl v t.length (bytV t) rfl ((HOr.out.alloc _).alloc _) (some ⟨wr.heap.size + 1, 0, none⟩) 2 2 _ [92, 114] rfl rfl (by have := cells_two (w := wr.alloc (.cells #[.int .u8 114, .int .u8 13] 100)) 92 114 92 114 (by decide) (by decide); rw [show (wr.alloc (.cells #[.int .u8 114, .int .u8 13] 100)).heap.size = wr.heap.size + 1 by simp] at this; exact this) (fun h => by cases h) (by unfold maxLen; omega) (by omega) (by simp; omega) ?_; intro v2 w2 hown2 hg2 _)
        go_ret
        rw [HE.out]
        exact OR.of (HG.out.trans (World.grownBy_alloc _ _ _)) hb (HOr.out.alloc _) hown2 hg2
      · have hc' : (13 == x) = false := by simp; omega
        go_wp2_with fail
        go_roundw
        case rel => exact ⟨5, by omega, by go_num, HG.out.trans (World.grownBy_alloc _ _ _), fun j hj => by
          rcases Nat.lt_or_ge j 4 with h1 | h1
          · exact HN.out j h1
          · obtain rfl : j = 4 := by omega
            exact fun e => hc e.symm⟩
        case measure => simp [intOf]
    · have hix := tix_5 wr
      by_cases hc : x = 34
      · have HE := Lib.hid (show Tq.we c = [92, 34] by
          have : c = 34 := UInt8.toNat_inj.1 (by have := HX.out; rw [hc] at this; simp; omega)
          rw [this]; decide)
        subst hc
        go_wp2_with (at_builtin; refine wpApp _ rfl (.tmp 15) (.tmp 18) 49 rfl base 5 i0 (.int .u8 0) 1 Tryd.underlying49 hi hz0 hz1 hz2 rfl v t.length (bytV t) rfl ((HOr.out.alloc _).alloc _) (some ⟨wr.heap.size + 1, 0, none⟩) 2 2 _ [92, 34] rfl rfl (by have := cells_two (w := wr.alloc (.cells #[.int .u8 34, .int .u8 34] 100)) 92 34 92 34 (by decide) (by decide); rw [show (wr.alloc (.cells #[.int .u8 34, .int .u8 34] 100)).heap.size = wr.heap.size + 1 by simp] at this; exact this) (fun h => by cases h) (by unfold maxLen; omega) (by omega) (by simp; omega) ?_; intro v2 w2 hown2 hg2 _)
        go_ret
        rw [HE.out]
        exact OR.of (HG.out.trans (World.grownBy_alloc _ _ _)) hb (HOr.out.alloc _) hown2 hg2
      · have hc' : (34 == x) = false := by simp; omega
        go_wp2_with fail
        go_roundw
        case rel => exact ⟨6, by omega, by go_num, HG.out.trans (World.grownBy_alloc _ _ _), fun j hj => by
          rcases Nat.lt_or_ge j 5 with h1 | h1
          · exact HN.out j h1
          · obtain rfl : j = 5 := by omega
            exact fun e => hc e.symm⟩
        case measure => simp [intOf]
    · have hix := tix_6 wr
      by_cases hc : x = 92
      · have HE := Lib.hid (show Tq.we c = [92, 92] by
          have : c = 92 := UInt8.toNat_inj.1 (by have := HX.out; rw [hc] at this; simp; omega)
          rw [this]; decide)
        subst hc
        go_wp2_with (at_builtin; refine wpApp _ rfl (.tmp 15) (.tmp 18) 49 rfl base 5 i0 (.int .u8 0) 1 Tryd.underlying49 hi hz0 hz1 hz2 rfl v t.length (bytV t) rfl ((HOr.out.alloc _).alloc _) (some ⟨wr.heap.size + 1, 0, none⟩) 2 2 _ [92, 92] rfl rfl (by have := cells_two (w := wr.alloc (.cells #[.int .u8 92, .int .u8 92] 100)) 92 92 92 92 (by decide) (by decide); rw [show (wr.alloc (.cells #[.int .u8 92, .int .u8 92] 100)).heap.size = wr.heap.size + 1 by simp] at this; exact this) (fun h => by cases h) (by unfold maxLen; omega) (by omega) (by simp; omega) ?_; intro v2 w2 hown2 hg2 _)
        go_ret
        rw [HE.out]
        exact OR.of (HG.out.trans (World.grownBy_alloc _ _ _)) hb (HOr.out.alloc _) hown2 hg2
      · have hc' : (92 == x) = false := by simp; omega
        go_wp2_with fail
        go_roundw
        case rel => exact ⟨7, by omega, by go_num, HG.out.trans (World.grownBy_alloc _ _ _), fun j hj => by
          rcases Nat.lt_or_ge j 6 with h1 | h1
          · exact HN.out j h1
          · obtain rfl : j = 6 := by omega
            exact fun e => hc e.symm⟩
        case measure => simp [intOf]
    · obtain ⟨y, HY⟩ : ∃ y, Hid (y = plJ x) := ⟨_, rfl⟩
      have HPL := Lib.hid (show Tq.pl c = y by rw [HY.out, HX.out, plJ_pl])
      have HN2 := Lib.hid (show ∀ j, j < 7 → ([8, 9, 10, 12, 13, 34, 92] : List Int).getD j 0 ≠ (c.toNat : Int) from fun j hj => by rw [← HX.out]; exact HN.out j hj)
      cases y
      · have HE := Lib.hid (we_ct HPL.out HN2.out)
        go_wp2_with fail
        refine (plainJ_is HY.out _).mono ?_
        rintro e w1 ⟨rfl, rfl⟩
        go_wp2_with fail
        obtain ⟨A, HA⟩ : ∃ A : Int, Hid (A = ((Tq.hxU (c.toNat / 16)).toNat : Int)) := ⟨_, rfl⟩
        obtain ⟨D, HD⟩ : ∃ D : Int, Hid (D = ((Tq.hxU (c.toNat % 16)).toNat : Int)) := ⟨_, rfl⟩
        have q0 : 0 ≤ x / 16 := by omega
        have q1 : x / 16 < 16 := by omega
        have q2 : 0 ≤ x % 16 := by omega
        have q3 : x % 16 < 16 := by omega
        have hand : bits .and .u8 x 15 = x % 16 := and8 x 4 (by omega) hx0 hx1
        have e1 : ∀ h : (x / 16).toNat < (⟨#[48, 49, 50, 51, 52, 53, 54, 55, 56, 57, 65, 66, 67, 68, 69, 70]⟩ : ByteArray).size, ((((⟨#[48, 49, 50, 51, 52, 53, 54, 55, 56, 57, 65, 66, 67, 68, 69, 70]⟩ : ByteArray)[(x / 16).toNat]'h).toNat : Nat) : Int) = A := fun h => by
          rw [HA.out, ← figU_at (n := c.toNat / 16) (by have := HX.out; omega)]
          simp only [show (x / 16).toNat = c.toNat / 16 by have := HX.out; omega]
        have e2 : ∀ h : (x % 16).toNat < (⟨#[48, 49, 50, 51, 52, 53, 54, 55, 56, 57, 65, 66, 67, 68, 69, 70]⟩ : ByteArray).size, ((((⟨#[48, 49, 50, 51, 52, 53, 54, 55, 56, 57, 65, 66, 67, 68, 69, 70]⟩ : ByteArray)[(x % 16).toNat]'h).toNat : Nat) : Int) = D := fun h => by
          rw [HD.out, ← figU_at (n := c.toNat % 16) (by omega)]
          simp only [show (x % 16).toNat = c.toNat % 16 by have := HX.out; omega]
        have HC := Lib.hid (cells_six (w := wr) 92 117 48 48 (Tq.hxU (c.toNat / 16)) (Tq.hxU (c.toNat % 16)))
        rw [← HA.out, ← HD.out] at HC
        have HOd := Lib.hid (HOr.out.alloc (.cells #[.int .u8 92, .int .u8 117, .int .u8 48, .int .u8 48, .int .u8 A, .int .u8 D] 5)).drew
        go_region_law (first
          | (refine tstep_app rfl (.tmp 27) (.tmp 34) 49 rfl base 5 i0 (.int .u8 0) 1 Tryd.underlying49 hi hz0 hz1 hz2 rfl v t.length (bytV t) rfl HOd.out (some ⟨wr.heap.size, 0, none⟩) 6 6 _ [92, 117, 48, 48, Tq.hxU (c.toNat / 16), Tq.hxU (c.toNat % 16)] rfl rfl HC.out (fun h => by cases h) (by unfold maxLen; omega) (by omega) (by show base ≤ (wr.alloc _).heap.size; simp; omega) ?_; intro v2 w2 hown2 hg2))
        all_goals go_wp2_with fail
        all_goals go_ret
        all_goals rw [HE.out]
        all_goals exact OR.of HG.out hb HOr.out hown2 (gDrew hg2)
      · have HE := Lib.hid (we_at HPL.out HN2.out)
        go_wp2_with fail
        refine (plainJ_is HY.out _).mono ?_
        rintro e w1 ⟨rfl, rfl⟩
        go_wp2_with (at_builtin; refine wpApp _ rfl (.tmp 23) (.tmp 25) 49 rfl base 5 i0 (.int .u8 0) 1 Tryd.underlying49 hi hz0 hz1 hz2 rfl v t.length (bytV t) rfl (HOr.out.alloc _) (some ⟨wr.heap.size, 0, none⟩) 1 1 _ [c] rfl rfl (cells_one' c x HX.out) (fun h => by cases h) (by unfold maxLen; omega) (by omega) (by simp; omega) ?_; intro v2 w2 hown2 hg2 _)
        go_ret
        rw [HE.out]
        exact OR.of HG.out hb HOr.out hown2 hg2
end
end Go.Proofs.YtpdaelcoiilkkaaDoor
