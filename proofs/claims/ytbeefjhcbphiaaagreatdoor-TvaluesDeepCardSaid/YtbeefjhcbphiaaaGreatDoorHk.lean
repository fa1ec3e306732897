/- A byte's unit put behind others: the program's put (TOML). -/
import Derived.Test.YtbeefjhcbphiaaaGreatDoorHg
import Derived.Test.YtbeefjhcbphiaaaGreatDoorHb
import Derived.Test.YtbeefjhcbphiaaaGreatDoorHj
import Derived.LoopTactic
import Derived.Outline
import Derived.BigQuiet
import Derived.Deep.QuietTactic
import Derived.Lib.Strings
namespace Go.Proofs.YtbeefjhcbphiaaaGreatDoor
open Go.RowKit

theorem cells_two {w : World} (c d : UInt8) (x y : Int) (hx : x = (c.toNat : Int)) (hy : y = (d.toNat : Int)) : Byt (w.alloc (.cells #[.int .u8 x, .int .u8 y] 5)) (w.alloc (.cells #[.int .u8 x, .int .u8 y] 5)).heap.size (some ⟨w.heap.size, 0, none⟩) [c, d] := by
  subst hx; subst hy
  refine fun _ => ⟨w.heap.size, 0, rfl, by simp, fun k hk => ?_⟩
  rw [World.cell?_alloc_at _ _ _ _ rfl]
  obtain rfl | rfl : k = 0 ∨ k = 1 := by simp at hk; omega
  · rfl
  · rfl
theorem cells_one' {w : World} (c : UInt8) (x : Int) (hx : x = (c.toNat : Int)) : Byt (w.alloc (.cells #[.int .u8 x] 5)) (w.alloc (.cells #[.int .u8 x] 5)).heap.size (some ⟨w.heap.size, 0, none⟩) [c] := by
  subst hx
  refine fun _ => ⟨w.heap.size, 0, rfl, by simp, fun k hk => ?_⟩
  obtain rfl : k = 0 := by simpa using hk
  rw [World.cell?_alloc_at _ _ _ _ rfl]
  simp [bt]
theorem cells_six {w : World} (a b c d e f : UInt8) : Byt (w.alloc (.cells #[.int .u8 (a.toNat : Int), .int .u8 (b.toNat : Int), .int .u8 (c.toNat : Int), .int .u8 (d.toNat : Int), .int .u8 (e.toNat : Int), .int .u8 (f.toNat : Int)] 5)).drew
    (w.alloc (.cells #[.int .u8 (a.toNat : Int), .int .u8 (b.toNat : Int), .int .u8 (c.toNat : Int), .int .u8 (d.toNat : Int), .int .u8 (e.toNat : Int), .int .u8 (f.toNat : Int)] 5)).drew.heap.size (some ⟨w.heap.size, 0, none⟩) [a, b, c, d, e, f] := by
  refine fun _ => ⟨w.heap.size, 0, rfl, by show _ < (w.alloc _).heap.size; simp, fun k hk => ?_⟩
  show (w.alloc _).cell? _ = _
  rw [World.cell?_alloc_at _ _ _ _ rfl]
  obtain rfl | rfl | rfl | rfl | rfl | rfl : k = 0 ∨ k = 1 ∨ k = 2 ∨ k = 3 ∨ k = 4 ∨ k = 5 := by simp at hk; omega
  all_goals rfl
theorem figU_at {n : Nat} (h : n < 16) : (⟨#[48, 49, 50, 51, 52, 53, 54, 55, 56, 57, 65, 66, 67, 68, 69, 70]⟩ : ByteArray)[n]'h = Tq.hxU n := by
  have : ∀ n : Fin 16, (⟨#[48, 49, 50, 51, 52, 53, 54, 55, 56, 57, 65, 66, 67, 68, 69, 70]⟩ : ByteArray)[n.1]'n.2 = Tq.hxU n.1 := by decide +kernel
  exact this ⟨n, h⟩
/-- A row of bytes that is the call's own; nothing below it has turned. -/
def OR (w : World) (base : Nat) (t : List UInt8) (e : Ending) (w' : World) : Prop := ∃ v, e = .returned v ∧ w'.ownsRow base 5 1 v t.length (bytV t) ∧ Below base w w'
theorem OR.of {w wr w' : World} {base : Nat} {t u : List UInt8} {v v' : Value} {o : Obj} (hg : w.grownBy wr none) (hb : base ≤ w.heap.size) (hown : wr.ownsRow base 5 1 v t.length (bytV t)) (h1 : w'.ownsRow base 5 1 v' (t.length + u.length) (bytV t ++ bytV u)) (h2 : (wr.alloc o).grownBy w' v.ownBlock) : OR w base (t ++ u) (.returned v') w' := by
  refine ⟨v', rfl, by rw [List.length_append, show bytV (t ++ u) = bytV t ++ bytV u by simp [bytV]]; exact h1, ?_⟩
  have a1 : Below base w wr := (Below.refl _ _).grown hg hb (fun _ h => by cases h)
  refine (a1.alloc (Nat.le_trans hb hg.size) o).grown h2 (by have := hg.size; simp; omega) (fun g e => ?_)
  rcases hown.2 with ⟨rfl, _⟩ | ⟨g', cap, cur, rfl, hb', _⟩
  · cases e
  · obtain rfl : g' = g := by simpa [Value.ownBlock] using e
    exact hb'
theorem we_at {c : UInt8} (h : Tq.pl c = true) (hn : ∀ j, j < 7 → ([8, 9, 10, 12, 13, 34, 92] : List Int).getD j 0 ≠ (c.toNat : Int)) : Tq.we c = [c] := by
  have := Qu.byte_all (p := fun c => !Tq.pl c || (List.range 7).any (fun j => ([8, 9, 10, 12, 13, 34, 92] : List Int).getD j 0 == (c.toNat : Int)) || Tq.we c == [c]) (by decide +kernel) c
  simp only [h, Bool.not_true, Bool.false_or, Bool.or_eq_true, beq_iff_eq] at this
  rcases this with h1 | h1
  · obtain ⟨j, hj, e⟩ := List.any_eq_true.1 h1
    exact absurd (by simpa using e) (hn j (List.mem_range.1 hj))
  · exact h1
theorem we_ct {c : UInt8} (h : Tq.pl c = false) (hn : ∀ j, j < 7 → ([8, 9, 10, 12, 13, 34, 92] : List Int).getD j 0 ≠ (c.toNat : Int)) : Tq.we c = [92, 117, 48, 48, Tq.hxU (c.toNat / 16), Tq.hxU (c.toNat % 16)] := by
  have := Qu.byte_all (p := fun c => Tq.pl c || (List.range 7).any (fun j => ([8, 9, 10, 12, 13, 34, 92] : List Int).getD j 0 == (c.toNat : Int)) || Tq.we c == [92, 117, 48, 48, Tq.hxU (c.toNat / 16), Tq.hxU (c.toNat % 16)]) (by decide +kernel) c
  simp only [h, Bool.false_or, Bool.or_eq_true, beq_iff_eq] at this
  rcases this with h1 | h1
  · obtain ⟨j, hj, e⟩ := List.any_eq_true.1 h1
    exact absurd (by simpa using e) (hn j (List.mem_range.1 hj))
  · exact h1
section
variable {w : World} {base : Nat} {t : List UInt8} {v : Value}
set_option maxHeartbeats 4000000 in
set_option maxRecDepth 100000 in
theorem tput_any (c : UInt8) (x : Int) (hx : x = (c.toNat : Int)) (hown : w.ownsRow base 5 1 v t.length (bytV t)) (hb : base ≤ w.heap.size) (hS : TShorts w) (ht : t.length ≤ 10000000) :
    Calls Tryz.prog 45 #[v, .int .u8 x] w (OR w base (t ++ Tq.we c)) := by
  obtain ⟨i0, hi, hz0, hz1, hz2⟩ := info_parts (show (Tryz.prog.info? 5).map (fun i => (i.zero, i.size, i.bytes)) = some (some (.int .u8 0), 1, 1) by kernel_rfl)
  have HX := Lib.hid hx
  have HO := Lib.hid hown
  have h256 := c.toNat_lt
  have hx0 : 0 ≤ x := by omega
  have hx1 : x ≤ 255 := by omega
  obtain ⟨z0, z1, z2, z3, z4, z5, z6, z7, z8, z9, z10, z11, z12, z13⟩ := hS
  clear hx hown h256
  go_enter Tryz.func45, Tryz.ntmps45
  go_wp2_with fail
  clear z0 z1 z2 z3 z4 z5 z6 z7 z8 z9 z10 z11 z12 z13
  go_loopw [8] (fun i wr => ∃ k : Nat, k ≤ 7 ∧ i = .int .i64 k ∧ w.grownBy wr none ∧ ∀ j, j < k → ([8, 9, 10, 12, 13, 34, 92] : List Int).getD j 0 ≠ x) (fun i _ => 7 - (intOf i).toNat)
  case atStart => exact ⟨0, Nat.zero_le _, rfl, World.grownBy.refl _ _, fun j hj => by omega⟩
  case round =>
    obtain ⟨k, hk, rfl, hg, hno⟩ := hrel
    have HG := Lib.hid hg
    have HN := Lib.hid hno
    have HOr := Lib.hid (HO.out.kept hg (by
      rcases h : v.ownBlock with _ | g
      · exact .inl rfl
      · exact .inr (by simp)))
    have hbr : base ≤ wr.heap.size := Nat.le_trans hb hg.size
    clear hg hno
    rcases (show k = 0 ∨ k = 1 ∨ k = 2 ∨ k = 3 ∨ k = 4 ∨ k = 5 ∨ k = 6 ∨ k = 7 by omega) with rfl | rfl | rfl | rfl | rfl | rfl | rfl | rfl
    · have hix := tix_0 wr
      by_cases hc : x = 8
      · have HE := Lib.hid (show Tq.we c = [92, 98] by
          have : c = 8 := UInt8.toNat_inj.1 (by have := HX.out; rw [hc] at this; simp; omega)
          rw [this]; decide)
        subst hc
        go_wp2_with (at_builtin; refine wpApp _ rfl (.tmp 15) (.tmp 18) 48 rfl base 5 i0 (.int .u8 0) 1 Tryz.underlying48 hi hz0 hz1 hz2 rfl v t.length (bytV t) rfl ((HOr.out.alloc _).alloc _) (some ⟨wr.heap.size + 1, 0, none⟩) 2 2 _ [92, 98] rfl rfl (by have := cells_two (w := wr.alloc (.cells #[.int .u8 98, .int .u8 8] 124)) 92 98 92 98 (by decide) (by decide); rw [show (wr.alloc (.cells #[.int .u8 98, .int .u8 8] 124)).heap.size = wr.heap.size + 1 by simp] at this; exact this) (fun h => by cases h) (by unfold maxLen; omega) (by omega) (by simp; omega) ?_; intro v2 w2 hown2 hg2 _)
        go_ret
        rw [HE.out]
        exact OR.of (HG.out.trans (World.grownBy_alloc _ _ _)) hb (HOr.out.alloc _) hown2 hg2
      · have hc' : (8 == x) = false := by simp; omega
        go_wp2_with fail
        go_roundw
        case rel => exact ⟨1, by omega, by go_num, HG.out.trans (World.grownBy_alloc _ _ _), fun j hj => by
          rcases Nat.lt_or_ge j 0 with h1 | h1
          · exact HN.out j h1
          · obtain rfl : j = 0 := by omega
            exact fun e => hc e.symm⟩
        case measure => simp [intOf]
    · have hix := tix_1 wr
      by_cases hc : x = 9
      · have HE := Lib.hid (show Tq.we c = [92, 116] by
          have : c = 9 := UInt8.toNat_inj.1 (by have := HX.out; rw [hc] at this; simp; omega)
          rw [this]; decide)
        subst hc
        go_wp2_with (at_builtin; refine wpApp _ rfl (.tmp 15) (.tmp 18) 48 rfl base 5 i0 (.int .u8 0) 1 Tryz.underlying48 hi hz0 hz1 hz2 rfl v t.length (bytV t) rfl ((HOr.out.alloc _).alloc _) (some ⟨wr.heap.size + 1, 0, none⟩) 2 2 _ [92, 116] rfl rfl (by have := cells_two (w := wr.alloc (.cells #[.int .u8 116, .int .u8 9] 124)) 92 116 92 116 (by decide) (by decide); rw [show (wr.alloc (.cells #[.int .u8 116, .int .u8 9] 124)).heap.size = wr.heap.size + 1 by simp] at this; exact this) (fun h => by cases h) (by unfold maxLen; omega) (by omega) (by simp; omega) ?_; intro v2 w2 hown2 hg2 _)
        go_ret
        rw [HE.out]
        exact OR.of (HG.out.trans (World.grownBy_alloc _ _ _)) hb (HOr.out.alloc _) hown2 hg2
      · have hc' : (9 == x) = false := by simp; omega
        go_wp2_with fail
        go_roundw
        case rel => exact ⟨2, by omega, by go_num, HG.out.trans (World.grownBy_alloc _ _ _), fun j hj => by
          rcases Nat.lt_or_ge j 1 with h1 | h1
          · exact HN.out j h1
          · obtain rfl : j = 1 := by omega
            exact fun e => hc e.symm⟩
        case measure => simp [intOf]
    · have hix := tix_2 wr
      by_cases hc : x = 10
      · have HE := Lib.hid (show Tq.we c = [92, 110] by
          have : c = 10 := UInt8.toNat_inj.1 (by have := HX.out; rw [hc] at this; simp; omega)
          rw [this]; decide)
        subst hc
        go_wp2_with (at_builtin; refine wpApp _ rfl (.tmp 15) (.tmp 18) 48 rfl base 5 i0 (.int .u8 0) 1 Tryz.underlying48 hi hz0 hz1 hz2 rfl v t.length (bytV t) rfl ((HOr.out.alloc _).alloc _) (some ⟨wr.heap.size + 1, 0, none⟩) 2 2 _ [92, 110] rfl rfl (by have := cells_two (w := wr.alloc (.cells #[.int .u8 110, .int .u8 10] 124)) 92 110 92 110 (by decide) (by decide); rw [show (wr.alloc (.cells #[.int .u8 110, .int .u8 10] 124)).heap.size = wr.heap.size + 1 by simp] at this; exact this) (fun h => by cases h) (by unfold maxLen; omega) (by omega) (by simp; omega) ?_; intro v2 w2 hown2 hg2 _)
        go_ret
        rw [HE.out]
        exact OR.of (HG.out.trans (World.grownBy_alloc _ _ _)) hb (HOr.out.alloc _) hown2 hg2
      · have hc' : (10 == x) = false := by simp; omega
        go_wp2_with fail
        go_roundw
        case rel => exact ⟨3, by omega, by go_num, HG.out.trans (World.grownBy_alloc _ _ _), fun j hj => by
          rcases Nat.lt_or_ge j 2 with h1 | h1
          · exact HN.out j h1
          · obtain rfl : j = 2 := by omega
            exact fun e => hc e.symm⟩
        case measure => simp [intOf]
    · have hix := tix_3 wr
      by_cases hc : x = 12
      · have HE := Lib.hid (show Tq.we c = [92, 102] by
          have : c = 12 := UInt8.toNat_inj.1 (by have := HX.out; rw [hc] at this; simp; omega)
          rw [this]; decide)
        subst hc
        go_wp2_with (at_builtin; refine wpApp _ rfl (.tmp 15) (.tmp 18) 48 rfl base 5 i0 (.int .u8 0) 1 Tryz.underlying48 hi hz0 hz1 hz2 rfl v t.length (bytV t) rfl ((HOr.out.alloc _).alloc _) (some ⟨wr.heap.size + 1, 0, none⟩) 2 2 _ [92, 102] rfl rfl (by have := cells_two (w := wr.alloc (.cells #[.int .u8 102, .int .u8 12] 124)) 92 102 92 102 (by decide) (by decide); rw [show (wr.alloc (.cells #[.int .u8 102, .int .u8 12] 124)).heap.size = wr.heap.size + 1 by simp] at this; exact this) (fun h => by cases h) (by unfold maxLen; omega) (by omega) (by simp; omega) ?_; intro v2 w2 hown2 hg2 _)
        go_ret
        rw [HE.out]
        exact OR.of (HG.out.trans (World.grownBy_alloc _ _ _)) hb (HOr.out.alloc _) hown2 hg2
      · have hc' : (12 == x) = false := by simp; omega
        go_wp2_with fail
        go_roundw
        case rel => exact ⟨4, by omega, by go_num, HG.out.trans (World.grownBy_alloc _ _ _), fun j hj => by
          rcases Nat.lt_or_ge j 3 with h1 | h1
          · exact HN.out j h1
          · obtain rfl : j = 3 := by omega
            exact fun e => hc e.symm⟩
        case measure => simp [intOf]
    · have hix := tix_4 wr
      by_cases hc : x = 13
      · have HE := Lib.hid (show Tq.we c = [92, 114] by
          have : c = 13 := UInt8.toNat_inj.1 (by have := HX.out; rw [hc] at this; simp; omega)
          rw [this]; decide)
        subst hc
        go_wp2_with (at_builtin; refine wpApp _ rfl (.tmp 15) (.tmp 18) 48 rfl base 5 i0 (.int .u8 0) 1 Tryz.underlying48 hi hz0 hz1 hz2 rfl v t.length (bytV t) rfl ((HOr.out.alloc _).alloc _) (some ⟨wr.heap.size + 1, 0, none⟩) 2 2 _ [92, 114] rfl rfl (by have := cells_two (w := wr.alloc (.cells #[.int .u8 114, .int .u8 13] 124)) 92 114 92 114 (by decide) (by decide); rw [show (wr.alloc (.cells #[.int .u8 114, .int .u8 13] 124)).heap.size = wr.heap.size + 1 by simp] at this; exact this) (fun h => by cases h) (by unfold maxLen; omega) (by omega) (by simp; omega) ?_; intro v2 w2 hown2 hg2 _)
        go_ret
        rw [HE.out]
        exact OR.of (HG.out.trans (World.grownBy_alloc _ _ _)) hb (HOr.out.alloc _) hown2 hg2
      · have hc' : (13 == x) = false := by simp; omega
        go_wp2_with fail
        go_roundw
        case rel => exact ⟨5, by omega, by go_num, HG.out.trans (World.grownBy_alloc _ _ _), fun j hj => by
          rcases Nat.lt_or_ge j 4 with h1 | h1
          · exact HN.out j h1
          · obtain rfl : j = 4 := by omega
            exact fun e => hc e.symm⟩
        case measure => simp [intOf]
    · have hix := tix_5 wr
      by_cases hc : x = 34
      · have HE := Lib.hid (show Tq.we c = [92, 34] by
          have : c = 34 := UInt8.toNat_inj.1 (by have := HX.out; rw [hc] at this; simp; omega)
          rw [this]; decide)
        subst hc
        go_wp2_with (at_builtin; refine wpApp _ rfl (.tmp 15) (.tmp 18) 48 rfl base 5 i0 (.int .u8 0) 1 Tryz.underlying48 hi hz0 hz1 hz2 rfl v t.length (bytV t) rfl ((HOr.out.alloc _).alloc _) (some ⟨wr.heap.size + 1, 0, none⟩) 2 2 _ [92, 34] rfl rfl (by have := cells_two (w := wr.alloc (.cells #[.int .u8 34, .int .u8 34] 124)) 92 34 92 34 (by decide) (by decide); rw [show (wr.alloc (.cells #[.int .u8 34, .int .u8 34] 124)).heap.size = wr.heap.size + 1 by simp] at this; exact this) (fun h => by cases h) (by unfold maxLen; omega) (by omega) (by simp; omega) ?_; intro v2 w2 hown2 hg2 _)
        go_ret
        rw [HE.out]
        exact OR.of (HG.out.trans (World.grownBy_alloc _ _ _)) hb (HOr.out.alloc _) hown2 hg2
      · have hc' : (34 == x) = false := by simp; omega
        go_wp2_with fail
        go_roundw
        case rel => exact ⟨6, by omega, by go_num, HG.out.trans (World.grownBy_alloc _ _ _), fun j hj => by
          rcases Nat.lt_or_ge j 5 with h1 | h1
          · exact HN.out j h1
          · obtain rfl : j = 5 := by omega
            exact fun e => hc e.symm⟩
        case measure => simp [intOf]
    · have hix := tix_6 wr
      by_cases hc : x = 92
      · have HE := Lib.hid (show Tq.we c = [92, 92] by
          have : c = 92 := UInt8.toNat_inj.1 (by have := HX.out; rw [hc] at this; simp; omega)
          rw [this]; decide)
        subst hc
        go_wp2_with (at_builtin; refine wpApp _ rfl (.tmp 15) (.tmp 18) 48 rfl base 5 i0 (.int .u8 0) 1 Tryz.underlying48 hi hz0 hz1 hz2 rfl v t.length (bytV t) rfl ((HOr.out.alloc _).alloc _) (some ⟨wr.heap.size + 1, 0, none⟩) 2 2 _ [92, 92] rfl rfl (by have := cells_two (w := wr.alloc (.cells #[.int .u8 92, .int .u8 92] 124)) 92 92 92 92 (by decide) (by decide); rw [show (wr.alloc (.cells #[.int .u8 92, .int .u8 92] 124)).heap.size = wr.heap.size + 1 by simp] at this; exact this) (fun h => by cases h) (by unfold maxLen; omega) (by omega) (by simp; omega) ?_; intro v2 w2 hown2 hg2 _)
        go_ret
        rw [HE.out]
        exact OR.of (HG.out.trans (World.grownBy_alloc _ _ _)) hb (HOr.out.alloc _) hown2 hg2
      · have hc' : (92 == x) = false := by simp; omega
        go_wp2_with fail
        go_roundw
        case rel => exact ⟨7, by omega, by go_num, HG.out.trans (World.grownBy_alloc _ _ _), fun j hj => by
          rcases Nat.lt_or_ge j 6 with h1 | h1
          · exact HN.out j h1
          · obtain rfl : j = 6 := by omega
            exact fun e => hc e.symm⟩
        case measure => simp [intOf]
    · obtain ⟨y, HY⟩ : ∃ y, Hid (y = plJ x) := ⟨_, rfl⟩
      have HPL := Lib.hid (show Tq.pl c = y by rw [HY.out, HX.out, plJ_pl])
      have HN2 := Lib.hid (show ∀ j, j < 7 → ([8, 9, 10, 12, 13, 34, 92] : List Int).getD j 0 ≠ (c.toNat : Int) from fun j hj => by rw [← HX.out]; exact HN.out j hj)
      cases y
      · have HE := Lib.hid (we_ct HPL.out HN2.out)
        go_wp2_with fail
        refine (plainJ_is HY.out _).mono ?_
        rintro e w1 ⟨rfl, rfl⟩
        go_wp2_with fail
        obtain ⟨A, HA⟩ : ∃ A : Int, Hid (A = ((Tq.hxU (c.toNat / 16)).toNat : Int)) := ⟨_, rfl⟩
        obtain ⟨D, HD⟩ : ∃ D : Int, Hid (D = ((Tq.hxU (c.toNat % 16)).toNat : Int)) := ⟨_, rfl⟩
        have q0 : 0 ≤ x / 16 := by omega
        have q1 : x / 16 < 16 := by omega
        have q2 : 0 ≤ x % 16 := by omega
        have q3 : x % 16 < 16 := by omega
        have hand : bits .and .u8 x 15 = x % 16 := and8 x 4 (by omega) hx0 hx1
        have e1 : ∀ h : (x / 16).toNat < (⟨#[48, 49, 50, 51, 52, 53, 54, 55, 56, 57, 65, 66, 67, 68, 69, 70]⟩ : ByteArray).size, ((((⟨#[48, 49, 50, 51, 52, 53, 54, 55, 56, 57, 65, 66, 67, 68, 69, 70]⟩ : ByteArray)[(x / 16).toNat]'h).toNat : Nat) : Int) = A := fun h => by
          rw [HA.out, ← figU_at (n := c.toNat / 16) (by have := HX.out; omega)]
          simp only [show (x / 16).toNat = c.toNat / 16 by have := HX.out; omega]
        have e2 : ∀ h : (x % 16).toNat < (⟨#[48, 49, 50, 51, 52, 53, 54, 55, 56, 57, 65, 66, 67, 68, 69, 70]⟩ : ByteArray).size, ((((⟨#[48, 49, 50, 51, 52, 53, 54, 55, 56, 57, 65, 66, 67, 68, 69, 70]⟩ : ByteArray)[(x % 16).toNat]'h).toNat : Nat) : Int) = D := fun h => by
          rw [HD.out, ← figU_at (n := c.toNat % 16) (by omega)]
          simp only [show (x % 16).toNat = c.toNat % 16 by have := HX.out; omega]
        have HC := Lib.hid (cells_six (w := wr) 92 117 48 48 (Tq.hxU (c.toNat / 16)) (Tq.hxU (c.toNat % 16)))
        rw [← HA.out, ← HD.out] at HC
        have HOd := Lib.hid (HOr.out.alloc (.cells #[.int .u8 92, .int .u8 117, .int .u8 48, .int .u8 48, .int .u8 A, .int .u8 D] 5)).drew
        go_region_law (first
          | (refine tstep_app rfl (.tmp 27) (.tmp 34) 48 rfl base 5 i0 (.int .u8 0) 1 Tryz.underlying48 hi hz0 hz1 hz2 rfl v t.length (bytV t) rfl HOd.out (some ⟨wr.heap.size, 0, none⟩) 6 6 _ [92, 117, 48, 48, Tq.hxU (c.toNat / 16), Tq.hxU (c.toNat % 16)] rfl rfl HC.out (fun h => by cases h) (by unfold maxLen; omega) (by omega) (by show base ≤ (wr.alloc _).heap.size; simp; omega) ?_; intro v2 w2 hown2 hg2))
        all_goals go_wp2_with fail
        all_goals go_ret
        all_goals rw [HE.out]
        all_goals exact OR.of HG.out hb HOr.out hown2 (gDrew hg2)
      · have HE := Lib.hid (we_at HPL.out HN2.out)
        go_wp2_with fail
        refine (plainJ_is HY.out _).mono ?_
        rintro e w1 ⟨rfl, rfl⟩
        go_wp2_with (at_builtin; refine wpApp _ rfl (.tmp 23) (.tmp 25) 48 rfl base 5 i0 (.int .u8 0) 1 Tryz.underlying48 hi hz0 hz1 hz2 rfl v t.length (bytV t) rfl (HOr.out.alloc _) (some ⟨wr.heap.size, 0, none⟩) 1 1 _ [c] rfl rfl (cells_one' c x HX.out) (fun h => by cases h) (by unfold maxLen; omega) (by omega) (by simp; omega) ?_; intro v2 w2 hown2 hg2 _)
        go_ret
        rw [HE.out]
        exact OR.of HG.out hb HOr.out hown2 hg2
end
end Go.Proofs.YtbeefjhcbphiaaaGreatDoor
/- The program's own writing of a string (TOML). -/
namespace Go.Proofs.YtbeefjhcbphiaaaGreatDoor
open Go.RowKit

def WR (w wr : World) (t : List UInt8) (v : Value) : Prop := wr.ownsRow w.heap.size 5 1 v t.length (bytV t) ∧ Below w.heap.size w wr
theorem WR.of {w wr w' : World} {t u : List UInt8} {v v' : Value} {o : Obj} (h : WR w wr t v) (h1 : w'.ownsRow w.heap.size 5 1 v' (t.length + u.length) (bytV t ++ bytV u)) (h2 : (wr.alloc o).grownBy w' v.ownBlock) : WR w w' (t ++ u) v' := by
  refine ⟨by rw [List.length_append, show bytV (t ++ u) = bytV t ++ bytV u by simp [bytV]]; exact h1, ?_⟩
  refine (h.2.alloc h.2.size o).grown h2 (by have := h.2.size; simp; omega) (fun g e => ?_)
  rcases h.1.2 with ⟨rfl, _⟩ | ⟨g', cap, cur, rfl, hb', _⟩
  · cases e
  · obtain rfl : g' = g := by simpa [Value.ownBlock] using e
    exact hb'
theorem WR.conv {w wr : World} {t : List UInt8} {v : Value} (h : WR w wr t v) : ∃ A n c S, v = .slice A n c ∧ (convert 48 9 (.slice A n c)).run Tryz.prog wr = .ok (.string S) wr ∧ S = txt t := by
  obtain ⟨A, c, rfl, o1, o2, o3, o4, o5⟩ := own_form h.1
  exact ⟨A, _, c, _, rfl, conv_bytes _ c rfl o4, rfl⟩
theorem wes_len (t : List UInt8) : (Tq.wes t).length ≤ 6 * t.length := by
  induction t with
  | nil => simp [Tq.wes]
  | cons c t ih => have := Tq.we_len c; rw [Tq.wes_cons, List.length_append, List.length_cons]; omega
theorem wes_take {l : List UInt8} {k : Nat} (h : k < l.length) : Tq.wes (l.take (k + 1)) = Tq.wes (l.take k) ++ Tq.we l[k] := by
  rw [List.take_succ_eq_append_getElem h, Tq.wes_app]; simp [Tq.wes]
set_option maxHeartbeats 2000000 in
theorem twrite_any {l : List UInt8} {s : ByteArray} (w : World) (hs : s = txt l) (hl : l.length ≤ 1000000) (hS : TShorts w) (hz : 0 < w.heap.size) :
    Calls Tryz.prog 24 #[.string s] w fun e w' => e = .returned (.string (txt (Tq.wr l))) ∧ Below w.heap.size w w' := by
  obtain ⟨i0, hi, hz0, hz1, hz2⟩ := info_parts (show (Tryz.prog.info? 5).map (fun i => (i.zero, i.size, i.bytes)) = some (some (.int .u8 0), 1, 1) by kernel_rfl)
  have HS := Lib.hid hs
  have HL := Lib.hid hl
  have HSh := Lib.hid hS
  have HZ := Lib.hid (show s.size = l.length by rw [hs, txt_size])
  have hsz : s.size ≤ 1000000 := by rw [hs, txt_size]; exact hl
  clear hs hl hS
  go_enter Tryz.func24, Tryz.ntmps24
  go_wp2_with (first
    | (at_make; refine wpList_make_own _ rfl _ _ 48 rfl w.heap.size 5 i0 (.int .u8 0) 1 Tryz.underlying48 hi hz0 hz1 .i64 .i64 _ (s.size + 2) rfl rfl rfl (by rw [hz2]; omega) (by unfold maxLen; omega) (Nat.le_refl _) ?_; intro w1 hown1 hg1)
    | (at_builtin; refine wpApp _ rfl (.tmp 9) (.tmp 10) 48 rfl w.heap.size 5 i0 (.int .u8 0) 1 Tryz.underlying48 hi hz0 hz1 hz2 rfl (.slice (some ⟨w.heap.size, 0, none⟩) 0 (s.size + 2)) 0 [] rfl (hown1.alloc _) (some ⟨w1.heap.size, 0, none⟩) 1 1 _ [34] rfl rfl (cells_one' 34 34 (by decide)) (fun h => by cases h) (by unfold maxLen; omega) (by omega) (by have := hg1.size; simp; omega) ?_; intro v2 w2 hown2 hg2 _))
  have R0 : WR w w2 [34] v2 := WR.of (t := []) ⟨hown1, (Below.refl _ _).grown hg1 (Nat.le_refl _) (fun _ h => by cases h)⟩ hown2 hg2
  clear hown1 hg1 hown2 hg2
  go_loopw [3, 14] (fun v i wr => ∃ k : Nat, k ≤ s.size ∧ i = .int .i64 k ∧ WR w wr (34 :: Tq.wes (l.take k)) v) (fun _ i _ => s.size - (intOf i).toNat)
  case atStart => exact ⟨0, Nat.zero_le _, rfl, R0⟩
  case round =>
    obtain ⟨k, hk, rfl, R⟩ := hrel
    clear R0
    have HR := Lib.hid R
    have hlen : (34 :: Tq.wes (l.take k)).length ≤ 6000001 := by
      have := wes_len (l.take k)
      have h2 : (l.take k).length ≤ k := by simp; omega
      simp; omega
    by_cases hlt : k < s.size
    · have hkl : k < l.length := by rw [← HZ.out]; exact hlt
      have hx := txt_at HS.out (k := k)
      obtain ⟨y, HY⟩ : ∃ y, Hid (y = bt l k) := ⟨_, rfl⟩
      rw [← HY.out] at hx
      have HC := Lib.hid (show y = ((l[k]'hkl).toNat : Int) by rw [HY.out]; simp [bt, hkl])
      have HE := Lib.hid (wes_take hkl)
      have hzr : 0 < wr.heap.size := Nat.lt_of_lt_of_le hz R.2.size
      have HSr := Lib.hid (HSh.out.old hz R.2)
      have hbr := R.2.size
      clear R
      go_wp2_with fail
      refine (tput_any (l[k]'hkl) y HC.out HR.out.1 hbr HSr.out (by omega)).mono ?_
      rintro e w4 ⟨v', rfl, hown4, hb4⟩
      have N : Hid (WR w w4 (34 :: Tq.wes (l.take (k + 1))) v') := by
        refine ⟨?_, HR.out.2.trans hb4⟩
        rw [HE.out]; exact hown4
      clear hown4 hb4
      go_wp2_with fail
      go_roundw
      case rel => exact ⟨k + 1, by omega, by go_num, N.out⟩
      case measure => simp [intOf]; omega
    · obtain rfl : k = s.size := by omega
      have HK := Lib.hid (show l.take s.size = l by rw [HZ.out, List.take_length])
      have hbr := R.2.size
      clear R hlt
      go_wp2_with (at_builtin; refine wpApp _ rfl (.tmp 23) (.tmp 24) 48 rfl w.heap.size 5 i0 (.int .u8 0) 1 Tryz.underlying48 hi hz0 hz1 hz2 rfl _ (34 :: Tq.wes (l.take s.size)).length (bytV (34 :: Tq.wes (l.take s.size))) rfl (HR.out.1.alloc _) (some ⟨wr.heap.size, 0, none⟩) 1 1 _ [34] rfl rfl (cells_one' 34 34 (by decide)) (fun h => by cases h) (by unfold maxLen; omega) (by omega) (by simp; omega) ?_; intro v3 w3 hown3 hg3 _; have F := WR.of HR.out hown3 hg3; have HF2 := Lib.hid F.2; obtain ⟨A, n, c, S, rfl, hcv, hS⟩ := F.conv; rw [HK.out] at hS; have HSS := Lib.hid hS; clear F hown3 hg3 hS)
      go_ret
      exact ⟨by rw [HSS.out]; rfl, HF2.out⟩
end Go.Proofs.YtbeefjhcbphiaaaGreatDoor
/- TOML's strings: what the laws stand on (the table; strings read and written). -/
namespace Go.Proofs.YtbeefjhcbphiaaaGreatDoor
open Go.RowKit

abbrev BA (a : Array UInt8) : ByteArray := ⟨a⟩
theorem below_tr {W w w' : World} (h : Below W.heap.size W w) (h' : Below w.heap.size w w') : Below W.heap.size W w' := h.trans (h'.mono h.size)
/-- What the laws find when they are called. -/
def Tab (w : World) : Prop := TShorts w ∧ 0 < w.heap.size
theorem Tab.below {W w : World} (h : Tab W) (hb : Below W.heap.size W w) : Tab w := ⟨h.1.old h.2 hb, Nat.lt_of_lt_of_le h.2 hb.size⟩
/-- No rune's number stands anywhere. -/
def noNum (l : List UInt8) : Bool := (List.range l.length).all fun k => [4, 8].all fun m => match Qu.hx m 0 (l.drop k) with | .inl _ => true | .inr x => Tq.sur x.1
theorem hdOk_of {l : List UInt8} (h : noNum l = true) (W : World) : HdOk W l := fun k many n r hm hx hs => by
  rcases Nat.lt_or_ge k l.length with hk | hk
  · have := List.all_eq_true.1 (List.all_eq_true.1 h k (List.mem_range.2 hk)) many (by rcases hm with rfl | rfl <;> simp)
    rw [hx] at this
    simp only at this
    rw [hs] at this
    cases this
  · rw [List.drop_eq_nil_of_le hk] at hx
    rcases hm with rfl | rfl <;> cases hx
def isR (r : Tq.R) (t : List UInt8) (k : Nat) : Bool := match r with | .ok x j => x == t && j == k | .bad _ => false
def isRb (r : Tq.R) (k : Nat) : Bool := match r with | .ok _ _ => false | .bad j => j == k
theorem isR_eq {r : Tq.R} {t : List UInt8} {k : Nat} (h : isR r t k = true) : r = .ok t k := by
  cases r with
  | ok x j => simp only [isR, Bool.and_eq_true, beq_iff_eq] at h; rw [h.1, h.2]
  | bad j => cases h
theorem isRb_eq {r : Tq.R} {k : Nat} (h : isRb r k = true) : r = .bad k := by
  cases r with
  | ok x j => cases h
  | bad j => simp only [isRb, beq_iff_eq] at h; rw [h]
theorem as_txt (s : ByteArray) : s = txt s.data.toList := by apply ByteArray.ext; simp [txt]
theorem as_len (s : ByteArray) : s.data.toList.length = s.size := by rw [Array.length_toList]; rfl
theorem twrite_is {l : List UInt8} {s x : ByteArray} (w : World) (hs : s = txt l) (hl : l.length ≤ 1000000) (hx : x = txt (Tq.wr l)) (hT : Tab w) :
    Calls Tryz.prog 24 #[.string s] w fun e w' => e = .returned (.string x) ∧ Below w.heap.size w w' := hx ▸ twrite_any w hs hl hT.1 hT.2
end Go.Proofs.YtbeefjhcbphiaaaGreatDoor
/- TOML's keys as lists; which bytes a bare word has; where those bytes end; which words are bare. -/
namespace Go.Proofs.YtbeefjhcbphiaaaGreatDoor
open Go.RowKit
namespace Ty

abbrev Bs := List UInt8
theorem txt_list (l : Bs) : (txt l).toList = l := by rw [Lib.toList_data]; rfl
/-- A byte of a bare word. -/
def plK (c : Int) : Bool := decide (97 ≤ c ∧ c ≤ 122 ∨ 65 ≤ c ∧ c ≤ 90 ∨ 48 ≤ c ∧ c ≤ 57 ∨ c = 95 ∨ c = 45)
def blK (c : Int) : Bool := decide (c = 9 ∨ c = 32)
/-- Where the bytes of a kind end that stand at a place. -/
def endP (p : Int → Bool) (l : Bs) (i : Nat) : Nat := if i < l.length ∧ p (bt l i) = true then endP p l (i + 1) else i
termination_by l.length - i
theorem endP_on {p : Int → Bool} {l : Bs} {i : Nat} (h : i < l.length) (h2 : p (bt l i) = true) : endP p l i = endP p l (i + 1) := by rw [endP, if_pos ⟨h, h2⟩]
theorem endP_no {p : Int → Bool} {l : Bs} {i : Nat} (h2 : p (bt l i) = false) : endP p l i = i := by rw [endP, if_neg (by rw [h2]; simp)]
theorem endP_far {p : Int → Bool} {l : Bs} {i : Nat} (h : l.length ≤ i) : endP p l i = i := by rw [endP, if_neg (by omega)]
/-- Is it a bare word? -/
def bareB (l : Bs) : Bool := decide (l ≠ [] ∧ endP plK l 0 = l.length)
/-- A word as it is written. -/
def wd (l : Bs) : Bs := if bareB l = true then l else Tq.wr l
/-- The first so many words as a key. -/
def wkN (L : List Bs) : Nat → Bs
  | 0 => []
  | k + 1 => wkN L k ++ ((if k = 0 then [] else [46]) ++ wd (L.getD k []))
def wk (L : List Bs) : Bs := wkN L L.length

theorem ret_b {a b : Bool} (h : a = b) : (Ending.returned (.bool a)) = .returned (.bool b) := by rw [h]
theorem ret_i {a b : Int} (h : b = a) : (Ending.returned (.int .i64 a)) = .returned (.int .i64 b) := by rw [h]
theorem ret_s {a b : ByteArray} (h : a = b) : (Ending.returned (.string a)) = .returned (.string b) := by rw [h]
theorem inb_is {c : Int} {b : Bool} (w : World) (h : b = plK c) : Calls Tryz.prog 63 #[.int .u8 c] w fun e w' => e = .returned (.bool b) ∧ w = w' := by
  unfold plK at h
  rcases (show c ≤ 44 ∨ c = 45 ∨ 46 ≤ c ∧ c ≤ 47 ∨ 48 ≤ c ∧ c ≤ 57 ∨ 58 ≤ c ∧ c ≤ 64 ∨ 65 ≤ c ∧ c ≤ 90 ∨ 91 ≤ c ∧ c ≤ 94 ∨ c = 95 ∨ c = 96 ∨ 97 ≤ c ∧ c ≤ 122 ∨ 123 ≤ c by omega) with h0 | rfl | h0 | h0 | h0 | h0 | h0 | rfl | rfl | h0 | h0
  · have E := Lib.hid (show b = false by rw [h]; simp; omega)
    have g97 : ¬ 97 ≤ c := by omega
    have g65 : ¬ 65 ≤ c := by omega
    have g48 : ¬ 48 ≤ c := by omega
    have g122 : c ≤ 122 := by omega
    have g90 : c ≤ 90 := by omega
    have g57 : c ≤ 57 := by omega
    have d1 : (c == 95) = false := by simp; omega
    have d2 : (c == 45) = false := by simp; omega
    clear h h0
    go_enter Tryz.func63, Tryz.ntmps63
    go_wp2_with fail
    go_ret
    exact ⟨ret_b E.out.symm, rfl⟩
  · obtain rfl : b = true := h.trans (by decide)
    clear h
    go_enter Tryz.func63, Tryz.ntmps63
    go_wp2_with fail
    go_ret
    exact ⟨rfl, rfl⟩
  · have E := Lib.hid (show b = false by rw [h]; simp; omega)
    have g97 : ¬ 97 ≤ c := by omega
    have g65 : ¬ 65 ≤ c := by omega
    have g48 : ¬ 48 ≤ c := by omega
    have g122 : c ≤ 122 := by omega
    have g90 : c ≤ 90 := by omega
    have g57 : c ≤ 57 := by omega
    have d1 : (c == 95) = false := by simp; omega
    have d2 : (c == 45) = false := by simp; omega
    clear h h0
    go_enter Tryz.func63, Tryz.ntmps63
    go_wp2_with fail
    go_ret
    exact ⟨ret_b E.out.symm, rfl⟩
  · have E := Lib.hid (show b = true by rw [h]; simp; omega)
    have g97 : ¬ 97 ≤ c := by omega
    have g65 : ¬ 65 ≤ c := by omega
    have g48 : 48 ≤ c := by omega
    have g122 : c ≤ 122 := by omega
    have g90 : c ≤ 90 := by omega
    have g57 : c ≤ 57 := by omega
    have d1 : (c == 95) = false := by simp; omega
    have d2 : (c == 45) = false := by simp; omega
    clear h h0
    go_enter Tryz.func63, Tryz.ntmps63
    go_wp2_with fail
    go_ret
    exact ⟨ret_b E.out.symm, rfl⟩
  · have E := Lib.hid (show b = false by rw [h]; simp; omega)
    have g97 : ¬ 97 ≤ c := by omega
    have g65 : ¬ 65 ≤ c := by omega
    have g48 : 48 ≤ c := by omega
    have g122 : c ≤ 122 := by omega
    have g90 : c ≤ 90 := by omega
    have g57 : ¬ c ≤ 57 := by omega
    have d1 : (c == 95) = false := by simp; omega
    have d2 : (c == 45) = false := by simp; omega
    clear h h0
    go_enter Tryz.func63, Tryz.ntmps63
    go_wp2_with fail
    go_ret
    exact ⟨ret_b E.out.symm, rfl⟩
  · have E := Lib.hid (show b = true by rw [h]; simp; omega)
    have g97 : ¬ 97 ≤ c := by omega
    have g65 : 65 ≤ c := by omega
    have g48 : 48 ≤ c := by omega
    have g122 : c ≤ 122 := by omega
    have g90 : c ≤ 90 := by omega
    have g57 : ¬ c ≤ 57 := by omega
    have d1 : (c == 95) = false := by simp; omega
    have d2 : (c == 45) = false := by simp; omega
    clear h h0
    go_enter Tryz.func63, Tryz.ntmps63
    go_wp2_with fail
    go_ret
    exact ⟨ret_b E.out.symm, rfl⟩
  · have E := Lib.hid (show b = false by rw [h]; simp; omega)
    have g97 : ¬ 97 ≤ c := by omega
    have g65 : 65 ≤ c := by omega
    have g48 : 48 ≤ c := by omega
    have g122 : c ≤ 122 := by omega
    have g90 : ¬ c ≤ 90 := by omega
    have g57 : ¬ c ≤ 57 := by omega
    have d1 : (c == 95) = false := by simp; omega
    have d2 : (c == 45) = false := by simp; omega
    clear h h0
    go_enter Tryz.func63, Tryz.ntmps63
    go_wp2_with fail
    go_ret
    exact ⟨ret_b E.out.symm, rfl⟩
  · obtain rfl : b = true := h.trans (by decide)
    clear h
    go_enter Tryz.func63, Tryz.ntmps63
    go_wp2_with fail
    go_ret
    exact ⟨rfl, rfl⟩
  · obtain rfl : b = false := h.trans (by decide)
    clear h
    go_enter Tryz.func63, Tryz.ntmps63
    go_wp2_with fail
    go_ret
    exact ⟨rfl, rfl⟩
  · have E := Lib.hid (show b = true by rw [h]; simp; omega)
    have g97 : 97 ≤ c := by omega
    have g65 : 65 ≤ c := by omega
    have g48 : 48 ≤ c := by omega
    have g122 : c ≤ 122 := by omega
    have g90 : ¬ c ≤ 90 := by omega
    have g57 : ¬ c ≤ 57 := by omega
    have d1 : (c == 95) = false := by simp; omega
    have d2 : (c == 45) = false := by simp; omega
    clear h h0
    go_enter Tryz.func63, Tryz.ntmps63
    go_wp2_with fail
    go_ret
    exact ⟨ret_b E.out.symm, rfl⟩
  · have E := Lib.hid (show b = false by rw [h]; simp; omega)
    have g97 : 97 ≤ c := by omega
    have g65 : 65 ≤ c := by omega
    have g48 : 48 ≤ c := by omega
    have g122 : ¬ c ≤ 122 := by omega
    have g90 : ¬ c ≤ 90 := by omega
    have g57 : ¬ c ≤ 57 := by omega
    have d1 : (c == 95) = false := by simp; omega
    have d2 : (c == 45) = false := by simp; omega
    clear h h0
    go_enter Tryz.func63, Tryz.ntmps63
    go_wp2_with fail
    go_ret
    exact ⟨ret_b E.out.symm, rfl⟩
theorem blk_is {c : Int} {b : Bool} (w : World) (h : b = blK c) : Calls Tryz.prog 62 #[.int .u8 c] w fun e w' => e = .returned (.bool b) ∧ w = w' := by
  unfold blK at h
  by_cases h1 : c = 9
  · subst h1
    obtain rfl : b = true := h.trans (by decide)
    clear h
    go_enter Tryz.func62, Tryz.ntmps62
    go_wp2_with fail
    go_ret
    exact ⟨rfl, rfl⟩
  · by_cases h2 : c = 32
    · subst h2
      obtain rfl : b = true := h.trans (by decide)
      clear h h1
      go_enter Tryz.func62, Tryz.ntmps62
      go_wp2_with fail
      go_ret
      exact ⟨rfl, rfl⟩
    · have E := Lib.hid (show b = false by rw [h]; simp; omega)
      have d1 : (c == 9) = false := by simp [h1]
      have d2 : (c == 32) = false := by simp [h2]
      clear h h1 h2
      go_enter Tryz.func62, Tryz.ntmps62
      go_wp2_with fail
      go_ret
      exact ⟨ret_b E.out.symm, rfl⟩
set_option maxHeartbeats 2000000 in
set_option maxRecDepth 100000 in
theorem past_in {l : Bs} {s : ByteArray} (hs : s = txt l) (hl : l.length ≤ 1000000) {i : Nat} (hi : i ≤ l.length) (w : World) {I R : Int} (hI : I = i) (hR : R = (endP plK l i : Nat)) :
    Calls Tryz.prog 61 #[.string s, .int .i64 I, .func (.func 63) #[] #[]] w fun e w' => e = .returned (.int .i64 R) ∧ w = w' := by
  subst hI
  have HS := Lib.hid hs
  have HR := Lib.hid hR
  have HSZ := Lib.hid (show s.size = l.length by rw [hs, txt_size])
  have hsz : s.size ≤ 1000000 := by rw [hs, txt_size]; exact hl
  clear hs hR hl
  go_enter Tryz.func61, Tryz.ntmps61
  go_wp2_with fail
  go_loop [1] (fun a => ∃ k : Nat, k ≤ s.size ∧ a = .int .i64 k ∧ Hid (endP plK l k = endP plK l i)) (fun a => s.size - (intOf a).toNat)
  case atStart => exact ⟨i, by have := HSZ.out; omega, rfl, Lib.hid rfl⟩
  case round =>
    obtain ⟨k, hk, rfl, HE⟩ := hrel
    by_cases hlt : k < s.size
    · have hkl : k < l.length := by rw [← HSZ.out]; exact hlt
      have hx := txt_at HS.out (k := k)
      obtain ⟨y, HY⟩ : ∃ y, Hid (y = bt l k) := ⟨_, rfl⟩
      rw [← HY.out] at hx
      cases hb : plK (bt l k) with
      | false =>
        have HE2 := Lib.hid (show R = (k : Nat) by rw [HR.out, ← HE.out, endP_no hb])
        have HB := Lib.hid (show false = plK y by rw [HY.out]; exact hb.symm)
        clear hb hkl
        go_wp2_with fail
        refine (inb_is _ HB.out).mono ?_
        rintro e w1 ⟨rfl, rfl⟩
        go_wp2_with fail
        go_ret
        exact ⟨ret_i HE2.out, rfl⟩
      | true =>
        have HE2 := Lib.hid (show endP plK l (k + 1) = endP plK l i by rw [← HE.out, endP_on hkl hb])
        have HB := Lib.hid (show true = plK y by rw [HY.out]; exact hb.symm)
        clear hb hkl
        go_wp2_with fail
        refine (inb_is _ HB.out).mono ?_
        rintro e w1 ⟨rfl, rfl⟩
        go_wp2_with fail
        go_round
        case rel => exact ⟨k + 1, by omega, by go_num, HE2⟩
        case measure => simp [intOf]; omega
    · obtain rfl : k = s.size := by omega
      have HE2 := Lib.hid (show R = (s.size : Nat) by rw [HR.out, ← HE.out, endP_far (by rw [HSZ.out]; exact Nat.le_refl _)])
      go_wp2_with fail
      go_ret
      exact ⟨ret_i HE2.out, rfl⟩
set_option maxHeartbeats 2000000 in
set_option maxRecDepth 100000 in
theorem past_bl {l : Bs} {s : ByteArray} (hs : s = txt l) (hl : l.length ≤ 1000000) {i : Nat} (hi : i ≤ l.length) (w : World) {I R : Int} (hI : I = i) (hR : R = (endP blK l i : Nat)) :
    Calls Tryz.prog 61 #[.string s, .int .i64 I, .func (.func 62) #[] #[]] w fun e w' => e = .returned (.int .i64 R) ∧ w = w' := by
  subst hI
  have HS := Lib.hid hs
  have HR := Lib.hid hR
  have HSZ := Lib.hid (show s.size = l.length by rw [hs, txt_size])
  have hsz : s.size ≤ 1000000 := by rw [hs, txt_size]; exact hl
  clear hs hR hl
  go_enter Tryz.func61, Tryz.ntmps61
  go_wp2_with fail
  go_loop [1] (fun a => ∃ k : Nat, k ≤ s.size ∧ a = .int .i64 k ∧ Hid (endP blK l k = endP blK l i)) (fun a => s.size - (intOf a).toNat)
  case atStart => exact ⟨i, by have := HSZ.out; omega, rfl, Lib.hid rfl⟩
  case round =>
    obtain ⟨k, hk, rfl, HE⟩ := hrel
    by_cases hlt : k < s.size
    · have hkl : k < l.length := by rw [← HSZ.out]; exact hlt
      have hx := txt_at HS.out (k := k)
      obtain ⟨y, HY⟩ : ∃ y, Hid (y = bt l k) := ⟨_, rfl⟩
      rw [← HY.out] at hx
      cases hb : blK (bt l k) with
      | false =>
        have HE2 := Lib.hid (show R = (k : Nat) by rw [HR.out, ← HE.out, endP_no hb])
        have HB := Lib.hid (show false = blK y by rw [HY.out]; exact hb.symm)
        clear hb hkl
        go_wp2_with fail
        refine (blk_is _ HB.out).mono ?_
        rintro e w1 ⟨rfl, rfl⟩
        go_wp2_with fail
        go_ret
        exact ⟨ret_i HE2.out, rfl⟩
      | true =>
        have HE2 := Lib.hid (show endP blK l (k + 1) = endP blK l i by rw [← HE.out, endP_on hkl hb])
        have HB := Lib.hid (show true = blK y by rw [HY.out]; exact hb.symm)
        clear hb hkl
        go_wp2_with fail
        refine (blk_is _ HB.out).mono ?_
        rintro e w1 ⟨rfl, rfl⟩
        go_wp2_with fail
        go_round
        case rel => exact ⟨k + 1, by omega, by go_num, HE2⟩
        case measure => simp [intOf]; omega
    · obtain rfl : k = s.size := by omega
      have HE2 := Lib.hid (show R = (s.size : Nat) by rw [HR.out, ← HE.out, endP_far (by rw [HSZ.out]; exact Nat.le_refl _)])
      go_wp2_with fail
      go_ret
      exact ⟨ret_i HE2.out, rfl⟩
set_option maxHeartbeats 2000000 in
set_option maxRecDepth 100000 in
theorem bare_any {l : Bs} {s : ByteArray} (hs : s = txt l) (hl : l.length ≤ 1000000) (w : World) {b : Bool} (hb : b = bareB l) :
    Calls Tryz.prog 37 #[.string s] w fun e w' => e = .returned (.bool b) ∧ w = w' := by
  have HC := Lib.hid (fun (R : Int) (hR : R = (endP plK l 0 : Nat)) => past_in hs hl (i := 0) (Nat.zero_le _) w (I := 0) rfl hR)
  have HB := Lib.hid hb
  by_cases h0 : l = []
  · subst h0
    subst hs
    obtain rfl : b = false := hb.trans (by simp [bareB])
    clear hb HC
    go_enter Tryz.func37, Tryz.ntmps37
    unfold txt
    go_wp2_with fail
    go_ret
    exact ⟨rfl, rfl⟩
  · have h1 : (s.toList == []) = false := by rw [hs, txt_list, beq_eq_false_iff_ne]; exact h0
    obtain ⟨R, hR⟩ : ∃ R : Nat, R = endP plK l 0 := ⟨_, rfl⟩
    have HS := Lib.hid (show s.size = l.length by rw [hs, txt_size])
    have C := Lib.hid (HC.out R (by rw [hR]))
    have HR := Lib.hid hR
    have HZ := Lib.hid h0
    have hsz : s.size ≤ 1000000 := by rw [hs, txt_size]; exact hl
    clear hs hl hb h0 HC hR
    by_cases h2 : R = s.size
    · obtain rfl : b = true := HB.out.trans (decide_eq_true ⟨HZ.out, by rw [← HR.out, h2, HS.out]⟩)
      subst h2
      go_enter Tryz.func37, Tryz.ntmps37
      go_wp2_with fail
      refine C.out.mono ?_
      rintro e w1 ⟨rfl, rfl⟩
      go_wp2_with fail
      go_ret
      exact ⟨rfl, rfl⟩
    · obtain rfl : b = false := HB.out.trans (decide_eq_false fun h => h2 (by rw [HR.out, HS.out]; exact h.2))
      have h3 : ((R : Int) == s.size) = false := by rw [beq_eq_false_iff_ne]; omega
      have h4 : (R == s.size) = false := by rw [beq_eq_false_iff_ne]; exact h2
      go_enter Tryz.func37, Tryz.ntmps37
      go_wp2_with fail
      refine C.out.mono ?_
      rintro e w1 ⟨rfl, rfl⟩
      go_wp2_with fail
      go_ret
      exact ⟨rfl, rfl⟩
end Ty
end Go.Proofs.YtbeefjhcbphiaaaGreatDoor
