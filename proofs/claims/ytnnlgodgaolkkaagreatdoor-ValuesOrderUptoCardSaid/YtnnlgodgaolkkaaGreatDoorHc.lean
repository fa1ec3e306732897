/- What the writer of strings stands on: plain bytes, the short escapes. -/
import Derived.Test.YtnnlgodgaolkkaaGreatDoorHa
import Derived.Test.YtnnlgodgaolkkaaGreatDoorHb
import Derived.Deep.RegionLaw
import Derived.Deep.DeepCutAuto
import Derived.BigQuiet
import Derived.Deep.QuietTactic
import Derived.LoopTactic
import Derived.Outline
import Derived.Deep.LoopGhost
import Derived.Deep.RegionWith
import Derived.Lib.AppendStr
namespace Go.Proofs.YtnnlgodgaolkkaaGreatDoor
open Go.RowKit

/-- May a byte stand for itself? -/
def plnI (c : Int) : Bool := decide (32 ≤ c ∧ c ≠ 34 ∧ c ≠ 92)
theorem plain_any (c : Int) (w : World) : Calls Tryz.prog 94 #[.int .u8 c] w fun e w' => e = .returned (.bool (plnI c)) ∧ w = w' := by
  by_cases a : 32 ≤ c
  · by_cases b : c = 34
    · subst b
      go_enter Tryz.func94, Tryz.ntmps94
      go_wp2_with fail
      go_ret
      exact ⟨ret_bool (by simp [plnI]), rfl⟩
    · by_cases d : c = 92
      · subst d
        go_enter Tryz.func94, Tryz.ntmps94
        go_wp2_with fail
        go_ret
        exact ⟨ret_bool (by simp [plnI]), rfl⟩
      · have g1 : (c != 34) = true := by simp [b]
        have g2 : (c != 92) = true := by simp [d]
        go_enter Tryz.func94, Tryz.ntmps94
        go_wp2_with fail
        go_ret
        exact ⟨ret_bool (by simp [plnI, a, b, d]), rfl⟩
  · go_enter Tryz.func94, Tryz.ntmps94
    go_wp2_with fail
    go_ret
    exact ⟨ret_bool (by simp [plnI]; omega), rfl⟩
theorem plain_is {c : Int} {x : Bool} (hx : x = plnI c) (w : World) : Calls Tryz.prog 94 #[.int .u8 c] w fun e w' => e = .returned (.bool x) ∧ w = w' := hx ▸ plain_any c w
theorem strCells_txt (l : List UInt8) : Lib.strCells (txt l) = bytV l := by
  simp [Lib.strCells, bytV, txt]
/-- The short escapes, as the program lays them. -/
def Shorts (w : World) : Prop := w.cell? ⟨1, 0, none⟩ = some (.int .u8 34) ∧ w.cell? ⟨1, 1, none⟩ = some (.int .u8 34) ∧ w.cell? ⟨1, 2, none⟩ = some (.int .u8 92) ∧ w.cell? ⟨1, 3, none⟩ = some (.int .u8 92) ∧ w.cell? ⟨1, 4, none⟩ = some (.int .u8 47) ∧ w.cell? ⟨1, 5, none⟩ = some (.int .u8 47) ∧ w.cell? ⟨1, 6, none⟩ = some (.int .u8 98) ∧ w.cell? ⟨1, 7, none⟩ = some (.int .u8 8) ∧ w.cell? ⟨1, 8, none⟩ = some (.int .u8 102) ∧ w.cell? ⟨1, 9, none⟩ = some (.int .u8 12) ∧ w.cell? ⟨1, 10, none⟩ = some (.int .u8 110) ∧ w.cell? ⟨1, 11, none⟩ = some (.int .u8 10) ∧ w.cell? ⟨1, 12, none⟩ = some (.int .u8 114) ∧ w.cell? ⟨1, 13, none⟩ = some (.int .u8 13) ∧ w.cell? ⟨1, 14, none⟩ = some (.int .u8 116) ∧ w.cell? ⟨1, 15, none⟩ = some (.int .u8 9)
theorem Shorts.old {W w : World} (h : Shorts W) (hz : 1 < W.heap.size) (hb : Below W.heap.size W w) : Shorts w := by
  obtain ⟨h0, h1, h2, h3, h4, h5, h6, h7, h8, h9, h10, h11, h12, h13, h14, h15⟩ := h
  exact ⟨(hb.cell (p := ⟨1, 0, none⟩) hz).trans h0, (hb.cell (p := ⟨1, 1, none⟩) hz).trans h1, (hb.cell (p := ⟨1, 2, none⟩) hz).trans h2, (hb.cell (p := ⟨1, 3, none⟩) hz).trans h3, (hb.cell (p := ⟨1, 4, none⟩) hz).trans h4, (hb.cell (p := ⟨1, 5, none⟩) hz).trans h5, (hb.cell (p := ⟨1, 6, none⟩) hz).trans h6, (hb.cell (p := ⟨1, 7, none⟩) hz).trans h7, (hb.cell (p := ⟨1, 8, none⟩) hz).trans h8, (hb.cell (p := ⟨1, 9, none⟩) hz).trans h9, (hb.cell (p := ⟨1, 10, none⟩) hz).trans h10, (hb.cell (p := ⟨1, 11, none⟩) hz).trans h11, (hb.cell (p := ⟨1, 12, none⟩) hz).trans h12, (hb.cell (p := ⟨1, 13, none⟩) hz).trans h13, (hb.cell (p := ⟨1, 14, none⟩) hz).trans h14, (hb.cell (p := ⟨1, 15, none⟩) hz).trans h15⟩
theorem step_app {P : Program} {w : World} {ops : Array Oper} {o : Oper} {a : Act} {K : Act → World → Prop} {Q : Exit → Act → World → Prop} {E : Prop} (hgd : o.guard = none) (s x : Operand) (t : TypeId)
    (ho : o.op = .call { callee := .builtin .append, args := #[s, x], argTypes := #[t, t] })
    (base : Nat) (e : TypeId) (i : TypeInfo) (z : Value) (bytes : Nat) (h1 : P.underlying t = some (.slice e)) (h2 : P.info? e = some i) (h3 : i.zero = some z) (h4 : i.size = 1) (h5 : i.bytes = bytes) (h6 : z.cells.size = 1)
    (v : Value) (n : Nat) (xs : List Value) (hs : a.eval s = v) (hown : w.ownsRow base e 1 v n xs) (ao : Option Addr) (m c : Nat) (B : Nat) (l : List UInt8) (hx : a.eval x = .slice ao m c) (hm : m = l.length) (hA : Byt w B ao l) (hnone : ao = none → c = 0)
    (h63 : n + m ≤ maxLen) (hbytes : (n + m) * bytes ≤ 140737488355328) (hbase : base ≤ w.heap.size)
    (hK : ∀ v' w', w'.ownsRow base e 1 v' (n + m) (xs ++ bytV l) → w.grownBy w' v.ownBlock → K (a.put o.dst v') w') :
    if Region.wanted o (yielded ops a.tmps) = true then Oper.wp P o a w K Q else E := by
  have hw : Region.wanted o (yielded ops a.tmps) = true := by simp [Region.wanted, hgd]
  rw [if_pos hw]
  cases ao with
  | some ad =>
    obtain ⟨v', w', hrun, r1, r2, _, r3⟩ := run_append_own_at (P := P) w base t o.type e i z 1 bytes h1 h2 h3 h4 h5 h6 (by omega) v n xs hown ad m c (bytV l) (by rw [bytV_len]; omega) (bytV_cells hA) (bytV_one l) h63 hbytes hbase
    unfold Oper.wp
    simp [execOp, ho, resolve, invoke, builtin, hs, hx, hrun, Result.andThen]
    exact hK v' w' r1 r2
  | none =>
    obtain rfl := byt_none hA
    obtain rfl : m = 0 := hm
    obtain rfl := hnone rfl
    have hrun := run_append_owned_none (P := P) w base t o.type e i 1 h1 h2 _ n xs hown
    unfold Oper.wp
    simp [execOp, ho, resolve, invoke, builtin, hs, hx, hrun, Result.andThen]
    exact hK v w (by simpa [bytV] using hown) (World.grownBy.refl _ _)
theorem ix_0 (w : World) : (Instr.index 94 (.agg #[.int .u8 34, .int .u8 34, .int .u8 92, .int .u8 92, .int .u8 47, .int .u8 47, .int .u8 98, .int .u8 8, .int .u8 102, .int .u8 12, .int .u8 110, .int .u8 10, .int .u8 114, .int .u8 13, .int .u8 116, .int .u8 9]) (.int .i64 0)).run Tryz.prog w = .ok (.agg #[.int .u8 34, .int .u8 34]) w := by kernel_rfl
theorem ix_1 (w : World) : (Instr.index 94 (.agg #[.int .u8 34, .int .u8 34, .int .u8 92, .int .u8 92, .int .u8 47, .int .u8 47, .int .u8 98, .int .u8 8, .int .u8 102, .int .u8 12, .int .u8 110, .int .u8 10, .int .u8 114, .int .u8 13, .int .u8 116, .int .u8 9]) (.int .i64 1)).run Tryz.prog w = .ok (.agg #[.int .u8 92, .int .u8 92]) w := by kernel_rfl
theorem ix_2 (w : World) : (Instr.index 94 (.agg #[.int .u8 34, .int .u8 34, .int .u8 92, .int .u8 92, .int .u8 47, .int .u8 47, .int .u8 98, .int .u8 8, .int .u8 102, .int .u8 12, .int .u8 110, .int .u8 10, .int .u8 114, .int .u8 13, .int .u8 116, .int .u8 9]) (.int .i64 2)).run Tryz.prog w = .ok (.agg #[.int .u8 47, .int .u8 47]) w := by kernel_rfl
theorem ix_3 (w : World) : (Instr.index 94 (.agg #[.int .u8 34, .int .u8 34, .int .u8 92, .int .u8 92, .int .u8 47, .int .u8 47, .int .u8 98, .int .u8 8, .int .u8 102, .int .u8 12, .int .u8 110, .int .u8 10, .int .u8 114, .int .u8 13, .int .u8 116, .int .u8 9]) (.int .i64 3)).run Tryz.prog w = .ok (.agg #[.int .u8 98, .int .u8 8]) w := by kernel_rfl
theorem ix_4 (w : World) : (Instr.index 94 (.agg #[.int .u8 34, .int .u8 34, .int .u8 92, .int .u8 92, .int .u8 47, .int .u8 47, .int .u8 98, .int .u8 8, .int .u8 102, .int .u8 12, .int .u8 110, .int .u8 10, .int .u8 114, .int .u8 13, .int .u8 116, .int .u8 9]) (.int .i64 4)).run Tryz.prog w = .ok (.agg #[.int .u8 102, .int .u8 12]) w := by kernel_rfl
theorem ix_5 (w : World) : (Instr.index 94 (.agg #[.int .u8 34, .int .u8 34, .int .u8 92, .int .u8 92, .int .u8 47, .int .u8 47, .int .u8 98, .int .u8 8, .int .u8 102, .int .u8 12, .int .u8 110, .int .u8 10, .int .u8 114, .int .u8 13, .int .u8 116, .int .u8 9]) (.int .i64 5)).run Tryz.prog w = .ok (.agg #[.int .u8 110, .int .u8 10]) w := by kernel_rfl
theorem ix_6 (w : World) : (Instr.index 94 (.agg #[.int .u8 34, .int .u8 34, .int .u8 92, .int .u8 92, .int .u8 47, .int .u8 47, .int .u8 98, .int .u8 8, .int .u8 102, .int .u8 12, .int .u8 110, .int .u8 10, .int .u8 114, .int .u8 13, .int .u8 116, .int .u8 9]) (.int .i64 6)).run Tryz.prog w = .ok (.agg #[.int .u8 114, .int .u8 13]) w := by kernel_rfl
theorem ix_7 (w : World) : (Instr.index 94 (.agg #[.int .u8 34, .int .u8 34, .int .u8 92, .int .u8 92, .int .u8 47, .int .u8 47, .int .u8 98, .int .u8 8, .int .u8 102, .int .u8 12, .int .u8 110, .int .u8 10, .int .u8 114, .int .u8 13, .int .u8 116, .int .u8 9]) (.int .i64 7)).run Tryz.prog w = .ok (.agg #[.int .u8 116, .int .u8 9]) w := by kernel_rfl
theorem byt_one {w : World} (c : UInt8) (x : Int) (hx : x = (c.toNat : Int)) (o : Obj) (h : o = .cells #[.int .u8 x] 5) : Byt (w.alloc o).drew (w.alloc o).drew.heap.size (some ⟨w.heap.size, 0, none⟩) [c] := by
  subst h; subst hx
  refine fun _ => ⟨w.heap.size, 0, rfl, by show _ < (w.alloc _).heap.size; simp, fun k hk => ?_⟩
  obtain rfl : k = 0 := by simpa using hk
  show (w.alloc _).cell? _ = _
  rw [World.cell?_alloc_at _ _ _ _ rfl]
  simp [bt]
theorem gDrew {a b : World} {row : Option Nat} (h : a.drew.grownBy b row) : a.grownBy b row := ⟨h.os, h.tape, h.output, h.size, h.block⟩
end Go.Proofs.YtnnlgodgaolkkaaGreatDoor
/- A byte's unit put behind others: the program's put. -/
namespace Go.Proofs.YtnnlgodgaolkkaaGreatDoor
open Go.RowKit

theorem cells_two {w : World} (c d : UInt8) (x y : Int) (hx : x = (c.toNat : Int)) (hy : y = (d.toNat : Int)) : Byt (w.alloc (.cells #[.int .u8 x, .int .u8 y] 5)) (w.alloc (.cells #[.int .u8 x, .int .u8 y] 5)).heap.size (some ⟨w.heap.size, 0, none⟩) [c, d] := by
  subst hx; subst hy
  refine fun _ => ⟨w.heap.size, 0, rfl, by simp, fun k hk => ?_⟩
  rw [World.cell?_alloc_at _ _ _ _ rfl]
  obtain rfl | rfl : k = 0 ∨ k = 1 := by simp at hk; omega
  · rfl
  · rfl
theorem cells_one' {w : World} (c : UInt8) (x : Int) (hx : x = (c.toNat : Int)) : Byt (w.alloc (.cells #[.int .u8 x] 5)) (w.alloc (.cells #[.int .u8 x] 5)).heap.size (some ⟨w.heap.size, 0, none⟩) [c] := by
  subst hx
  refine fun _ => ⟨w.heap.size, 0, rfl, by simp, fun k hk => ?_⟩
  obtain rfl : k = 0 := by simpa using hk
  rw [World.cell?_alloc_at _ _ _ _ rfl]
  simp [bt]
theorem cells_six {w : World} (a b c d e f : UInt8) : Byt (w.alloc (.cells #[.int .u8 (a.toNat : Int), .int .u8 (b.toNat : Int), .int .u8 (c.toNat : Int), .int .u8 (d.toNat : Int), .int .u8 (e.toNat : Int), .int .u8 (f.toNat : Int)] 5)).drew
    (w.alloc (.cells #[.int .u8 (a.toNat : Int), .int .u8 (b.toNat : Int), .int .u8 (c.toNat : Int), .int .u8 (d.toNat : Int), .int .u8 (e.toNat : Int), .int .u8 (f.toNat : Int)] 5)).drew.heap.size (some ⟨w.heap.size, 0, none⟩) [a, b, c, d, e, f] := by
  refine fun _ => ⟨w.heap.size, 0, rfl, by show _ < (w.alloc _).heap.size; simp, fun k hk => ?_⟩
  show (w.alloc _).cell? _ = _
  rw [World.cell?_alloc_at _ _ _ _ rfl]
  obtain rfl | rfl | rfl | rfl | rfl | rfl : k = 0 ∨ k = 1 ∨ k = 2 ∨ k = 3 ∨ k = 4 ∨ k = 5 := by simp at hk; omega
  all_goals rfl
theorem fig_at {n : Nat} (h : n < 16) : (⟨#[48, 49, 50, 51, 52, 53, 54, 55, 56, 57, 97, 98, 99, 100, 101, 102]⟩ : ByteArray)[n]'h = Qu.hxd n := by
  have : ∀ n : Fin 16, (⟨#[48, 49, 50, 51, 52, 53, 54, 55, 56, 57, 97, 98, 99, 100, 101, 102]⟩ : ByteArray)[n.1]'n.2 = Qu.hxd n.1 := by decide +kernel
  exact this ⟨n, h⟩
/-- A row of bytes that is the call's own; nothing below it has turned. -/
def OR (w : World) (base : Nat) (t : List UInt8) (e : Ending) (w' : World) : Prop := ∃ v, e = .returned v ∧ w'.ownsRow base 5 1 v t.length (bytV t) ∧ Below base w w'
theorem OR.of {w wr w' : World} {base : Nat} {t u : List UInt8} {v v' : Value} {o : Obj} (hg : w.grownBy wr none) (hb : base ≤ w.heap.size) (hown : wr.ownsRow base 5 1 v t.length (bytV t)) (h1 : w'.ownsRow base 5 1 v' (t.length + u.length) (bytV t ++ bytV u)) (h2 : (wr.alloc o).grownBy w' v.ownBlock) : OR w base (t ++ u) (.returned v') w' := by
  refine ⟨v', rfl, by rw [List.length_append, show bytV (t ++ u) = bytV t ++ bytV u by simp [bytV]]; exact h1, ?_⟩
  have a1 : Below base w wr := (Below.refl _ _).grown hg hb (fun _ h => by cases h)
  refine (a1.alloc (Nat.le_trans hb hg.size) o).grown h2 (by have := hg.size; simp; omega) (fun g e => ?_)
  rcases hown.2 with ⟨rfl, _⟩ | ⟨g', cap, cur, rfl, hb', _⟩
  · cases e
  · obtain rfl : g' = g := by simpa [Value.ownBlock] using e
    exact hb'
theorem esc_plain {c : UInt8} (h : plnI (c.toNat : Int) = true) : Qu.esc c = [c] := by
  have : 32 ≤ (c.toNat : Int) ∧ (c.toNat : Int) ≠ 34 ∧ (c.toNat : Int) ≠ 92 := by simpa [plnI] using h
  refine Qu.esc_one ?_ ?_ ?_
  · rintro rfl; exact this.2.1 (by decide)
  · rintro rfl; exact this.2.2 (by decide)
  · omega
theorem esc_ctl {c : UInt8} (h : plnI (c.toNat : Int) = false) (hn : ∀ j, j < 8 → ([34, 92, 47, 8, 12, 10, 13, 9] : List Int).getD j 0 ≠ (c.toNat : Int)) : c.toNat < 32 ∧ Qu.esc c = [92, 117, 48, 48, Qu.hxd (c.toNat / 16), Qu.hxd (c.toNat % 16)] := by
  have := Qu.byte_all (p := fun c => plnI (c.toNat : Int) || (List.range 8).any (fun j => ([34, 92, 47, 8, 12, 10, 13, 9] : List Int).getD j 0 == (c.toNat : Int)) || (decide (c.toNat < 32) && Qu.esc c == [92, 117, 48, 48, Qu.hxd (c.toNat / 16), Qu.hxd (c.toNat % 16)])) (by decide +kernel) c
  simp only [h, Bool.false_or, Bool.or_eq_true, Bool.and_eq_true, decide_eq_true_eq, beq_iff_eq] at this
  rcases this with h1 | h1
  · obtain ⟨j, hj, e⟩ := List.any_eq_true.1 h1
    exact absurd (by simpa using e) (hn j (List.mem_range.1 hj))
  · exact h1
section
variable {w : World} {base : Nat} {t : List UInt8} {v : Value}
set_option maxHeartbeats 4000000 in
set_option maxRecDepth 100000 in
theorem qput_any (c : UInt8) (x : Int) (hx : x = (c.toNat : Int)) (hown : w.ownsRow base 5 1 v t.length (bytV t)) (hb : base ≤ w.heap.size) (hS : Shorts w) (_hz : 1 < w.heap.size) (ht : t.length ≤ 10000000) :
    Calls Tryz.prog 76 #[v, .int .u8 x] w (OR w base (t ++ Qu.esc c)) := by
  obtain ⟨i0, hi, hz0, hz1, hz2⟩ := info_parts (show (Tryz.prog.info? 5).map (fun i => (i.zero, i.size, i.bytes)) = some (some (.int .u8 0), 1, 1) by kernel_rfl)
  have HX := Lib.hid hx
  have HO := Lib.hid hown
  have HSh := Lib.hid hS
  obtain ⟨b, HB⟩ : ∃ b, Hid (b = plnI x) := ⟨_, rfl⟩
  have h256 := c.toNat_lt
  have hx0 : 0 ≤ x := by omega
  have hx1 : x ≤ 255 := by omega
  clear hx hown hS h256
  cases b
  · obtain ⟨z0, z1, z2, z3, z4, z5, z6, z7, z8, z9, z10, z11, z12, z13, z14, z15⟩ := HSh.out
    go_enter Tryz.func76, Tryz.ntmps76
    go_wp2_with fail
    refine (plain_is HB.out _).mono ?_
    rintro e w1 ⟨rfl, rfl⟩
    go_wp2_with fail
    clear z0 z1 z2 z3 z4 z5 z6 z7 z8 z9 z10 z11 z12 z13 z14 z15
    go_loopw [14] (fun i wr => ∃ k : Nat, k ≤ 8 ∧ i = .int .i64 k ∧ w.grownBy wr none ∧ ∀ j, j < k → ([34, 92, 47, 8, 12, 10, 13, 9] : List Int).getD j 0 ≠ x) (fun i _ => 8 - (intOf i).toNat)
    case atStart => exact ⟨0, Nat.zero_le _, rfl, World.grownBy.refl _ _, fun j hj => by omega⟩
    case round =>
      obtain ⟨k, hk, rfl, hg, hno⟩ := hrel
      have HG := Lib.hid hg
      have HN := Lib.hid hno
      have HOr := Lib.hid (HO.out.kept hg (by
        rcases h : v.ownBlock with _ | g
        · exact .inl rfl
        · exact .inr (by simp)))
      have hbr : base ≤ wr.heap.size := Nat.le_trans hb hg.size
      clear hg hno
      rcases (show k = 0 ∨ k = 1 ∨ k = 2 ∨ k = 3 ∨ k = 4 ∨ k = 5 ∨ k = 6 ∨ k = 7 ∨ k = 8 by omega) with rfl | rfl | rfl | rfl | rfl | rfl | rfl | rfl | rfl
      · have hix := ix_0 wr
        by_cases hc : x = 34
        · have HE := Lib.hid (show Qu.esc c = [92, 34] by
            have : c = 34 := UInt8.toNat_inj.1 (by have := HX.out; rw [hc] at this; simp; omega)
            rw [this]; decide)
          subst hc
          go_wp2_with (at_builtin; refine wpApp _ rfl (.tmp 21) (.tmp 24) 66 rfl base 5 i0 (.int .u8 0) 1 Tryz.underlying66 hi hz0 hz1 hz2 rfl v t.length (bytV t) rfl ((HOr.out.alloc _).alloc _) (some ⟨wr.heap.size + 1, 0, none⟩) 2 2 _ [92, 34] rfl rfl (by have := cells_two (w := wr.alloc (.cells #[.int .u8 34, .int .u8 34] 93)) 92 34 92 34 (by decide) (by decide); rw [show (wr.alloc (.cells #[.int .u8 34, .int .u8 34] 93)).heap.size = wr.heap.size + 1 by simp] at this; exact this) (fun h => by cases h) (by unfold maxLen; omega) (by omega) (by simp; omega) ?_; intro v2 w2 hown2 hg2 _)
          go_ret
          rw [HE.out]
          exact OR.of (HG.out.trans (World.grownBy_alloc _ _ _)) hb (HOr.out.alloc _) hown2 hg2
        · have hc' : (34 == x) = false := by simp; omega
          go_wp2_with fail
          go_roundw
          case rel => exact ⟨1, by omega, by go_num, HG.out.trans (World.grownBy_alloc _ _ _), fun j hj => by
            rcases Nat.lt_or_ge j 0 with h1 | h1
            · exact HN.out j h1
            · obtain rfl : j = 0 := by omega
              exact fun e => hc e.symm⟩
          case measure => simp [intOf]
      · have hix := ix_1 wr
        by_cases hc : x = 92
        · have HE := Lib.hid (show Qu.esc c = [92, 92] by
            have : c = 92 := UInt8.toNat_inj.1 (by have := HX.out; rw [hc] at this; simp; omega)
            rw [this]; decide)
          subst hc
          go_wp2_with (at_builtin; refine wpApp _ rfl (.tmp 21) (.tmp 24) 66 rfl base 5 i0 (.int .u8 0) 1 Tryz.underlying66 hi hz0 hz1 hz2 rfl v t.length (bytV t) rfl ((HOr.out.alloc _).alloc _) (some ⟨wr.heap.size + 1, 0, none⟩) 2 2 _ [92, 92] rfl rfl (by have := cells_two (w := wr.alloc (.cells #[.int .u8 92, .int .u8 92] 93)) 92 92 92 92 (by decide) (by decide); rw [show (wr.alloc (.cells #[.int .u8 92, .int .u8 92] 93)).heap.size = wr.heap.size + 1 by simp] at this; exact this) (fun h => by cases h) (by unfold maxLen; omega) (by omega) (by simp; omega) ?_; intro v2 w2 hown2 hg2 _)
          go_ret
          rw [HE.out]
          exact OR.of (HG.out.trans (World.grownBy_alloc _ _ _)) hb (HOr.out.alloc _) hown2 hg2
        · have hc' : (92 == x) = false := by simp; omega
          go_wp2_with fail
          go_roundw
          case rel => exact ⟨2, by omega, by go_num, HG.out.trans (World.grownBy_alloc _ _ _), fun j hj => by
            rcases Nat.lt_or_ge j 1 with h1 | h1
            · exact HN.out j h1
            · obtain rfl : j = 1 := by omega
              exact fun e => hc e.symm⟩
          case measure => simp [intOf]
      · have hix := ix_2 wr
        by_cases hc : x = 47
        · exact absurd HB.out (by rw [hc]; decide)
        · have hc' : (47 == x) = false := by simp; omega
          go_wp2_with fail
          go_roundw
          case rel => exact ⟨3, by omega, by go_num, HG.out.trans (World.grownBy_alloc _ _ _), fun j hj => by
            rcases Nat.lt_or_ge j 2 with h1 | h1
            · exact HN.out j h1
            · obtain rfl : j = 2 := by omega
              exact fun e => hc e.symm⟩
          case measure => simp [intOf]
      · have hix := ix_3 wr
        by_cases hc : x = 8
        · have HE := Lib.hid (show Qu.esc c = [92, 98] by
            have : c = 8 := UInt8.toNat_inj.1 (by have := HX.out; rw [hc] at this; simp; omega)
            rw [this]; decide)
          subst hc
          go_wp2_with (at_builtin; refine wpApp _ rfl (.tmp 21) (.tmp 24) 66 rfl base 5 i0 (.int .u8 0) 1 Tryz.underlying66 hi hz0 hz1 hz2 rfl v t.length (bytV t) rfl ((HOr.out.alloc _).alloc _) (some ⟨wr.heap.size + 1, 0, none⟩) 2 2 _ [92, 98] rfl rfl (by have := cells_two (w := wr.alloc (.cells #[.int .u8 98, .int .u8 8] 93)) 92 98 92 98 (by decide) (by decide); rw [show (wr.alloc (.cells #[.int .u8 98, .int .u8 8] 93)).heap.size = wr.heap.size + 1 by simp] at this; exact this) (fun h => by cases h) (by unfold maxLen; omega) (by omega) (by simp; omega) ?_; intro v2 w2 hown2 hg2 _)
          go_ret
          rw [HE.out]
          exact OR.of (HG.out.trans (World.grownBy_alloc _ _ _)) hb (HOr.out.alloc _) hown2 hg2
        · have hc' : (8 == x) = false := by simp; omega
          go_wp2_with fail
          go_roundw
          case rel => exact ⟨4, by omega, by go_num, HG.out.trans (World.grownBy_alloc _ _ _), fun j hj => by
            rcases Nat.lt_or_ge j 3 with h1 | h1
            · exact HN.out j h1
            · obtain rfl : j = 3 := by omega
              exact fun e => hc e.symm⟩
          case measure => simp [intOf]
      · have hix := ix_4 wr
        by_cases hc : x = 12
        · have HE := Lib.hid (show Qu.esc c = [92, 102] by
            have : c = 12 := UInt8.toNat_inj.1 (by have := HX.out; rw [hc] at this; simp; omega)
            rw [this]; decide)
          subst hc
          go_wp2_with (at_builtin; refine wpApp _ rfl (.tmp 21) (.tmp 24) 66 rfl base 5 i0 (.int .u8 0) 1 Tryz.underlying66 hi hz0 hz1 hz2 rfl v t.length (bytV t) rfl ((HOr.out.alloc _).alloc _) (some ⟨wr.heap.size + 1, 0, none⟩) 2 2 _ [92, 102] rfl rfl (by have := cells_two (w := wr.alloc (.cells #[.int .u8 102, .int .u8 12] 93)) 92 102 92 102 (by decide) (by decide); rw [show (wr.alloc (.cells #[.int .u8 102, .int .u8 12] 93)).heap.size = wr.heap.size + 1 by simp] at this; exact this) (fun h => by cases h) (by unfold maxLen; omega) (by omega) (by simp; omega) ?_; intro v2 w2 hown2 hg2 _)
          go_ret
          rw [HE.out]
          exact OR.of (HG.out.trans (World.grownBy_alloc _ _ _)) hb (HOr.out.alloc _) hown2 hg2
        · have hc' : (12 == x) = false := by simp; omega
          go_wp2_with fail
          go_roundw
          case rel => exact ⟨5, by omega, by go_num, HG.out.trans (World.grownBy_alloc _ _ _), fun j hj => by
            rcases Nat.lt_or_ge j 4 with h1 | h1
            · exact HN.out j h1
            · obtain rfl : j = 4 := by omega
              exact fun e => hc e.symm⟩
          case measure => simp [intOf]
      · have hix := ix_5 wr
        by_cases hc : x = 10
        · have HE := Lib.hid (show Qu.esc c = [92, 110] by
            have : c = 10 := UInt8.toNat_inj.1 (by have := HX.out; rw [hc] at this; simp; omega)
            rw [this]; decide)
          subst hc
          go_wp2_with (at_builtin; refine wpApp _ rfl (.tmp 21) (.tmp 24) 66 rfl base 5 i0 (.int .u8 0) 1 Tryz.underlying66 hi hz0 hz1 hz2 rfl v t.length (bytV t) rfl ((HOr.out.alloc _).alloc _) (some ⟨wr.heap.size + 1, 0, none⟩) 2 2 _ [92, 110] rfl rfl (by have := cells_two (w := wr.alloc (.cells #[.int .u8 110, .int .u8 10] 93)) 92 110 92 110 (by decide) (by decide); rw [show (wr.alloc (.cells #[.int .u8 110, .int .u8 10] 93)).heap.size = wr.heap.size + 1 by simp] at this; exact this) (fun h => by cases h) (by unfold maxLen; omega) (by omega) (by simp; omega) ?_; intro v2 w2 hown2 hg2 _)
          go_ret
          rw [HE.out]
          exact OR.of (HG.out.trans (World.grownBy_alloc _ _ _)) hb (HOr.out.alloc _) hown2 hg2
        · have hc' : (10 == x) = false := by simp; omega
          go_wp2_with fail
          go_roundw
          case rel => exact ⟨6, by omega, by go_num, HG.out.trans (World.grownBy_alloc _ _ _), fun j hj => by
            rcases Nat.lt_or_ge j 5 with h1 | h1
            · exact HN.out j h1
            · obtain rfl : j = 5 := by omega
              exact fun e => hc e.symm⟩
          case measure => simp [intOf]
      · have hix := ix_6 wr
        by_cases hc : x = 13
        · have HE := Lib.hid (show Qu.esc c = [92, 114] by
            have : c = 13 := UInt8.toNat_inj.1 (by have := HX.out; rw [hc] at this; simp; omega)
            rw [this]; decide)
          subst hc
          go_wp2_with (at_builtin; refine wpApp _ rfl (.tmp 21) (.tmp 24) 66 rfl base 5 i0 (.int .u8 0) 1 Tryz.underlying66 hi hz0 hz1 hz2 rfl v t.length (bytV t) rfl ((HOr.out.alloc _).alloc _) (some ⟨wr.heap.size + 1, 0, none⟩) 2 2 _ [92, 114] rfl rfl (by have := cells_two (w := wr.alloc (.cells #[.int .u8 114, .int .u8 13] 93)) 92 114 92 114 (by decide) (by decide); rw [show (wr.alloc (.cells #[.int .u8 114, .int .u8 13] 93)).heap.size = wr.heap.size + 1 by simp] at this; exact this) (fun h => by cases h) (by unfold maxLen; omega) (by omega) (by simp; omega) ?_; intro v2 w2 hown2 hg2 _)
          go_ret
          rw [HE.out]
          exact OR.of (HG.out.trans (World.grownBy_alloc _ _ _)) hb (HOr.out.alloc _) hown2 hg2
        · have hc' : (13 == x) = false := by simp; omega
          go_wp2_with fail
          go_roundw
          case rel => exact ⟨7, by omega, by go_num, HG.out.trans (World.grownBy_alloc _ _ _), fun j hj => by
            rcases Nat.lt_or_ge j 6 with h1 | h1
            · exact HN.out j h1
            · obtain rfl : j = 6 := by omega
              exact fun e => hc e.symm⟩
          case measure => simp [intOf]
      · have hix := ix_7 wr
        by_cases hc : x = 9
        · have HE := Lib.hid (show Qu.esc c = [92, 116] by
            have : c = 9 := UInt8.toNat_inj.1 (by have := HX.out; rw [hc] at this; simp; omega)
            rw [this]; decide)
          subst hc
          go_wp2_with (at_builtin; refine wpApp _ rfl (.tmp 21) (.tmp 24) 66 rfl base 5 i0 (.int .u8 0) 1 Tryz.underlying66 hi hz0 hz1 hz2 rfl v t.length (bytV t) rfl ((HOr.out.alloc _).alloc _) (some ⟨wr.heap.size + 1, 0, none⟩) 2 2 _ [92, 116] rfl rfl (by have := cells_two (w := wr.alloc (.cells #[.int .u8 116, .int .u8 9] 93)) 92 116 92 116 (by decide) (by decide); rw [show (wr.alloc (.cells #[.int .u8 116, .int .u8 9] 93)).heap.size = wr.heap.size + 1 by simp] at this; exact this) (fun h => by cases h) (by unfold maxLen; omega) (by omega) (by simp; omega) ?_; intro v2 w2 hown2 hg2 _)
          go_ret
          rw [HE.out]
          exact OR.of (HG.out.trans (World.grownBy_alloc _ _ _)) hb (HOr.out.alloc _) hown2 hg2
        · have hc' : (9 == x) = false := by simp; omega
          go_wp2_with fail
          go_roundw
          case rel => exact ⟨8, by omega, by go_num, HG.out.trans (World.grownBy_alloc _ _ _), fun j hj => by
            rcases Nat.lt_or_ge j 7 with h1 | h1
            · exact HN.out j h1
            · obtain rfl : j = 7 := by omega
              exact fun e => hc e.symm⟩
          case measure => simp [intOf]
      · have hp : plnI (c.toNat : Int) = false := by rw [← HX.out, ← HB.out]
        obtain ⟨h32, HE⟩ := esc_ctl hp (fun j hj => by rw [← HX.out]; exact HN.out j hj)
        have HE := Lib.hid HE
        have hx32 : x < 32 := by have := HX.out; omega
        clear hp h32
        go_wp2_with fail
        obtain ⟨A, HA⟩ : ∃ A : Int, Hid (A = ((Qu.hxd (c.toNat / 16)).toNat : Int)) := ⟨_, rfl⟩
        obtain ⟨D, HD⟩ : ∃ D : Int, Hid (D = ((Qu.hxd (c.toNat % 16)).toNat : Int)) := ⟨_, rfl⟩
        have q0 : 0 ≤ x / 16 := by omega
        have q1 : x / 16 < 16 := by omega
        have q2 : 0 ≤ x % 16 := by omega
        have q3 : x % 16 < 16 := by omega
        have hand : bits .and .u8 x 15 = x % 16 := and8 x 4 (by omega) hx0 hx1
        have e1 : ∀ h : (x / 16).toNat < (⟨#[48, 49, 50, 51, 52, 53, 54, 55, 56, 57, 97, 98, 99, 100, 101, 102]⟩ : ByteArray).size, ((((⟨#[48, 49, 50, 51, 52, 53, 54, 55, 56, 57, 97, 98, 99, 100, 101, 102]⟩ : ByteArray)[(x / 16).toNat]'h).toNat : Nat) : Int) = A := fun h => by
          rw [HA.out, ← fig_at (n := c.toNat / 16) (by have := HX.out; omega)]
          simp only [show (x / 16).toNat = c.toNat / 16 by have := HX.out; omega]
        have e2 : ∀ h : (x % 16).toNat < (⟨#[48, 49, 50, 51, 52, 53, 54, 55, 56, 57, 97, 98, 99, 100, 101, 102]⟩ : ByteArray).size, ((((⟨#[48, 49, 50, 51, 52, 53, 54, 55, 56, 57, 97, 98, 99, 100, 101, 102]⟩ : ByteArray)[(x % 16).toNat]'h).toNat : Nat) : Int) = D := fun h => by
          rw [HD.out, ← fig_at (n := c.toNat % 16) (by omega)]
          simp only [show (x % 16).toNat = c.toNat % 16 by have := HX.out; omega]
        have HC := Lib.hid (cells_six (w := wr) 92 117 48 48 (Qu.hxd (c.toNat / 16)) (Qu.hxd (c.toNat % 16)))
        rw [← HA.out, ← HD.out] at HC
        have HOd := Lib.hid (HOr.out.alloc (.cells #[.int .u8 92, .int .u8 117, .int .u8 48, .int .u8 48, .int .u8 A, .int .u8 D] 5)).drew
        go_region_law? (first
          | (refine step_app rfl (.tmp 27) (.tmp 34) 66 rfl base 5 i0 (.int .u8 0) 1 Tryz.underlying66 hi hz0 hz1 hz2 rfl v t.length (bytV t) rfl HOd.out (some ⟨wr.heap.size, 0, none⟩) 6 6 _ [92, 117, 48, 48, Qu.hxd (c.toNat / 16), Qu.hxd (c.toNat % 16)] rfl rfl HC.out (fun h => by cases h) (by unfold maxLen; omega) (by omega) (by show base ≤ (wr.alloc _).heap.size; simp; omega) ?_; intro v2 w2 hown2 hg2))
        all_goals go_wp2_with fail
        all_goals go_ret
        all_goals rw [HE.out]
        all_goals exact OR.of HG.out hb HOr.out hown2 (gDrew hg2)
  · go_enter Tryz.func76, Tryz.ntmps76
    go_wp2_with fail
    refine (plain_is HB.out _).mono ?_
    rintro e w1 ⟨rfl, rfl⟩
    go_wp2_with (at_builtin; refine wpApp _ rfl (.tmp 9) (.tmp 11) 66 rfl base 5 i0 (.int .u8 0) 1 Tryz.underlying66 hi hz0 hz1 hz2 rfl v t.length (bytV t) rfl (HO.out.alloc _) (some ⟨w.heap.size, 0, none⟩) 1 1 _ [c] rfl rfl (cells_one' c x HX.out) (fun h => by cases h) (by unfold maxLen; omega) (by omega) (by simp; omega) ?_; intro v2 w2 hown2 hg2 _)
    go_ret
    rw [esc_plain (by rw [← HX.out, ← HB.out])]
    exact OR.of (World.grownBy.refl _ _) hb HO.out hown2 hg2
end
end Go.Proofs.YtnnlgodgaolkkaaGreatDoor
/- The program's own writing of a string. -/
namespace Go.Proofs.YtnnlgodgaolkkaaGreatDoor
open Go.RowKit

def WR (w wr : World) (t : List UInt8) (v : Value) : Prop := wr.ownsRow w.heap.size 5 1 v t.length (bytV t) ∧ Below w.heap.size w wr
theorem WR.of {w wr w' : World} {t u : List UInt8} {v v' : Value} {o : Obj} (h : WR w wr t v) (h1 : w'.ownsRow w.heap.size 5 1 v' (t.length + u.length) (bytV t ++ bytV u)) (h2 : (wr.alloc o).grownBy w' v.ownBlock) : WR w w' (t ++ u) v' := by
  refine ⟨by rw [List.length_append, show bytV (t ++ u) = bytV t ++ bytV u by simp [bytV]]; exact h1, ?_⟩
  refine (h.2.alloc h.2.size o).grown h2 (by have := h.2.size; simp; omega) (fun g e => ?_)
  rcases h.1.2 with ⟨rfl, _⟩ | ⟨g', cap, cur, rfl, hb', _⟩
  · cases e
  · obtain rfl : g' = g := by simpa [Value.ownBlock] using e
    exact hb'
theorem WR.conv {w wr : World} {t : List UInt8} {v : Value} (h : WR w wr t v) : ∃ A n c S, v = .slice A n c ∧ (convert 66 9 (.slice A n c)).run Tryz.prog wr = .ok (.string S) wr ∧ S = txt t := by
  obtain ⟨A, c, rfl, o1, o2, o3, o4, o5⟩ := own_form h.1
  exact ⟨A, _, c, _, rfl, conv_bytes _ c rfl o4, rfl⟩
theorem escs_len (t : List UInt8) : (Qu.escs t).length ≤ 6 * t.length := by
  induction t with
  | nil => simp [Qu.escs]
  | cons c t ih => have := Qu.esc_len6 c; rw [Qu.escs_cons, List.length_append, List.length_cons]; omega
theorem escs_take {l : List UInt8} {k : Nat} (h : k < l.length) : Qu.escs (l.take (k + 1)) = Qu.escs (l.take k) ++ Qu.esc l[k] := by
  rw [List.take_succ_eq_append_getElem h, Qu.escs_app]; simp [Qu.escs]
set_option maxHeartbeats 2000000 in
theorem qwrite_any {l : List UInt8} {s : ByteArray} (w : World) (hs : s = txt l) (hl : l.length ≤ 1000000) (hS : Shorts w) (hz : 1 < w.heap.size) :
    Calls Tryz.prog 62 #[.string s] w fun e w' => e = .returned (.string (txt (Qu.wrq l))) ∧ Below w.heap.size w w' := by
  obtain ⟨i0, hi, hz0, hz1, hz2⟩ := info_parts (show (Tryz.prog.info? 5).map (fun i => (i.zero, i.size, i.bytes)) = some (some (.int .u8 0), 1, 1) by kernel_rfl)
  have HS := Lib.hid hs
  have HL := Lib.hid hl
  have HSh := Lib.hid hS
  have HZ := Lib.hid (show s.size = l.length by rw [hs, txt_size])
  have hsz : s.size ≤ 1000000 := by rw [hs, txt_size]; exact hl
  clear hs hl hS
  go_enter Tryz.func62, Tryz.ntmps62
  go_wp2_with (first
    | (at_make; refine wpList_make_own _ rfl _ _ 66 rfl w.heap.size 5 i0 (.int .u8 0) 1 Tryz.underlying66 hi hz0 hz1 .i64 .i64 _ (s.size + 2) rfl rfl rfl (by rw [hz2]; omega) (by unfold maxLen; omega) (Nat.le_refl _) ?_; intro w1 hown1 hg1)
    | (at_builtin; refine wpApp _ rfl (.tmp 9) (.tmp 10) 66 rfl w.heap.size 5 i0 (.int .u8 0) 1 Tryz.underlying66 hi hz0 hz1 hz2 rfl (.slice (some ⟨w.heap.size, 0, none⟩) 0 (s.size + 2)) 0 [] rfl (hown1.alloc _) (some ⟨w1.heap.size, 0, none⟩) 1 1 _ [34] rfl rfl (cells_one' 34 34 (by decide)) (fun h => by cases h) (by unfold maxLen; omega) (by omega) (by have := hg1.size; simp; omega) ?_; intro v2 w2 hown2 hg2 _))
  have R0 : WR w w2 [34] v2 := WR.of (t := []) ⟨hown1, (Below.refl _ _).grown hg1 (Nat.le_refl _) (fun _ h => by cases h)⟩ hown2 hg2
  clear hown1 hg1 hown2 hg2
  go_loopw [3, 14] (fun v i wr => ∃ k : Nat, k ≤ s.size ∧ i = .int .i64 k ∧ WR w wr (34 :: Qu.escs (l.take k)) v) (fun _ i _ => s.size - (intOf i).toNat)
  case atStart => exact ⟨0, Nat.zero_le _, rfl, R0⟩
  case round =>
    obtain ⟨k, hk, rfl, R⟩ := hrel
    clear R0
    have HR := Lib.hid R
    have hlen : (34 :: Qu.escs (l.take k)).length ≤ 6000001 := by
      have := escs_len (l.take k)
      have h2 : (l.take k).length ≤ k := by simp; omega
      simp; omega
    by_cases hlt : k < s.size
    · have hkl : k < l.length := by rw [← HZ.out]; exact hlt
      have hx := txt_at HS.out (k := k)
      obtain ⟨y, HY⟩ : ∃ y, Hid (y = bt l k) := ⟨_, rfl⟩
      rw [← HY.out] at hx
      have HC := Lib.hid (show y = ((l[k]'hkl).toNat : Int) by rw [HY.out]; simp [bt, hkl])
      have HE := Lib.hid (escs_take hkl)
      have hzr : 1 < wr.heap.size := Nat.lt_of_lt_of_le hz R.2.size
      have HSr := Lib.hid (HSh.out.old (by omega) R.2)
      have hbr := R.2.size
      clear R
      go_wp2_with fail
      refine (qput_any (l[k]'hkl) y HC.out HR.out.1 hbr HSr.out hzr (by omega)).mono ?_
      rintro e w4 ⟨v', rfl, hown4, hb4⟩
      have N : Hid (WR w w4 (34 :: Qu.escs (l.take (k + 1))) v') := by
        refine ⟨?_, HR.out.2.trans hb4⟩
        rw [HE.out]; exact hown4
      clear hown4 hb4
      go_wp2_with fail
      go_roundw
      case rel => exact ⟨k + 1, by omega, by go_num, N.out⟩
      case measure => simp [intOf]; omega
    · obtain rfl : k = s.size := by omega
      have HK := Lib.hid (show l.take s.size = l by rw [HZ.out, List.take_length])
      have hbr := R.2.size
      clear R hlt
      go_wp2_with (at_builtin; refine wpApp _ rfl (.tmp 23) (.tmp 24) 66 rfl w.heap.size 5 i0 (.int .u8 0) 1 Tryz.underlying66 hi hz0 hz1 hz2 rfl _ (34 :: Qu.escs (l.take s.size)).length (bytV (34 :: Qu.escs (l.take s.size))) rfl (HR.out.1.alloc _) (some ⟨wr.heap.size, 0, none⟩) 1 1 _ [34] rfl rfl (cells_one' 34 34 (by decide)) (fun h => by cases h) (by unfold maxLen; omega) (by omega) (by simp; omega) ?_; intro v3 w3 hown3 hg3 _; have F := WR.of HR.out hown3 hg3; have HF2 := Lib.hid F.2; obtain ⟨A, n, c, S, rfl, hcv, hS⟩ := F.conv; rw [HK.out] at hS; have HSS := Lib.hid hS; clear F hown3 hg3 hS)
      go_ret
      exact ⟨by rw [HSS.out]; rfl, HF2.out⟩
end Go.Proofs.YtnnlgodgaolkkaaGreatDoor
/- The document's writing of a string. -/
namespace Go.Proofs.YtnnlgodgaolkkaaGreatDoor
open Go.RowKit

theorem fig_cut {n : Nat} (h : n < 16) : (⟨#[48, 49, 50, 51, 52, 53, 54, 55, 56, 57, 97, 98, 99, 100, 101, 102]⟩ : ByteArray).extract n (n + 1) = txt [Qu.hxd n] := by
  have : ∀ n : Fin 16, ((⟨#[48, 49, 50, 51, 52, 53, 54, 55, 56, 57, 97, 98, 99, 100, 101, 102]⟩ : ByteArray).extract n.1 (n.1 + 1)).data.toList = [Qu.hxd n.1] := by decide +kernel
  have e := this ⟨n, h⟩
  apply ByteArray.ext
  apply Array.ext'
  simpa [txt] using e
theorem below_drewN {B : Nat} {a w : World} (h : Below B a w) (n : Nat) : Below B a (w.drewN n) := ⟨h.os, h.tape, h.output, h.size, h.block⟩
/-- What is written so far. -/
def WS (l : List UInt8) (k : Nat) (S : ByteArray) : Prop := S = txt (34 :: Qu.escs (l.take k))
theorem WS.next {l : List UInt8} {k : Nat} {S : ByteArray} (h : WS l k S) (hk : k < l.length) {u : List UInt8} {U : ByteArray} (hU : U = txt u) (he : Qu.esc l[k] = u) : WS l (k + 1) (S ++ U) := by
  unfold WS at *
  rw [h, hU, txt_app, escs_take hk, he]; rfl
theorem WS.size {l : List UInt8} {k : Nat} {S : ByteArray} (h : WS l k S) (hl : l.length ≤ 1000000) : S.size ≤ 6000001 := by
  unfold WS at h
  have := escs_len (l.take k)
  have h2 : (l.take k).length ≤ l.length := by simp; omega
  rw [h, txt_size]; simp; omega
theorem esc_of {c d : UInt8} {y : Int} (h : y = (c.toNat : Int)) (hd : y = (d.toNat : Int)) : c = d := UInt8.toNat_inj.1 (by omega)
set_option maxHeartbeats 4000000 in
set_option maxRecDepth 100000 in
theorem rwrite_any {l : List UInt8} {s : ByteArray} (w : World) (hs : s = txt l) (hl : l.length ≤ 1000000) :
    Calls Tryz.prog 64 #[.string s] w fun e w' => e = .returned (.string (txt (Qu.wrq l))) ∧ Below w.heap.size w w' := by
  have HS := Lib.hid hs
  have HL := Lib.hid hl
  have HZ := Lib.hid (show s.size = l.length by rw [hs, txt_size])
  have hsz : s.size ≤ 1000000 := by rw [hs, txt_size]; exact hl
  have R0 : WS l 0 ⟨#[34]⟩ := by unfold WS; rw [List.take_zero]; rfl
  clear hs hl
  go_enter Tryz.func64, Tryz.ntmps64
  go_wp2_with fail
  go_loopw [3, 4] (fun v i wr => ∃ (k : Nat) (S : ByteArray), k ≤ s.size ∧ i = .int .i64 k ∧ v = .string S ∧ WS l k S ∧ Below w.heap.size w wr) (fun _ i _ => s.size - (intOf i).toNat)
  case atStart => exact ⟨0, _, Nat.zero_le _, rfl, rfl, R0, Below.refl _ _⟩
  case round =>
    obtain ⟨k, S, hk, rfl, rfl, R, hb⟩ := hrel
    clear R0
    have HR := Lib.hid R
    have HB := Lib.hid hb
    have hS1 := R.size HL.out
    clear R hb
    by_cases hlt : k < s.size
    · have hkl : k < l.length := by rw [← HZ.out]; exact hlt
      have hx := txt_at HS.out (k := k)
      obtain ⟨y, HY⟩ : ∃ y, Hid (y = bt l k) := ⟨_, rfl⟩
      rw [← HY.out] at hx
      have HC := Lib.hid (show y = ((l[k]'hkl).toNat : Int) by rw [HY.out]; simp [bt, hkl])
      have hy0 : 0 ≤ y := by have := HC.out; omega
      have hy1 : y ≤ 255 := by have := (l[k]'hkl).toNat_lt; have := HC.out; omega
      by_cases c34 : y = 34
      · have N := Lib.hid (HR.out.next hkl (U := ⟨#[92, 34]⟩) (u := [92, 34]) rfl (by rw [esc_of HC.out (d := 34) (by rw [c34]; rfl)]; decide))
        subst c34
        go_wp2_with fail
        go_roundw
        case rel => exact ⟨k + 1, _, by omega, by go_num, rfl, N.out, HB.out⟩
        case measure => simp [intOf]; omega
      by_cases c92 : y = 92
      · have N := Lib.hid (HR.out.next hkl (U := ⟨#[92, 92]⟩) (u := [92, 92]) rfl (by rw [esc_of HC.out (d := 92) (by rw [c92]; rfl)]; decide))
        subst c92
        go_wp2_with fail
        go_roundw
        case rel => exact ⟨k + 1, _, by omega, by go_num, rfl, N.out, HB.out⟩
        case measure => simp [intOf]; omega
      by_cases c8 : y = 8
      · have N := Lib.hid (HR.out.next hkl (U := ⟨#[92, 98]⟩) (u := [92, 98]) rfl (by rw [esc_of HC.out (d := 8) (by rw [c8]; rfl)]; decide))
        subst c8
        go_wp2_with fail
        go_roundw
        case rel => exact ⟨k + 1, _, by omega, by go_num, rfl, N.out, HB.out⟩
        case measure => simp [intOf]; omega
      by_cases c12 : y = 12
      · have N := Lib.hid (HR.out.next hkl (U := ⟨#[92, 102]⟩) (u := [92, 102]) rfl (by rw [esc_of HC.out (d := 12) (by rw [c12]; rfl)]; decide))
        subst c12
        go_wp2_with fail
        go_roundw
        case rel => exact ⟨k + 1, _, by omega, by go_num, rfl, N.out, HB.out⟩
        case measure => simp [intOf]; omega
      by_cases c10 : y = 10
      · have N := Lib.hid (HR.out.next hkl (U := ⟨#[92, 110]⟩) (u := [92, 110]) rfl (by rw [esc_of HC.out (d := 10) (by rw [c10]; rfl)]; decide))
        subst c10
        go_wp2_with fail
        go_roundw
        case rel => exact ⟨k + 1, _, by omega, by go_num, rfl, N.out, HB.out⟩
        case measure => simp [intOf]; omega
      by_cases c13 : y = 13
      · have N := Lib.hid (HR.out.next hkl (U := ⟨#[92, 114]⟩) (u := [92, 114]) rfl (by rw [esc_of HC.out (d := 13) (by rw [c13]; rfl)]; decide))
        subst c13
        go_wp2_with fail
        go_roundw
        case rel => exact ⟨k + 1, _, by omega, by go_num, rfl, N.out, HB.out⟩
        case measure => simp [intOf]; omega
      by_cases c9 : y = 9
      · have N := Lib.hid (HR.out.next hkl (U := ⟨#[92, 116]⟩) (u := [92, 116]) rfl (by rw [esc_of HC.out (d := 9) (by rw [c9]; rfl)]; decide))
        subst c9
        go_wp2_with fail
        go_roundw
        case rel => exact ⟨k + 1, _, by omega, by go_num, rfl, N.out, HB.out⟩
        case measure => simp [intOf]; omega
      have d34 : (y == 34) = false := by simp [c34]
      have d92 : (y == 92) = false := by simp [c92]
      have d8 : (y == 8) = false := by simp [c8]
      have d12 : (y == 12) = false := by simp [c12]
      have d10 : (y == 10) = false := by simp [c10]
      have d13 : (y == 13) = false := by simp [c13]
      have d9 : (y == 9) = false := by simp [c9]
      by_cases h32 : y < 32
      · have hp : plnI (((l[k]'hkl).toNat : Nat) : Int) = false := by rw [← HC.out]; simp [plnI]; omega
        obtain ⟨_, he⟩ := esc_ctl hp (fun j hj => by
          rw [← HC.out]
          obtain rfl | rfl | rfl | rfl | rfl | rfl | rfl | rfl : j = 0 ∨ j = 1 ∨ j = 2 ∨ j = 3 ∨ j = 4 ∨ j = 5 ∨ j = 6 ∨ j = 7 := by omega
          all_goals (simp; omega))
        obtain ⟨A, HA⟩ : ∃ A, Hid (A = txt [Qu.hxd ((l[k]'hkl).toNat / 16)]) := ⟨_, rfl⟩
        obtain ⟨D, HD⟩ : ∃ D, Hid (D = txt [Qu.hxd ((l[k]'hkl).toNat % 16)]) := ⟨_, rfl⟩
        have hlen1 : A.size = 1 := by rw [HA.out]; rfl
        have hlen2 : D.size = 1 := by rw [HD.out]; rfl
        have eA : (⟨#[48, 49, 50, 51, 52, 53, 54, 55, 56, 57, 97, 98, 99, 100, 101, 102]⟩ : ByteArray).extract (y / 16).toNat (y / 16 + 1).toNat = A := by
          rw [HA.out, ← fig_cut (by have := HC.out; omega)]
          congr 1 <;> (have := HC.out; omega)
        have eD : (⟨#[48, 49, 50, 51, 52, 53, 54, 55, 56, 57, 97, 98, 99, 100, 101, 102]⟩ : ByteArray).extract (y % 16).toNat (y % 16 + 1).toNat = D := by
          rw [HD.out, ← fig_cut (by have := HC.out; omega)]
          congr 1 <;> (have := HC.out; omega)
        have w1 : IntKind.u8.wrap (y / 16) = y / 16 := by rw [IntKind.wrap_u8']; omega
        have w2 : IntKind.u8.wrap (y / 16 + 1) = y / 16 + 1 := by rw [IntKind.wrap_u8']; omega
        have w3 : IntKind.u8.wrap (y % 16 + 1) = y % 16 + 1 := by rw [IntKind.wrap_u8']; omega
        have w4 : y.tmod 16 = y % 16 := Int.tmod_eq_emod_of_nonneg hy0
        have w5 : y.tdiv 16 = y / 16 := Int.tdiv_eq_ediv_of_nonneg hy0
        have q0 : 0 ≤ y / 16 := by omega
        have q1 : y / 16 < 16 := by omega
        have q2 : 0 ≤ y % 16 := by omega
        have q3 : y % 16 < 16 := by omega
        have N := Lib.hid (HR.out.next hkl (U := ⟨#[92, 117, 48, 48]⟩ ++ A ++ D) (by rw [HA.out, HD.out]; rfl) he)
        go_wp2_with fail
        go_quiet (fail)
        go_wp2_with fail
        go_roundw
        case rel => exact ⟨k + 1, _, by omega, by go_num, rfl, by have := N.out; rwa [← ByteArray.append_assoc, ← ByteArray.append_assoc] at this, below_drewN HB.out _⟩
        case measure => simp [intOf]; omega
      · have hp : plnI (((l[k]'hkl).toNat : Nat) : Int) = true := by rw [← HC.out]; simp [plnI, c34, c92]; omega
        have hcut := Lib.hid (show s.extract k (k + 1) = txt [l[k]'hkl] by
          rw [HS.out, txt_cut]; congr 1
          rw [List.drop_take, show k + 1 - k = 1 by omega, List.drop_eq_getElem_cons hkl]; rfl)
        have N := Lib.hid (HR.out.next hkl (U := s.extract k (k + 1)) hcut.out (esc_plain hp))
        go_wp2_with fail
        go_roundw
        case rel => exact ⟨k + 1, _, by omega, by go_num, rfl, N.out, HB.out⟩
        case measure => simp [intOf]; omega
    · obtain rfl : k = s.size := by omega
      have HK := Lib.hid (show l.take s.size = l by rw [HZ.out, List.take_length])
      clear hlt
      go_wp2_with fail
      go_ret
      refine ⟨?_, HB.out⟩
      have := HR.out
      unfold WS at this
      rw [this, HK.out, show (⟨#[34]⟩ : ByteArray) = txt [34] from rfl, txt_app]; rfl
end Go.Proofs.YtnnlgodgaolkkaaGreatDoor
