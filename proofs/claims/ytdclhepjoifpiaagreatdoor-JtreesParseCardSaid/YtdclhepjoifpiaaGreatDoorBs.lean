/- The deep law: lists and maps within one another, as the bits say. -/
import Derived.Test.YtdclhepjoifpiaaGreatDoorKrm
import Derived.Lib.BufSteps
import Derived.Test.YtdclhepjoifpiaaGreatDoorRows
import Derived.ProofKit
import Derived.LaidMore
import Derived.OpenShut
import Derived.Stop.Joined
import Derived.Lib.LaidTab
import Derived.ChangeOld
import Derived.ChangeSame
import Derived.Lay
namespace Go.Proofs.YtdclhepjoifpiaaGreatDoor
open Go.RowKit
namespace Jt
open Jk (lt_blk below_tr fvO)

def opB (b : Bool) : Bs := if b = true then [123, 34, 34, 58] else [91]
def clB (b : Bool) : UInt8 := if b = true then 125 else 93
def opn (ms : List Bool) : Bs := ms.flatMap opB
def cls : List Bool → Bs
  | [] => []
  | b :: r => cls r ++ [clB b]
theorem nst_split : ∀ ms : List Bool, nst ms = opn ms ++ 48 :: cls ms
  | [] => rfl
  | false :: r => by rw [nst, nst_split r]; simp [opn, opB, cls, clB]
  | true :: r => by rw [nst, nst_split r]; simp [opn, opB, cls, clB]
theorem opn_cons (b : Bool) (r : List Bool) : opn (b :: r) = opB b ++ opn r := by simp [opn]
theorem off_opn : ∀ (k : Nat) (ms : List Bool), off k ms = (opn (ms.take k)).length
  | 0, ms => by cases ms <;> rfl
  | k + 1, [] => rfl
  | k + 1, false :: r => by rw [off, off_opn k r, List.take_succ_cons, opn_cons, List.length_append]; rfl
  | k + 1, true :: r => by rw [off, off_opn k r, List.take_succ_cons, opn_cons, List.length_append]; rfl
theorem opn_len : ∀ ms : List Bool, (opn ms).length ≤ 4 * ms.length
  | [] => Nat.le_refl _
  | b :: r => by
    have := opn_len r
    unfold opn at this ⊢
    rw [List.flatMap_cons, List.length_append, List.length_cons]
    have : (opB b).length ≤ 4 := by cases b <;> decide
    omega
theorem cls_len : ∀ ms : List Bool, (cls ms).length = ms.length
  | [] => rfl
  | b :: r => by rw [cls, List.length_append, cls_len r]; rfl
/-- The bits, as many as are asked for. -/
def bits (q : Nat → Bool) (n : Nat) : List Bool := (List.range n).map q
theorem bits_len (q : Nat → Bool) (n : Nat) : (bits q n).length = n := by simp [bits]
theorem bits_succ (q : Nat → Bool) (n : Nat) : bits q (n + 1) = bits q n ++ [q n] := by simp [bits, List.range_succ]
theorem bits_take (q : Nat → Bool) {k n : Nat} (h : k ≤ n) : (bits q n).take k = bits q k := by
  unfold bits
  rw [← List.map_take, List.take_range, Nat.min_eq_left h]
theorem bits_drop (q : Nat → Bool) {k n : Nat} (h : k < n) : (bits q n).drop k = q k :: (bits q n).drop (k + 1) := by
  have hl : k < (bits q n).length := by rw [bits_len]; exact h
  rw [List.drop_eq_getElem_cons hl]
  congr 1
  simp [bits]
theorem opn_succ (q : Nat → Bool) (n : Nat) : opn (bits q (n + 1)) = opn (bits q n) ++ opB (q n) := by
  rw [bits_succ]; simp [opn]
theorem bytV_op0 : Lib.strCells ⟨#[123, 34, 34, 58]⟩ = bytV (opB true) := rfl
theorem bytV_snoc (a : Bs) (c : UInt8) : bytV (a ++ [c]) = bytV a ++ [.int .u8 (c.toNat : Nat)] := by simp [bytV]
theorem bytV_app (a b : Bs) : bytV (a ++ b) = bytV a ++ bytV b := by simp [bytV]
/-- A slice that a call owns, as bytes. -/
theorem own_shape {B n : Nat} {v : Value} {l : Bs} {W0 w : World} (h : Lib.OwnBuf B 5 v n (bytV l) W0 w) : ∃ A c, v = .slice A n c ∧ n ≤ c ∧ c ≤ maxLen ∧ n = l.length ∧ Byt w w.heap.size A l := by
  have hn : n = l.length := by have := h.1.1; rw [bytV_len] at this; omega
  rcases h.1.2 with ⟨rfl, rfl⟩ | ⟨g, cap, cur, fz, rfl, hb, hg, _, h1, h2, h3, h4⟩
  · exact ⟨none, 0, rfl, Nat.le_refl _, Nat.zero_le _, hn, fun hl => absurd hl (by omega)⟩
  · refine ⟨some ⟨g, 0, none⟩, cap, rfl, h1, h2, hn, fun _ => ⟨g, 0, rfl, lt_blk hg, fun k hk => ?_⟩⟩
    have hk2 : (bytV l)[k]? = some (.int .u8 (bt l k)) := by
      unfold bytV
      rw [List.getElem?_map, List.getElem?_eq_getElem hk]
      simp [bt, hk]
    rw [← h4, List.getElem?_take] at hk2
    split at hk2
    · rw [Nat.zero_add, cell_of_row w g k cur _ fz hg, ← Array.getElem?_toList]; exact hk2
    · cases hk2
set_option maxHeartbeats 8000000 in
set_option maxRecDepth 100000 in
theorem deep_any {w : World} (hT : Tabs0 w) (n0 x : Int) (hn0 : 0 ≤ n0) (hn1 : n0 ≤ 65535) (_hx0 : 0 ≤ x) (_hx1 : x ≤ 18446744073709551615) : Calls Tryz.prog 6 #[.int .u16 n0, .int .u64 x] w fun e w' => e = .returned (.bool true) ∧ Below w.heap.size w w' := by
  obtain ⟨i0, hi, hz0, hz1, hz2⟩ := info_parts (show (Tryz.prog.info? 5).map (fun i => (i.zero, i.size, i.bytes)) = some (some (.int .u8 0), 1, 1) by kernel_rfl)
  have HTB := Lib.hid hT
  clear hT
  go_enter Tryz.func6, Tryz.ntmps6
  go_wp2_with fail
  obtain ⟨N, hN⟩ : ∃ N : Nat, n0 % 300 = N := ⟨(n0 % 300).toNat, by omega⟩
  have hN3 : N < 300 := by omega
  rw [hN]
  clear hN hn0 hn1
  obtain ⟨q, hq⟩ : ∃ q : Nat → Bool, q = fun k => Go.bits BinOp.and IntKind.u64 (x / 2 ^ (k % 64)) 1 == 1 := ⟨_, rfl⟩
  obtain ⟨ms, hms⟩ : ∃ ms : List Bool, ms = bits q N := ⟨_, rfl⟩
  have R0 : Lib.OwnBuf w.heap.size 5 (.slice none 0 0) 0 (bytV (opn (bits q 0))) w w := ⟨World.ownsRowF_nil _ _ _ _, Below.refl _ _, Nat.le_refl _⟩
  go_loopw [6, 7, 8] (fun s t i wr => ∃ k n : Nat, k ≤ N ∧ i = .int .i64 k ∧ t = .int .i64 (if k ≤ 256 then (-1 : Int) else ((opn (bits q 256)).length : Nat)) ∧ Lib.OwnBuf w.heap.size 5 s n (bytV (opn (bits q k))) w wr) (fun _ _ i _ => N - (intOf i).toNat)
  case atStart => exact ⟨0, 0, Nat.zero_le _, rfl, rfl, R0⟩
  case round =>
    obtain ⟨k, n, hk, rfl, rfl, R⟩ := hrel
    clear R0
    by_cases hlt : k < N
    · obtain ⟨A, c, rfl, hnc, hcm, hnn, _⟩ := own_shape R
      have hnb : n ≤ 1200 := by
        have := opn_len (bits q k)
        rw [bits_len] at this; omega
      have HR := Lib.hid R
      have HMS := Lib.hid hms
      have HQ := Lib.hid hq
      have HNN := Lib.hid hnn
      obtain ⟨at1, hat1⟩ : ∃ t : Int, t = if k + 1 ≤ 256 then (-1 : Int) else ((opn (bits q 256)).length : Nat) := ⟨_, rfl⟩
      obtain ⟨at0, hat0⟩ : ∃ t : Int, t = if k ≤ 256 then (-1 : Int) else ((opn (bits q 256)).length : Nat) := ⟨_, rfl⟩
      have hsame : k ≠ 256 → at0 = at1 := fun h => by
        rw [hat0, hat1]
        by_cases h2 : k ≤ 256
        · rw [if_pos h2, if_pos (by omega)]
        · rw [if_neg h2, if_neg (by omega)]
      have hhere : k = 256 → (n : Int) = at1 := fun h => by
        rw [hat1, if_neg (by omega), hnn, h]
      rw [← hat0]
      have HAT := Lib.hid hat1
      clear hat0 hat1
      have hqk : q k = (Go.bits BinOp.and IntKind.u64 (x / 2 ^ (k % 64)) 1 == 1) := by rw [hq]
      clear R hms hq hnn
      have finish : ∀ v' w1, Lib.OwnBuf w.heap.size 5 v' (n + (opB (q k)).length) (bytV (opn (bits q k)) ++ bytV (opB (q k))) w w1 → ∃ k' n' : Nat, k' ≤ N ∧ Value.int .i64 ((k : Int) + 1) = .int .i64 k' ∧ Value.int .i64 at1 = .int .i64 (if k' ≤ 256 then (-1 : Int) else ((opn (bits q 256)).length : Nat)) ∧ Lib.OwnBuf w.heap.size 5 v' n' (bytV (opn (bits q k'))) w w1 := fun v' w1 R1 => by
        refine ⟨k + 1, n + (opB (q k)).length, by omega, by simp, by rw [HAT.out], ?_⟩
        rw [opn_succ, bytV_app]; exact R1
      have FIN := Lib.hid finish
      clear finish
      cases hbt : (Go.bits BinOp.and IntKind.u64 (x / 2 ^ (k % 64)) 1 == 1) with
      | true =>
        have HQK := Lib.hid (hqk.trans hbt)
        clear hqk
        by_cases h256 : k = 256
        · have hat := hhere h256
          clear hsame hhere
          have H256 := Lib.hid h256
          have hb256 : ((k : Int) == 256) = true := by rw [h256]; rfl
          clear h256
          go_wp2_with (at_builtin; refine Lib.wpList_append_text rfl (.tmp 30) _ 22 9 rfl w.heap.size 5 i0 Tryz.underlying22 Tryz.underlying9 hi hz0 hz1 hz2 (.slice A n c) n (bytV (opn (bits q k))) rfl w HR.out ⟨#[123, 34, 34, 58]⟩ rfl (by show n + 4 ≤ _; omega) ?_; intro v' w1 R1)
          go_round
          case rel => refine FIN.out _ _ ?_; rw [HQK.out]; exact R1
          case measure => simp [intOf]; omega
        · have hat := hsame h256
          clear hsame hhere
          have hb256 : ((k : Int) == 256) = false := by simp; omega
          go_wp2_with (at_builtin; refine Lib.wpList_append_text rfl (.tmp 30) _ 22 9 rfl w.heap.size 5 i0 Tryz.underlying22 Tryz.underlying9 hi hz0 hz1 hz2 (.slice A n c) n (bytV (opn (bits q k))) rfl w HR.out ⟨#[123, 34, 34, 58]⟩ rfl (by show n + 4 ≤ _; omega) ?_; intro v' w1 R1)
          go_round
          case rel => refine FIN.out _ _ ?_; rw [HQK.out]; exact R1
          case measure => simp [intOf]; omega
      | false =>
        have HQK := Lib.hid (hqk.trans hbt)
        clear hqk
        by_cases h256 : k = 256
        · have hat := hhere h256
          clear hsame hhere
          have H256 := Lib.hid h256
          have hb256 : ((k : Int) == 256) = true := by rw [h256]; rfl
          clear h256
          go_wp2_with (at_builtin; refine Lib.wpList_append_byte rfl (.tmp 32) (.tmp 33) 22 rfl w.heap.size 5 i0 Tryz.underlying22 hi hz0 hz1 hz2 (.slice A n c) n (bytV (opn (bits q k))) rfl w wr 91 HR.out rfl (by omega) ?_; intro v' w1 R1)
          go_round
          case rel => refine FIN.out _ _ ?_; rw [HQK.out]; exact R1
          case measure => simp [intOf]; omega
        · have hat := hsame h256
          clear hsame hhere
          have hb256 : ((k : Int) == 256) = false := by simp; omega
          go_wp2_with (at_builtin; refine Lib.wpList_append_byte rfl (.tmp 32) (.tmp 33) 22 rfl w.heap.size 5 i0 Tryz.underlying22 hi hz0 hz1 hz2 (.slice A n c) n (bytV (opn (bits q k))) rfl w wr 91 HR.out rfl (by omega) ?_; intro v' w1 R1)
          go_round
          case rel => refine FIN.out _ _ ?_; rw [HQK.out]; exact R1
          case measure => simp [intOf]; omega
    · obtain rfl : N = k := by omega
      obtain ⟨A, c, rfl, hnc, hcm, hnn, _⟩ := own_shape R
      have hnb : n ≤ 1200 := by
        have := opn_len (bits q N)
        rw [bits_len] at this; omega
      have HR := Lib.hid R
      have HMS := Lib.hid hms
      have HQ := Lib.hid hq
      obtain ⟨at1, hat1⟩ : ∃ t : Int, t = if N ≤ 256 then (-1 : Int) else ((opn (bits q 256)).length : Nat) := ⟨_, rfl⟩
      rw [← hat1]
      have HAT := Lib.hid hat1
      clear hat1 hms hq hnn R
      go_wp2_with (at_builtin; refine Lib.wpList_append_byte rfl (.tmp 35) (.tmp 36) 22 rfl w.heap.size 5 i0 Tryz.underlying22 hi hz0 hz1 hz2 (.slice A n c) n (bytV (opn (bits q N))) rfl w wr 48 HR.out rfl (by omega) ?_; intro v1 w1 R1)
      have R2 : Lib.OwnBuf w.heap.size 5 v1 (n + 1) (bytV (opn ms ++ [48] ++ cls (ms.drop N))) w w1 := by
        rw [show ms.drop N = [] from by rw [HMS.out]; exact List.drop_eq_nil_of_le (by rw [bits_len]; exact Nat.le_refl _), cls, List.append_nil, HMS.out, bytV_snoc]
        exact R1
      clear R1 HR
      go_loopw [6, 9] (fun s i wr => ∃ (j n : Nat) (t : Int), j ≤ N ∧ t = j - 1 ∧ i = .int .i64 t ∧ Lib.OwnBuf w.heap.size 5 s n (bytV (opn ms ++ [48] ++ cls (ms.drop j))) w wr) (fun _ i _ => (intOf i + 1).toNat)
      case atStart => exact ⟨N, n + 1, (N : Int) - 1, Nat.le_refl _, rfl, rfl, R2⟩
      case round =>
        clear R2 hnc hcm hnb
        obtain ⟨j, n, t, hj, ht, rfl, R⟩ := hrel
        cases j with
        | succ k =>
          obtain rfl : t = (k : Int) := by omega
          clear ht
          obtain ⟨A, c, rfl, hnc, hcm, hnn, _⟩ := own_shape R
          have hml : ms.length = N := by rw [HMS.out, bits_len]
          have hnb : n ≤ 2000 := by
            have h1 := opn_len ms
            have h2 := cls_len (ms.drop (k + 1))
            rw [List.length_drop] at h2
            rw [List.length_append, List.length_append, h2] at hnn
            simp at hnn
            omega
          have hqk : q k = (Go.bits BinOp.and IntKind.u64 (x / 2 ^ (k % 64)) 1 == 1) := by rw [HQ.out]
          have hdr : ms.drop k = q k :: ms.drop (k + 1) := by rw [HMS.out]; exact bits_drop q (by omega)
          have finish : ∀ v' w1, Lib.OwnBuf w.heap.size 5 v' (n + 1) (bytV (opn ms ++ [48] ++ cls (ms.drop (k + 1))) ++ [.int .u8 ((clB (q k)).toNat : Nat)]) w w1 → ∃ (j' n' : Nat) (t : Int), j' ≤ N ∧ t = j' - 1 ∧ Value.int .i64 ((k : Int) - 1) = .int .i64 t ∧ Lib.OwnBuf w.heap.size 5 v' n' (bytV (opn ms ++ [48] ++ cls (ms.drop j'))) w w1 := fun v' w1 R1 => by
            refine ⟨k, n + 1, (k : Int) - 1, by omega, rfl, rfl, ?_⟩
            rw [hdr, cls, ← List.append_assoc, bytV_snoc]; exact R1
          have FIN := Lib.hid finish
          have HR := Lib.hid R
          obtain ⟨L, hL⟩ : ∃ L, L = bytV (opn ms ++ [48] ++ cls (ms.drop (k + 1))) := ⟨_, rfl⟩
          rw [← hL] at HR FIN
          clear finish R hdr hml hnn hL
          cases hbt : (Go.bits BinOp.and IntKind.u64 (x / 2 ^ (k % 64)) 1 == 1) with
          | true =>
            have HQK := Lib.hid (hqk.trans hbt)
            clear hqk
            go_wp2_with (at_builtin; refine Lib.wpList_append_byte rfl (.tmp 50) (.tmp 51) 22 rfl w.heap.size 5 i0 Tryz.underlying22 hi hz0 hz1 hz2 (.slice A n c) n L rfl w wr 125 HR.out rfl (by omega) ?_; intro v1 w1 R1)
            go_round
            case rel => refine FIN.out _ _ ?_; rw [HQK.out]; exact R1
            case measure => simp [intOf]
          | false =>
            have HQK := Lib.hid (hqk.trans hbt)
            clear hqk
            go_wp2_with (at_builtin; refine Lib.wpList_append_byte rfl (.tmp 53) (.tmp 54) 22 rfl w.heap.size 5 i0 Tryz.underlying22 hi hz0 hz1 hz2 (.slice A n c) n L rfl w wr 93 HR.out rfl (by omega) ?_; intro v1 w1 R1)
            go_round
            case rel => refine FIN.out _ _ ?_; rw [HQK.out]; exact R1
            case measure => simp [intOf]
        | zero =>
          obtain rfl : t = -1 := by omega
          clear ht
          have hl : opn ms ++ [48] ++ cls (ms.drop 0) = nst ms := by rw [List.drop_zero, nst_split]; simp
          rw [hl] at R
          obtain ⟨A, c, rfl, hnc, hcm, hnn, hB⟩ := own_shape R
          have hml : ms.length = N := by rw [HMS.out, bits_len]
          have hnb : n ≤ 2000 := by
            have h1 := opn_len ms
            have h2 := cls_len ms
            rw [nst_split] at hnn
            rw [List.length_append, List.length_cons, h2] at hnn
            omega
          have CP := Lib.hid (parse_any (l := nst ms) hnn hnc hB (Nat.le_refl _) hcm (by omega) (HTB.out.below R.2.1))
          have HW := Lib.hid R.2.1
          have pn := parse_nst ms
          rw [hml] at pn
          have htk : N = 256 ∨ 256 < N → ms.take 256 = bits q 256 := fun h => by rw [HMS.out]; exact bits_take q (by omega)
          clear hl R hnn hB hcm hnc hnb hj HMS hml
          by_cases h256 : 256 < N
          · have hp := pn.2 h256
            rw [off_opn] at hp
            have hat : ((opn (ms.take 256)).length : Int) = at1 := by rw [htk (.inr h256), HAT.out, if_neg (by omega)]
            clear pn htk
            go_wp2_with fail
            refine CP.out.mono ?_
            rintro e w5 ⟨hb5, h5⟩
            rw [hp] at h5
            replace h5 : e = .returned (.tuple #[.agg #[.slice none 0 0, .int .i64 0], .agg #[.int .i64 4, .int .i64 at1]]) := by rw [← hat]; exact h5
            subst h5
            have HB5 := Lib.hid hb5
            clear hb5 hat hp
            go_upto_region 20 with fail
            have HF := Lib.hid (PB.start (w := w5) (sv := .slice none 0 0) (c := 4) (a := at1))
            obtain ⟨V, hV⟩ : ∃ V, V = (w5.alloc (trO (.slice none 0 0))).alloc (fvO 4 at1) := ⟨_, rfl⟩
            rw [← hV] at HF ⊢
            have HV := Lib.hid (below_tr (below_tr HW.out HB5.out) HF.out.below)
            clear hV
            obtain ⟨a0, a1, a2, a3⟩ := HF.out.cells
            go_wp2_with (go_at_call 7; refine (lives_any (HTB.out.below HV.out)).mono ?_; rintro e w7 ⟨rfl, hb7⟩)
            go_ret
            exact ⟨rfl, below_tr HV.out hb7⟩
          · obtain ⟨nd, hp, hnl⟩ := pn.1 (by omega)
            clear pn htk
            go_wp2_with fail
            refine CP.out.mono ?_
            rintro e w5 ⟨hb5, h5⟩
            rw [hp] at h5
            obtain ⟨A2, M, lab, X, rfl, hX, hXn⟩ := h5
            have hxl : X.length = N + 1 := by rw [← hnl, ← hXn, List.length_map]
            obtain ⟨g, cc, eA, _⟩ := hX.cells (by omega)
            rw [hxl] at eA
            injection eA with e1 e2 e3
            clear e3
            subst e1
            subst e2
            have HB5 := Lib.hid hb5
            clear hb5 hp hnl hX hXn hxl
            go_upto_region 20 with fail
            obtain ⟨M, hM⟩ : ∃ M : Nat, M = N + 1 := ⟨_, rfl⟩
            have hMi : (M : Int) = N + 1 := by omega
            rw [← hM]
            have HF := Lib.hid (PB.start (w := w5) (sv := .slice (some ⟨g, 0, none⟩) M M) (c := 0) (a := 0))
            obtain ⟨V, hV⟩ : ∃ V, V = (w5.alloc (trO (.slice (some ⟨g, 0, none⟩) M M))).alloc (fvO 0 0) := ⟨_, rfl⟩
            rw [← hV] at HF ⊢
            have HV := Lib.hid (below_tr (below_tr HW.out HB5.out) HF.out.below)
            clear hV hM
            obtain ⟨a0, a1, a2, a3⟩ := HF.out.cells
            have hN256 : ¬ (256 : Int) < (N : Int) := by omega
            go_wp2_with (go_at_call 7; refine (lives_any (HTB.out.below HV.out)).mono ?_; rintro e w7 ⟨rfl, hb7⟩)
            go_ret
            exact ⟨rfl, below_tr HV.out hb7⟩
end Jt
end Go.Proofs.YtdclhepjoifpiaaGreatDoor
/- What a law finds when it is called: the tables as the program lays them; the door's own heap meets the condition. -/
namespace Go.Proofs.YtdclhepjoifpiaaGreatDoor
open Go.ChangeShapes Go.WideShapes Go.ChangeAt Go.RowKit
namespace Jt

theorem own : ownKnob Tryz.prog.godebug = none := by kernel_rfl
theorem laidOut : laidOutB Tryz.prog = true := by kernel_rfl
theorem gHeads : Tryz.prog.globalNamed "inarch/utf8s.heads" = some 3 := by kernel_rfl
theorem gShorts : Tryz.prog.globalNamed "inarch/quotes.shorts" = some 1 := by kernel_rfl
theorem tHeads : (Tryz.prog.globals[3]?).map (·.type) = some 189 := by kernel_rfl
theorem tShorts : (Tryz.prog.globals[1]?).map (·.type) = some 162 := by kernel_rfl
theorem tPow : (Tryz.prog.globals[2]?).map (·.type) = some 184 := by kernel_rfl
theorem pow_tab : (Rows.laid_internal_strconv_uint64pow10 : DataW Unit) = Lib.tabData .u64 Lib.pow10Tab := by kernel_rfl
/-- What the rows list. -/
def laid5 : List (String × DataW Unit) := [("math/bits.deBruijn32tab", Rows.laid_math_bits_deBruijn32tab), ("math/bits.deBruijn64tab", Rows.laid_math_bits_deBruijn64tab), ("internal/strconv.uint64pow10", Rows.laid_internal_strconv_uint64pow10), ("unicode/utf8.acceptRanges", Rows.laid_unicode_utf8_acceptRanges), ("inarch/utf8s.heads", Rows.laid_inarch_utf8s_heads), ("inarch/quotes.shorts", Rows.laid_inarch_quotes_shorts), ("unicode/utf8.first", Rows.laid_unicode_utf8_first)]
theorem plain5 {w : World} : laidMetH Tryz.prog laid5 w = laidMet Tryz.prog laid5 w := MakeChecks.laidMetH_plain _ _ _ (by kernel_rfl)
set_option maxRecDepth 100000 in
theorem door_met (os : Os) (args : Array Value) : laidMetH Tryz.prog laid5 ((World.laidAll Tryz.prog os laid5).forCall (fun _ _ => 0) ⟨#[], args, []⟩).memory := by
  rw [plain5]; exact laidMet_laidAll _ (by kernel_rfl) (by kernel_rfl)
section
variable {enc : TypeId × Value → Unit} {w : World} {base : Nat} {sp : Nat → Bool} {held : Bool} {fuel : Nat} {cs : List Value}
/-- An array of pairs of bytes that reads so holds them, cell for cell. -/
theorem pairs_of {zs : List (Int × Int)} {p : List MemPlace} (hz : zs.length = 8)
    (h : DataW.trod enc Tryz.prog w base sp held fuel 162 cs = some (.agg (zs.map fun z => .agg [.lit (.int .u8 z.1), .lit (.int .u8 z.2)]), p)) :
    ∀ i z, zs[i]? = some z → cs[i * 2]? = some (.int .u8 z.1) ∧ cs[i * 2 + 1]? = some (.int .u8 z.2) := by
  intro i z hi
  have hi8 : i < 8 := by
    rcases Nat.lt_or_ge i 8 with h1 | h1
    · exact h1
    · rw [List.getElem?_eq_none (by omega)] at hi; cases hi
  obtain ⟨xs, m, _, hx, hl, hxl, hel⟩ := DataW.trod_array Tryz.underlying162 h
  have hxs := congrArg Prod.fst hx
  simp only [DataW.agg.injEq] at hxs
  have h1 := hel i hi8
  have h2 : xs[i]? = some (xs[i]'(by omega)) := List.getElem?_eq_getElem (by omega)
  rw [h2] at h1
  have h3 : (xs[i]'(by omega)).1 = .agg [.lit (.int .u8 z.1), .lit (.int .u8 z.2)] := by
    have := congrArg (·[i]?) hxs
    simp only [List.getElem?_map, hi, h2, Option.map_some, Option.some.injEq] at this
    exact this.symm
  have cu : Tryz.prog.cellsOf 161 = 2 := by kernel_rfl
  have c5 : Tryz.prog.cellsOf 5 = 1 := by kernel_rfl
  rw [cu] at h1
  obtain ⟨y0, y1, n, hy, hlen, t0, t1⟩ := trod_struct2 Tryz.underlying161 h1
  rw [hy] at h3
  simp only [DataW.agg.injEq, List.cons.injEq, and_true] at h3
  obtain ⟨a0, a1⟩ := h3
  simp only [c5] at t0 t1
  obtain ⟨x0, e0, f0, _⟩ := DataW.trod_int Tryz.underlying5 t0
  obtain ⟨x1, e1, f1, _⟩ := DataW.trod_int Tryz.underlying5 t1
  rw [f0] at a0
  rw [f1] at a1
  simp only [DataW.lit.injEq, Lit.int.injEq, true_and] at a0 a1
  subst a0 a1
  constructor
  · have := congrArg (·[0]?) e0
    simpa [List.getElem?_take, List.getElem?_drop] using this
  · have := congrArg (·[0]?) e1
    simpa [List.getElem?_take, List.getElem?_drop] using this
end
theorem tab_of_laid {W : World} (h : laidMetH Tryz.prog laid5 W) : Tabs0 W := by
  rw [plain5] at h
  obtain ⟨ps, ⟨g0, t0, cs0, f0, p0, q0, hg0, ht0, hv0, hd0, ⟨g1, t1, cs1, f1, p1, q1, hg1, ht1, hv1, hd1, ⟨g2, t2, cs2, f2, p2, q2, hg2, ht2, hv2, hd2, ⟨g3, t3, cs3, f3, p3, q3, hg3, ht3, hv3, hd3, ⟨g4, t4, cs4, f4, p4, q4, hg4, ht4, hv4, hd4, ⟨g5, t5, cs5, f5, p5, q5, hg5, ht5, hv5, hd5, _, _⟩, _⟩, _⟩, _⟩, _⟩, _⟩, _, _⟩ := h
  obtain rfl := Option.some.inj (De.gPow.symm.trans hg2)
  obtain rfl := Option.some.inj (tPow.symm.trans ht2)
  obtain rfl := Option.some.inj (gHeads.symm.trans hg4)
  obtain rfl := Option.some.inj (gShorts.symm.trans hg5)
  obtain rfl := Option.some.inj (tHeads.symm.trans ht4)
  obtain rfl := Option.some.inj (tShorts.symm.trans ht5)
  have c79 : Tryz.prog.cellsOf 55 = 1 := by kernel_rfl
  have ct : Tryz.prog.cellsOf 184 = 20 := by kernel_rfl
  rw [pow_tab] at hd2
  have e2 := Lib.cells_of_tab Tryz.underlying184 Tryz.underlying55 c79 ct hd2
  have c5 : Tryz.prog.cellsOf 5 = 1 := by kernel_rfl
  have c52 : Tryz.prog.cellsOf 189 = 4 := by kernel_rfl
  have e0 := Lib.cells_of_tab (k := .u8) (zs := [0, 192, 224, 240]) Tryz.underlying189 Tryz.underlying5 c5 c52 hd4
  have e1 := pairs_of (zs := [(34, 34), (92, 92), (47, 47), (98, 8), (102, 12), (110, 10), (114, 13), (116, 9)]) rfl hd5
  have k0 : ∀ i, W.cell? ⟨3, i, none⟩ = cs4[i]? := fun i => World.var?_cell hg4 hv4 i
  have k1 : ∀ i, W.cell? ⟨1, i, none⟩ = cs5[i]? := fun i => World.var?_cell hg5 hv5 i
  have a0 : ∀ i : Nat, cs4[i]? = (([0, 192, 224, 240] : List Int).map (Value.int .u8))[i]? := fun i => by rw [← Array.getElem?_toList, e0]
  have a1 : ∀ i z, ([(34, 34), (92, 92), (47, 47), (98, 8), (102, 12), (110, 10), (114, 13), (116, 9)] : List (Int × Int))[i]? = some z → W.cell? ⟨1, i * 2, none⟩ = some (.int .u8 z.1) ∧ W.cell? ⟨1, i * 2 + 1, none⟩ = some (.int .u8 z.2) := fun i z h => by
    obtain ⟨h1, h2⟩ := e1 i z h
    rw [k1, k1, ← Array.getElem?_toList, ← Array.getElem?_toList]; exact ⟨h1, h2⟩
  have m0 : W.cell? ⟨3, 0, none⟩ = some (.int .u8 0) := by rw [k0, a0]; rfl
  have hT : De.Tab W := by unfold De.Tab Lib.TabIs; rw [hv2, ← e2]
  refine ⟨hT, ⟨m0, ?_, ?_, ?_⟩, ⟨(a1 0 _ rfl).1, (a1 0 _ rfl).2, (a1 1 _ rfl).1, (a1 1 _ rfl).2, (a1 2 _ rfl).1, (a1 2 _ rfl).2, (a1 3 _ rfl).1, (a1 3 _ rfl).2, (a1 4 _ rfl).1, (a1 4 _ rfl).2, (a1 5 _ rfl).1, (a1 5 _ rfl).2, (a1 6 _ rfl).1, (a1 6 _ rfl).2, (a1 7 _ rfl).1, (a1 7 _ rfl).2⟩, World.block_lt_of_cell? W _ m0⟩
  all_goals (rw [k0, a0]; rfl)
/-- The deep law, as the row asks it. -/
theorem deepW_any {n0 x : Int} (a1 : 0 ≤ n0) (a2 : n0 ≤ 65535) (b1 : 0 ≤ x) (b2 : x ≤ 18446744073709551615) (W : World) (h : Tabs0 W) :
    Calls Tryz.prog 6 #[.int .u16 n0, .int .u64 x] W fun e w' => e = .returned (.bool true) ∧ Below W.heap.size W w' := deep_any h n0 x a1 a2 b1 b2
end Jt
end Go.Proofs.YtdclhepjoifpiaaGreatDoor
