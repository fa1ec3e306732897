/- TOML's keys: the document's bare words and keys, and what landed: Write. -/
import Derived.Test.YtbeefjhcbphiaaaGreatDoorHk
import Derived.Lib.AppendStr
import Derived.Deep.DeepCutAuto
import Derived.Deep.CutBlock
import Derived.Deep.CutRange
import Derived.Test.YtbeefjhcbphiaaaGreatDoorHl
import Derived.Maps.AppendAt
namespace Go.Proofs.YtbeefjhcbphiaaaGreatDoor
open Go.RowKit
namespace Ty

theorem lt_of_block {w : World} {b : Nat} {o : Obj} (h : w.heap[b]? = some o) : b < w.heap.size := (Array.getElem?_eq_some_iff.1 h).1
/-- The bytes so far are the call's own row; what stood ahead of it has not turned. -/
def NR (W wr : World) (t : List UInt8) (v : Value) : Prop := wr.ownsRow W.heap.size 5 1 v t.length (bytV t) ∧ Below W.heap.size W wr
theorem own_below {w w' : World} {base size n : Nat} {e : TypeId} {v : Value} {xs : List Value} (h : w.ownsRow base e size v n xs) (hb : Below w.heap.size w w') : w'.ownsRow base e size v n xs := by
  refine ⟨h.1, ?_⟩
  rcases h.2 with h0 | ⟨g, cap, cur, e, hbg, hg, r⟩
  · exact .inl h0
  · exact .inr ⟨g, cap, cur, e, hbg, by rw [hb.block _ (lt_of_block hg)]; exact hg, r⟩
theorem strCells_txt (l : List UInt8) : Lib.strCells (txt l) = bytV l := by simp [Lib.strCells, bytV, txt]
section
variable {W wr w' : World} {t u : List UInt8} {v v' : Value}
theorem NR.start : NR W W [] (.slice none 0 0) := ⟨World.ownsRow_nil W _ 5 1, Below.refl _ _⟩
theorem NR.call (h : NR W wr t v) (hb : Below wr.heap.size wr w') : NR W w' t v := ⟨own_below h.1 hb, below_tr h.2 hb⟩
theorem NR.block (h : NR W wr t v) : ∀ g, v.ownBlock = some g → W.heap.size ≤ g := fun g e => (h.1.lt g e).1
theorem NR.str {S : ByteArray} (h : NR W wr t v) (hS : S = txt u) (h1 : w'.ownsRow W.heap.size 5 1 v' (t.length + S.size) (bytV t ++ Lib.strCells S)) (h2 : wr.grownBy w' v.ownBlock) : NR W w' (t ++ u) v' := by
  subst hS
  refine ⟨?_, h.2.grown h2 h.2.size h.block⟩
  rw [List.length_append, show bytV (t ++ u) = bytV t ++ bytV u by simp [bytV]]
  rw [txt_size, strCells_txt] at h1
  exact h1
theorem NR.app {o : Obj} (h : NR W wr t v) (h1 : w'.ownsRow W.heap.size 5 1 v' (t.length + u.length) (bytV t ++ bytV u)) (h2 : (wr.alloc o).grownBy w' v.ownBlock) : NR W w' (t ++ u) v' := by
  refine ⟨?_, (h.2.alloc h.2.size o).grown h2 (by have := h.2.size; simp; omega) h.block⟩
  rw [List.length_append, show bytV (t ++ u) = bytV t ++ bytV u by simp [bytV]]
  exact h1
theorem NR.conv (h : NR W wr t v) : ∃ A n c, v = .slice A n c ∧ (convert 48 9 (.slice A n c)).run Tryz.prog wr = .ok (.string (txt t)) wr := by
  obtain ⟨A, c, rfl, o1, o2, o3, o4, o5⟩ := own_form h.1
  exact ⟨A, _, c, rfl, conv_bytes _ c rfl o4⟩
end

def D64 : ByteArray := ⟨#[97, 98, 99, 100, 101, 102, 103, 104, 105, 106, 107, 108, 109, 110, 111, 112, 113, 114, 115, 116, 117, 118, 119, 120, 121, 122, 65, 66, 67, 68, 69, 70, 71, 72, 73, 74, 75, 76, 77, 78, 79, 80, 81, 82, 83, 84, 85, 86, 87, 88, 89, 90, 48, 49, 50, 51, 52, 53, 54, 55, 56, 57, 95, 45]⟩
def ch (i : Nat) : UInt8 := D64.data.toList.getD i 0
theorem D64_size : D64.size = 64 := by decide +kernel
theorem idx64 (i : Nat) (hi : i < 64) (W : World) : (Instr.index 9 (.string D64) (.int .i64 i)).run Tryz.prog W = .ok (.int .u8 ((ch i).toNat : Int)) W := by
  rw [run_index_string W 9 D64 .i64 _ Tryz.underlying9, dif_pos ⟨by omega, by rw [D64_size]; omega⟩]
  have h1 : D64[i]'(by rw [D64_size]; omega) = D64.data.toList.getD i 0 := by
    have h' : i < D64.data.toList.length := by rw [Array.length_toList]; show i < D64.size; rw [D64_size]; omega
    rw [List.getD_eq_getElem?_getD, List.getElem?_eq_getElem h']
    simp only [Option.getD_some, Array.getElem_toList]
    rfl
  show Result.ok _ W = _
  simp only [Int.toNat_natCast]
  rw [h1]; rfl
theorem ch_pl : ∀ i : Fin 64, plK ((ch i.val).toNat : Int) = true := by decide +kernel
theorem pl_ch : ∀ n : Fin 256, plK (n.val : Int) = true → ∃ i : Fin 64, ((ch i.val).toNat : Int) = n.val := by decide +kernel
theorem no_ch {c : Int} (h0 : 0 ≤ c) (h1 : c < 256) (h : ∀ j, j < 64 → ((ch j).toNat : Int) ≠ c) : plK c = false := by
  cases hp : plK c with
  | false => rfl
  | true =>
    obtain ⟨m, rfl⟩ : ∃ m : Nat, c = m := ⟨c.toNat, by omega⟩
    obtain ⟨i, hi⟩ := pl_ch ⟨m, by omega⟩ hp
    exact absurd hi (h i.val i.isLt)
set_option maxHeartbeats 2000000 in
set_option maxRecDepth 100000 in
theorem rplain_is {c : Int} {b : Bool} (w : World) (h0 : 0 ≤ c) (h1 : c < 256) (hb : b = plK c) : Calls Tryz.prog 123 #[.int .u8 c] w fun e w' => e = .returned (.bool b) ∧ w = w' := by
  have HB := Lib.hid hb
  have H01 := Lib.hid (And.intro h0 h1)
  clear h0 h1 hb
  go_enter Tryz.func123, Tryz.ntmps123
  go_wp2_with fail
  go_loop [4] (fun i => ∃ k : Nat, k ≤ 64 ∧ i = .int .i64 k ∧ Hid (∀ j, j < k → ((ch j).toNat : Int) ≠ c)) (fun i => 64 - (intOf i).toNat)
  case atStart => exact ⟨0, Nat.zero_le _, rfl, Lib.hid fun j hj => by omega⟩
  case round =>
    obtain ⟨k, hk, rfl, HN⟩ := hrel
    by_cases hlt : k < 64
    · have hix := fun W => idx64 k hlt W
      unfold D64 at hix
      obtain ⟨y, hy⟩ : ∃ y : Int, y = ((ch k).toNat : Int) := ⟨_, rfl⟩
      rw [← hy] at hix
      have HY := Lib.hid hy
      clear hy
      by_cases hc : y = c
      · subst hc
        obtain rfl : b = true := by rw [HB.out, HY.out]; exact ch_pl ⟨k, hlt⟩
        go_wp2_with fail
        go_ret
        exact ⟨rfl, rfl⟩
      · have hd : (y == c) = false := by rw [beq_eq_false_iff_ne]; exact hc
        have HN2 := Lib.hid (show ∀ j, j < k + 1 → ((ch j).toNat : Int) ≠ c from fun j hj => by
          by_cases h : j < k
          · exact HN.out j h
          · obtain rfl : j = k := by omega
            rw [← HY.out]; exact hc)
        clear hc
        go_wp2_with fail
        go_round
        case rel => exact ⟨k + 1, by omega, by go_num, HN2⟩
        case measure => simp [intOf]; omega
    · obtain rfl : k = 64 := by omega
      obtain rfl : b = false := by rw [HB.out]; exact no_ch H01.out.1 H01.out.2 HN.out
      go_wp2_with fail
      go_ret
      exact ⟨rfl, rfl⟩
set_option maxHeartbeats 2000000 in
set_option maxRecDepth 100000 in
theorem rbare_any {l : Bs} {s : ByteArray} (hs : s = txt l) (hl : l.length ≤ 1000000) (w : World) {b : Bool} (hb : b = bareB l) :
    Calls Tryz.prog 88 #[.string s] w fun e w' => e = .returned (.bool b) ∧ w = w' := by
  have HB := Lib.hid hb
  have HS := Lib.hid hs
  have HSZ := Lib.hid (show s.size = l.length by rw [hs, txt_size])
  have hsz : s.size ≤ 1000000 := by rw [hs, txt_size]; exact hl
  clear hs hl hb
  go_enter Tryz.func88, Tryz.ntmps88
  go_wp2_with fail
  go_loop [3] (fun a => ∃ k : Nat, k ≤ s.size ∧ a = .int .i64 k ∧ Hid (endP plK l k = endP plK l 0)) (fun a => s.size - (intOf a).toNat)
  case atStart => exact ⟨0, Nat.zero_le _, rfl, Lib.hid rfl⟩
  case round =>
    obtain ⟨k, hk, rfl, HE⟩ := hrel
    by_cases hlt : k < s.size
    · have hkl : k < l.length := by rw [← HSZ.out]; exact hlt
      have hx := txt_at HS.out (k := k)
      obtain ⟨y, HY⟩ : ∃ y, Hid (y = bt l k) := ⟨_, rfl⟩
      rw [← HY.out] at hx
      have HR := Lib.hid (show 0 ≤ y ∧ y < 256 by
        have hc := (l.getD k 0).toNat_lt
        rw [HY.out]
        show (0 : Int) ≤ ((l.getD k 0).toNat : Nat) ∧ (((l.getD k 0).toNat : Nat) : Int) < 256
        omega)
      cases hp : plK (bt l k) with
      | false =>
        obtain rfl : b = false := HB.out.trans (decide_eq_false fun h => by
          have := h.2
          rw [← HE.out, endP_no hp] at this; omega)
        have HPB := Lib.hid (show false = plK y by rw [HY.out]; exact hp.symm)
        clear hp hkl
        go_wp2_with fail
        refine (rplain_is _ HR.out.1 HR.out.2 HPB.out).mono ?_
        rintro e w1 ⟨rfl, rfl⟩
        go_wp2_with fail
        go_ret
        exact ⟨rfl, rfl⟩
      | true =>
        have HE2 := Lib.hid (show endP plK l (k + 1) = endP plK l 0 by rw [← HE.out, endP_on hkl hp])
        have HPB := Lib.hid (show true = plK y by rw [HY.out]; exact hp.symm)
        clear hp hkl
        go_wp2_with fail
        refine (rplain_is _ HR.out.1 HR.out.2 HPB.out).mono ?_
        rintro e w1 ⟨rfl, rfl⟩
        go_wp2_with fail
        go_round
        case rel => exact ⟨k + 1, by omega, by go_num, HE2⟩
        case measure => simp [intOf]; omega
    · obtain rfl : k = s.size := by omega
      have HE2 := Lib.hid (show endP plK l 0 = l.length by rw [← HE.out, endP_far (by rw [HSZ.out]; exact Nat.le_refl _), HSZ.out])
      by_cases h0 : 0 < s.size
      · obtain rfl : b = true := HB.out.trans (decide_eq_true ⟨fun e => by have := HSZ.out; rw [e, List.length_nil] at this; omega, HE2.out⟩)
        go_wp2_with fail
        go_ret
        exact ⟨rfl, rfl⟩
      · obtain rfl : b = false := HB.out.trans (decide_eq_false fun h => h.1 (List.eq_nil_of_length_eq_zero (by rw [← HSZ.out]; omega)))
        go_wp2_with fail
        go_ret
        exact ⟨rfl, rfl⟩
/-- Words that came in. -/
def Txs (w : World) (A : Option Addr) (n : Nat) (L : List Bs) : Prop := n = L.length ∧ Lst w w.heap.size A n fun k => .string (txt (L.getD k []))
theorem Txs.below {w w' : World} {A : Option Addr} {n : Nat} {L : List Bs} (h : Txs w A n L) (hb : Below w.heap.size w w') : Txs w' A n L := ⟨h.1, Lst.more (Lst.below h.2 hb) hb.size⟩
theorem wd_len (l : Bs) (h : l.length ≤ 100) : (wd l).length ≤ 602 := by
  unfold wd
  split
  · omega
  · have := wes_len l
    simp only [Tq.wr, List.length_cons, List.length_append, List.length_nil]
    omega
theorem wkN_len {L : List Bs} (h : ∀ k, (L.getD k []).length ≤ 100) : ∀ k, (wkN L k).length ≤ 603 * k
  | 0 => Nat.le_refl _
  | k + 1 => by
    have h1 := wkN_len h k
    have h2 := wd_len _ (h k)
    rw [wkN, List.length_append, List.length_append]
    split
    · simp only [List.length_nil]; omega
    · simp only [List.length_cons, List.length_nil]; omega
theorem wd_yes {l : Bs} (h : bareB l = true) : wd l = l := if_pos h
theorem wd_no {l : Bs} (h : bareB l = false) : wd l = Tq.wr l := if_neg (by rw [h]; decide)
theorem wkN_0 (L : List Bs) : wkN L (0 + 1) = wkN L 0 ++ wd (L.getD 0 []) := rfl
theorem wkN_s (L : List Bs) (k : Nat) : wkN L (k + 1 + 1) = wkN L (k + 1) ++ [46] ++ wd (L.getD (k + 1) []) := by
  rw [wkN, if_neg (by omega), List.append_assoc]
set_option maxHeartbeats 8000000 in
set_option maxRecDepth 100000 in
theorem kwrite_any {L : List Bs} {A : Option Addr} {n c : Nat} {w : World} (hA : Txs w A n L) (hn : n ≤ 100) (hl : ∀ k, (L.getD k []).length ≤ 100) (hT : Tab w) :
    Calls Tryz.prog 19 #[.slice A n c] w fun e w' => e = .returned (.string (txt (wk L))) ∧ Below w.heap.size w w' := by
  obtain ⟨i0, hi, hz0, hz1, hz2⟩ := info_parts (show (Tryz.prog.info? 5).map (fun i => (i.zero, i.size, i.bytes)) = some (some (.int .u8 0), 1, 1) by kernel_rfl)
  have HA := Lib.hid hA
  have HT := Lib.hid hT
  have HL := Lib.hid hl
  have HLN := Lib.hid (wkN_len hl)
  clear hA hT hl
  go_enter Tryz.func19, Tryz.ntmps19
  go_wp2_with fail
  go_loopw [3, 8] (fun v i wr => ∃ k : Nat, k ≤ n ∧ i = .int .i64 k ∧ Hid (NR w wr (wkN L k) v)) (fun _ i _ => n - (intOf i).toNat)
  case atStart => exact ⟨0, Nat.zero_le _, rfl, Lib.hid NR.start⟩
  case round =>
    obtain ⟨k, hk, rfl, R⟩ := hrel
    have hlen := HLN.out k
    by_cases hlt : k < n
    · obtain ⟨b, off, rfl, hb, hc⟩ := HA.out.2 (by omega)
      have hcell : wr.cell? ⟨b, off + k, none⟩ = some (.string (txt (L.getD k []))) := (R.out.2.cell (p := ⟨b, off + k, none⟩) hb).trans (hc k hlt)
      obtain ⟨s, hs⟩ : ∃ s, s = txt (L.getD k []) := ⟨_, rfl⟩
      rw [← hs] at hcell
      have HS := Lib.hid hs
      have hsz : s.size ≤ 100 := by rw [hs, txt_size]; exact HL.out k
      have HBW := Lib.hid R.out.2.size
      obtain ⟨l, hl⟩ : ∃ l, l = L.getD k [] := ⟨_, rfl⟩
      have HLL := Lib.hid hl
      clear hs hc hl

      rcases Nat.eq_zero_or_pos k with rfl | hk0
      · rw [Nat.add_zero] at hcell
        obtain ⟨t0, ht0⟩ : ∃ t, t = wkN L 0 := ⟨_, rfl⟩
        rw [← ht0] at R hlen
        have HT0 := Lib.hid ht0
        clear ht0
        have R1 := R
        obtain ⟨t1, ht1⟩ : ∃ t, t = t0 := ⟨_, rfl⟩
        rw [← ht1] at R1
        have hlen1 : t1.length ≤ 603 * n + 1 := by rw [ht1]; omega
        have HT1 := Lib.hid ht1
        clear ht1 R
        cases hbr : bareB l with
        | true =>
          have HBR := Lib.hid hbr
          clear hbr
          have HSL := Lib.hid (show s = txt l by rw [HLL.out]; exact HS.out)
          have HLE := Lib.hid (show l.length ≤ 100 by rw [HLL.out]; exact HL.out _)
          go_wp2_with fail
          refine (bare_any HSL.out (by have := HLE.out; omega) _ HBR.out.symm).mono ?_
          rintro e w8 ⟨rfl, rfl⟩
          go_wp2_with (at_builtin; (refine Lib.wpList_append_own_string _ rfl (.tmp 20) (.tmp 21) 48 9 rfl w.heap.size 5 i0 Tryz.underlying48 Tryz.underlying9 hi hz0 hz1 hz2 u3 t1.length (bytV t1) rfl R1.out.1 s rfl (by unfold maxLen; omega) (by omega) R1.out.2.size ?_); intro v9 w9 hown9 hg9 _)
          have F := Lib.hid (show NR w w9 (wkN L (0 + 1)) v9 from by rw [wkN_0, ← HT0.out, ← HT1.out, ← HLL.out, wd_yes HBR.out]; exact R1.out.str HSL.out hown9 hg9)
          clear hown9 hg9
          go_roundw
          case rel => exact ⟨0 + 1, by omega, by go_num, F⟩
          case measure => simp [intOf]; omega
        | false =>
          have HBR := Lib.hid hbr
          clear hbr
          have HSL := Lib.hid (show s = txt l by rw [HLL.out]; exact HS.out)
          have HLE := Lib.hid (show l.length ≤ 100 by rw [HLL.out]; exact HL.out _)
          go_wp2_with fail
          refine (bare_any HSL.out (by have := HLE.out; omega) _ HBR.out.symm).mono ?_
          rintro e w8 ⟨rfl, rfl⟩
          obtain ⟨x, hx⟩ : ∃ x, x = txt (Tq.wr l) := ⟨_, rfl⟩
          have hxs : x.size ≤ 602 := by rw [hx, txt_size]; have := wd_len l HLE.out; rwa [wd_no HBR.out] at this
          have HX := Lib.hid hx
          clear hx
          go_wp2_with fail
          refine (twrite_is _ HSL.out (by have := HLE.out; omega) HX.out (HT.out.below R1.out.2)).mono ?_
          rintro e w7 ⟨rfl, hb7⟩
          have R2 := Lib.hid (R1.out.call hb7)
          clear hb7
          go_wp2_with (at_builtin; (refine Lib.wpList_append_own_string _ rfl (.tmp 23) (.tmp 25) 48 9 rfl w.heap.size 5 i0 Tryz.underlying48 Tryz.underlying9 hi hz0 hz1 hz2 u3 t1.length (bytV t1) rfl R2.out.1 x rfl (by unfold maxLen; omega) (by omega) R2.out.2.size ?_); intro v9 w9 hown9 hg9 _)
          have F := Lib.hid (show NR w w9 (wkN L (0 + 1)) v9 from by rw [wkN_0, ← HT0.out, ← HT1.out, ← HLL.out, wd_no HBR.out]; exact R2.out.str HX.out hown9 hg9)
          clear hown9 hg9
          go_roundw
          case rel => exact ⟨0 + 1, by omega, by go_num, F⟩
          case measure => simp [intOf]; omega
      · obtain ⟨m, rfl⟩ : ∃ m, k = m + 1 := ⟨k - 1, by omega⟩
        obtain ⟨t0, ht0⟩ : ∃ t, t = wkN L (m + 1) := ⟨_, rfl⟩
        rw [← ht0] at R hlen
        have HT0 := Lib.hid ht0
        clear ht0
        go_upto_region 7 with (at_builtin; (refine wpApp _ rfl (.tmp 15) (.tmp 16) 48 rfl w.heap.size 5 i0 (.int .u8 0) 1 Tryz.underlying48 hi hz0 hz1 hz2 rfl u3 t0.length (bytV t0) rfl (R.out.1.alloc _) (some ⟨wr.heap.size, 0, none⟩) 1 1 _ [46] rfl rfl (cells_one' 46 46 (by decide)) (fun h => by cases h) (by unfold maxLen; omega) (by omega) (by have := HBW.out; simp; omega) ?_); intro v1 w1 hown1 hg1 _)
        have R1 := Lib.hid (NR.app (u := [46]) R.out hown1 hg1)
        clear hown1 hg1 hcell
        obtain ⟨t1, ht1⟩ : ∃ t, t = t0 ++ [46] := ⟨_, rfl⟩
        rw [← ht1] at R1
        have hlen1 : t1.length ≤ 603 * n + 1 := by rw [ht1, List.length_append]; simp; omega
        have HT1 := Lib.hid ht1
        clear ht1
        cases hbr : bareB l with
        | true =>
          have HBR := Lib.hid hbr
          clear hbr
          have HSL := Lib.hid (show s = txt l by rw [HLL.out]; exact HS.out)
          have HLE := Lib.hid (show l.length ≤ 100 by rw [HLL.out]; exact HL.out _)
          go_wp2_with fail
          refine (bare_any HSL.out (by have := HLE.out; omega) _ HBR.out.symm).mono ?_
          rintro e w8 ⟨rfl, rfl⟩
          go_wp2_with (at_builtin; (refine Lib.wpList_append_own_string _ rfl (.tmp 20) (.tmp 21) 48 9 rfl w.heap.size 5 i0 Tryz.underlying48 Tryz.underlying9 hi hz0 hz1 hz2 v1 t1.length (bytV t1) rfl R1.out.1 s rfl (by unfold maxLen; omega) (by omega) R1.out.2.size ?_); intro v9 w9 hown9 hg9 _)
          have F := Lib.hid (show NR w w9 (wkN L (m + 1 + 1)) v9 from by rw [wkN_s, ← HT0.out, ← HT1.out, ← HLL.out, wd_yes HBR.out]; exact R1.out.str HSL.out hown9 hg9)
          clear hown9 hg9
          go_roundw
          case rel => exact ⟨m + 1 + 1, by omega, by go_num, F⟩
          case measure => simp [intOf]; omega
        | false =>
          have HBR := Lib.hid hbr
          clear hbr
          have HSL := Lib.hid (show s = txt l by rw [HLL.out]; exact HS.out)
          have HLE := Lib.hid (show l.length ≤ 100 by rw [HLL.out]; exact HL.out _)
          go_wp2_with fail
          refine (bare_any HSL.out (by have := HLE.out; omega) _ HBR.out.symm).mono ?_
          rintro e w8 ⟨rfl, rfl⟩
          obtain ⟨x, hx⟩ : ∃ x, x = txt (Tq.wr l) := ⟨_, rfl⟩
          have hxs : x.size ≤ 602 := by rw [hx, txt_size]; have := wd_len l HLE.out; rwa [wd_no HBR.out] at this
          have HX := Lib.hid hx
          clear hx
          go_wp2_with fail
          refine (twrite_is _ HSL.out (by have := HLE.out; omega) HX.out (HT.out.below R1.out.2)).mono ?_
          rintro e w7 ⟨rfl, hb7⟩
          have R2 := Lib.hid (R1.out.call hb7)
          clear hb7
          go_wp2_with (at_builtin; (refine Lib.wpList_append_own_string _ rfl (.tmp 23) (.tmp 25) 48 9 rfl w.heap.size 5 i0 Tryz.underlying48 Tryz.underlying9 hi hz0 hz1 hz2 v1 t1.length (bytV t1) rfl R2.out.1 x rfl (by unfold maxLen; omega) (by omega) R2.out.2.size ?_); intro v9 w9 hown9 hg9 _)
          have F := Lib.hid (show NR w w9 (wkN L (m + 1 + 1)) v9 from by rw [wkN_s, ← HT0.out, ← HT1.out, ← HLL.out, wd_no HBR.out]; exact R2.out.str HX.out hown9 hg9)
          clear hown9 hg9
          go_roundw
          case rel => exact ⟨m + 1 + 1, by omega, by go_num, F⟩
          case measure => simp [intOf]; omega
    · obtain rfl : k = n := by omega
      have HF2 := Lib.hid R.out.2
      obtain ⟨A2, n2, c2, rfl, hcv⟩ := R.out.conv
      obtain ⟨S, hS⟩ : ∃ S, S = txt (wkN L k) := ⟨_, rfl⟩
      rw [← hS] at hcv
      have HS := Lib.hid hS
      clear hS R
      go_wp2_with fail
      go_ret
      have hfin : S = txt (wk L) := by rw [HS.out, HA.out.1]; rfl
      exact ⟨ret_s hfin, HF2.out⟩

end Ty
end Go.Proofs.YtbeefjhcbphiaaaGreatDoor
/- What landed of TOML's keys: Read, round a reader of words that is given. -/
namespace Go.Proofs.YtbeefjhcbphiaaaGreatDoor
open Go.RowKit
namespace Ty

/-- What a word's reading answers. -/
inductive WR1 where
  | ok (t : Bs) (e : Nat)
  | bad (c a : Nat)
deriving DecidableEq
def wrv : WR1 → Value
  | .ok t e => .tuple #[.string (txt t), .int .i64 e, .agg #[.int .i64 0, .int .i64 0]]
  | .bad c a => .tuple #[.string ⟨#[]⟩, .int .i64 0, .agg #[.int .i64 c, .int .i64 a]]
/-- A key so far: words and spans. -/
abbrev Ky := List (Bs × (Nat × Nat))
inductive KR where
  | ok (k : Ky) (e : Nat)
  | bad (c a : Nat)
  | out
deriving DecidableEq
/-- Behind a word that ends at e: where the next one begins. -/
def nxt (l : Bs) (e : Nat) : Option Nat := if endP blK l e < l.length ∧ bt l (endP blK l e) = 46 then some (endP blK l (endP blK l e + 1)) else none
def krun (wd : Nat → WR1) (l : Bs) : Nat → Nat → Ky → KR
  | 0, _, _ => .out
  | f + 1, p, k => match wd p with
    | .bad c a => .bad c a
    | .ok t e => match nxt l e with
      | none => .ok (k ++ [(t, (p, e))]) e
      | some q => krun wd l f q (k ++ [(t, (p, e))])
def kwC (k : Ky) : List Value := k.map fun x => .string (txt x.1)
def ksC (k : Ky) : List Value := k.flatMap fun x => [.int .i64 (x.2.1 : Nat), .int .i64 (x.2.2 : Nat)]
theorem endP_ge (p : Int → Bool) (l : Bs) (i : Nat) : i ≤ endP p l i := by
  by_cases h : i < l.length ∧ p (bt l i) = true
  · rw [endP_on h.1 h.2]
    have := endP_ge p l (i + 1)
    omega
  · rw [endP, if_neg h]; exact Nat.le_refl _
termination_by l.length - i
theorem endP_le (p : Int → Bool) (l : Bs) (i : Nat) (hi : i ≤ l.length) : endP p l i ≤ l.length := by
  by_cases h : i < l.length ∧ p (bt l i) = true
  · rw [endP_on h.1 h.2]
    exact endP_le p l (i + 1) (by omega)
  · rw [endP, if_neg h]; exact hi
termination_by l.length - i
/-- The key so far in its block; the result's fault behind it; both rows the call's own. -/
structure KS (w wr : World) (vW vS : Value) (nw : Nat) (cw : List Value) (ns : Nat) (cs : List Value) : Prop where
  below : Below w.heap.size w wr
  key : wr.heap[w.heap.size]? = some (.cells #[vW, vS] 174)
  ft : wr.heap[w.heap.size + 1]? = some ftO
  ow : wr.ownsRow (w.heap.size + 2) 9 1 vW nw cw
  os : wr.ownsRow (w.heap.size + 2) 40 2 vS ns cs
  ne : ∀ b, vW.ownBlock = some b → vS.ownBlock ≠ some b
theorem lt_of {w : World} {b : Nat} {o : Obj} (h : w.heap[b]? = some o) : b < w.heap.size := (Array.getElem?_eq_some_iff.1 h).1
theorem al_size (w : World) (o : Obj) : (w.alloc o).heap.size = w.heap.size + 1 := by show (w.heap.push o).size = _; simp
theorem own_shape {w : World} {base size n : Nat} {e : TypeId} {v : Value} {xs : List Value} (h : w.ownsRow base e size v n xs) : ∃ A c, v = .slice A n c ∧ n ≤ c ∧ c ≤ maxLen := by
  rcases h.2 with ⟨rfl, rfl⟩ | ⟨g, cap, cur, rfl, _, _, h1, h2, _⟩
  · exact ⟨none, 0, rfl, Nat.le_refl _, Nat.zero_le _⟩
  · exact ⟨_, _, rfl, h1, h2⟩
theorem own_keep {w w' : World} {base size n : Nat} {e : TypeId} {v : Value} {xs : List Value} (h : w.ownsRow base e size v n xs) (hb : ∀ k, v.ownBlock = some k → w'.heap[k]? = w.heap[k]?) : w'.ownsRow base e size v n xs := by
  refine ⟨h.1, ?_⟩
  rcases h.2 with h0 | ⟨g, cap, cur, rfl, hbg, hg, r⟩
  · exact .inl h0
  · exact .inr ⟨g, cap, cur, rfl, hbg, by rw [hb g rfl]; exact hg, r⟩
section
variable {w wr w' w9 : World} {vW vS v' : Value} {nw ns : Nat} {cw cs news : List Value} {o : Obj}
theorem KS.on (h : KS w wr vW vS nw cw ns cs) (hb : Below wr.heap.size wr w') : KS w w' vW vS nw cw ns cs :=
  ⟨below_tr h.below hb, by rw [hb.block _ (lt_of h.key)]; exact h.key, by rw [hb.block _ (lt_of h.ft)]; exact h.ft, own_below h.ow hb, own_below h.os hb, h.ne⟩
theorem KS.cells (h : KS w wr vW vS nw cw ns cs) : wr.cell? ⟨w.heap.size, 0, none⟩ = some vW ∧ wr.cell? ⟨w.heap.size, 1, none⟩ = some vS ∧ wr.cell? ⟨w.heap.size + 1, 0, none⟩ = some (.int .i64 0) ∧ wr.cell? ⟨w.heap.size + 1, 1, none⟩ = some (.int .i64 0) := by
  simp [World.cell?, h.key, h.ft]
theorem KS.free (h : KS w wr vW vS nw cw ns cs) : wr.frozen? ⟨w.heap.size, 0, none⟩ = false ∧ wr.frozen? ⟨w.heap.size, 1, none⟩ = false ∧ wr.frozen? ⟨w.heap.size + 1, 0, none⟩ = false ∧ wr.frozen? ⟨w.heap.size + 1, 1, none⟩ = false := by
  simp [World.frozen?, h.key, h.ft]
/-- A row has grown, and stands in its cell. -/
theorem KS.word (h : KS w wr vW vS nw cw ns cs) (hg : (wr.alloc o).grownBy w9 vW.ownBlock) (hl : v'.ownBlock = vW.ownBlock ∨ v'.ownBlock = some (wr.alloc o).heap.size) (ho : w9.ownsRow (w.heap.size + 2) 9 1 v' (nw + 1) (cw ++ news)) :
    KS w (w9.setCell ⟨w.heap.size, 0, none⟩ v') v' vS (nw + 1) (cw ++ news) ns cs := by
  have hF := lt_of h.ft
  have hown : ∀ b, vW.ownBlock = some b → w.heap.size + 2 ≤ b ∧ b < wr.heap.size := fun b e => h.ow.lt b e
  have hos : ∀ b, vS.ownBlock = some b → w.heap.size + 2 ≤ b ∧ b < wr.heap.size := fun b e => h.os.lt b e
  have old : ∀ b, b < wr.heap.size → vW.ownBlock ≠ some b → w9.heap[b]? = wr.heap[b]? := fun b hb hn => by
    rw [hg.block b (by rw [al_size]; omega) (fun e => hn e.symm)]; exact Below.heap_alloc wr o b hb
  have nW : ∀ b, b < w.heap.size + 2 → vW.ownBlock ≠ some b := fun b hb e => by have := (hown b e).1; omega
  have hv : ∀ b, v'.ownBlock = some b → vW.ownBlock = some b ∨ wr.heap.size < b + 1 := fun b e => by
    rcases hl with q | q
    · exact .inl (q.symm.trans e)
    · rw [q, al_size] at e; injection e with e; exact .inr (by omega)
  have hsz := h.below.size
  refine ⟨((h.below.alloc hsz o).grown hg (by rw [al_size]; omega) (fun b e => by have := (hown b e).1; omega)).setCell (Nat.le_refl _) _, ?_, ?_, ?_, ?_, ?_⟩
  · have hk : w9.heap[w.heap.size]? = some (.cells #[vW, vS] 174) := by rw [old _ (by omega) (nW _ (by omega))]; exact h.key
    exact heap_setCell_same _ _ _ _ _ _ hk
  · rw [heap_setCell_other _ _ _ _ (by show w.heap.size + 1 ≠ w.heap.size; omega), old _ hF (nW _ (by omega))]; exact h.ft
  · exact ownsRow_setCell_other ho (fun e => by have h9 : w.heap.size + 2 ≤ w.heap.size := (ho.lt _ e).1; omega) _
  · refine ownsRow_setCell_other (own_keep h.os fun b hb => old b (hos b hb).2 fun e => h.ne b e hb) (fun e => by have h9 : w.heap.size + 2 ≤ w.heap.size := (hos _ e).1; omega) _
  · intro b e hs
    rcases hv b e with q | q
    · exact h.ne b q hs
    · have := (hos b hs).2; omega
theorem KS.span (h : KS w wr vW vS nw cw ns cs) (hg : (wr.alloc o).grownBy w9 vS.ownBlock) (hl : v'.ownBlock = vS.ownBlock ∨ v'.ownBlock = some (wr.alloc o).heap.size) (ho : w9.ownsRow (w.heap.size + 2) 40 2 v' (ns + 1) (cs ++ news)) :
    KS w (w9.setCell ⟨w.heap.size, 1, none⟩ v') vW v' nw cw (ns + 1) (cs ++ news) := by
  have hF := lt_of h.ft
  have hown : ∀ b, vS.ownBlock = some b → w.heap.size + 2 ≤ b ∧ b < wr.heap.size := fun b e => h.os.lt b e
  have how : ∀ b, vW.ownBlock = some b → w.heap.size + 2 ≤ b ∧ b < wr.heap.size := fun b e => h.ow.lt b e
  have old : ∀ b, b < wr.heap.size → vS.ownBlock ≠ some b → w9.heap[b]? = wr.heap[b]? := fun b hb hn => by
    rw [hg.block b (by rw [al_size]; omega) (fun e => hn e.symm)]; exact Below.heap_alloc wr o b hb
  have nS : ∀ b, b < w.heap.size + 2 → vS.ownBlock ≠ some b := fun b hb e => by have := (hown b e).1; omega
  have hv : ∀ b, v'.ownBlock = some b → vS.ownBlock = some b ∨ wr.heap.size < b + 1 := fun b e => by
    rcases hl with q | q
    · exact .inl (q.symm.trans e)
    · rw [q, al_size] at e; injection e with e; exact .inr (by omega)
  have hsz := h.below.size
  refine ⟨((h.below.alloc hsz o).grown hg (by rw [al_size]; omega) (fun b e => by have := (hown b e).1; omega)).setCell (Nat.le_refl _) _, ?_, ?_, ?_, ?_, ?_⟩
  · have hk : w9.heap[w.heap.size]? = some (.cells #[vW, vS] 174) := by rw [old _ (by omega) (nS _ (by omega))]; exact h.key
    exact heap_setCell_same _ _ _ _ _ _ hk
  · rw [heap_setCell_other _ _ _ _ (by show w.heap.size + 1 ≠ w.heap.size; omega), old _ hF (nS _ (by omega))]; exact h.ft
  · refine ownsRow_setCell_other (own_keep h.ow fun b hb => old b (how b hb).2 fun e => h.ne b hb e) (fun e => by have h9 : w.heap.size + 2 ≤ w.heap.size := (how _ e).1; omega) _
  · exact ownsRow_setCell_other ho (fun e => by have h9 : w.heap.size + 2 ≤ w.heap.size := (ho.lt _ e).1; omega) _
  · intro b e hs
    rcases hv b hs with q | q
    · exact h.ne b e q
    · have := (how b e).2; omega
end
theorem KS.start (w : World) : KS w ((w.alloc (.cells #[.slice none 0 0, .slice none 0 0] 174)).alloc ftO) (.slice none 0 0) (.slice none 0 0) 0 [] 0 [] := by
  refine ⟨((Below.refl _ _).alloc (Nat.le_refl _) _).alloc (by show w.heap.size ≤ (w.heap.push _).size; simp) _, ?_, ?_, World.ownsRow_nil _ _ _ _, World.ownsRow_nil _ _ _ _, fun b h => by cases h⟩
  · show ((w.heap.push _).push _)[w.heap.size]? = _
    rw [Array.getElem?_push_lt (by simp)]; simp
  · show ((w.heap.push _).push _)[w.heap.size + 1]? = _
    rw [Array.getElem?_push, if_pos (by simp)]
theorem zcS : (Value.agg #[.int .i64 0, .int .i64 0]).cells.size = 2 := by simp [Value.cells]
theorem oneSpan (p q : Int) : ∀ u ∈ [Value.int .i64 p, .int .i64 q], u.oneCell' = true := by
  intro u hu
  simp at hu
  rcases hu with rfl | rfl <;> rfl
theorem cells_new {w : World} {t : TypeId} (cs : Array Value) (xs : List Value) (h : cs.toList = xs) : ∀ j u, xs[j]? = some u → (w.alloc (.cells cs t)).cell? ((⟨w.heap.size, 0, none⟩ : Addr).add j) = some u := fun j u hu => by
  rw [addAt, World.cell?_alloc_at _ _ _ _ rfl, ← Array.getElem?_toList, h, Nat.zero_add, hu]
/-- What Read leaves. -/
def KPost (w : World) (r : KR) (e : Ending) (w' : World) : Prop :=
  Below w.heap.size w w' ∧ match r with
  | .bad c a => e = .returned (.tuple #[.agg #[.slice none 0 0, .slice none 0 0], .int .i64 0, .agg #[.int .i64 c, .int .i64 a]])
  | .ok k en => ∃ A B cA cB, e = .returned (.tuple #[.agg #[.slice A k.length k.length, .slice B k.length k.length], .int .i64 en, .agg #[.int .i64 0, .int .i64 0]]) ∧
      w'.ownsRow (w.heap.size + 2) 9 1 (.slice A k.length cA) k.length (kwC k) ∧ w'.ownsRow (w.heap.size + 2) 40 2 (.slice B k.length cB) k.length (ksC k)
  | .out => False
end Ty
end Go.Proofs.YtbeefjhcbphiaaaGreatDoor
