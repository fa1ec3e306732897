/- TOML's keys: the document's bare words and keys, and what landed: Write. -/
import Derived.Test.YtpdaelcoiilkkaaDoorTya
import Derived.Lib.AppendStr
import Derived.Deep.DeepCutAuto
import Derived.Deep.CutBlock
import Derived.Deep.CutRange
namespace Go.Proofs.YtpdaelcoiilkkaaDoor
open Go.RowKit
namespace Ty

theorem lt_of_block {w : World} {b : Nat} {o : Obj} (h : w.heap[b]? = some o) : b < w.heap.size := (Array.getElem?_eq_some_iff.1 h).1
/-- The bytes so far are the call's own row; what stood ahead of it has not turned. -/
def NR (W wr : World) (t : List UInt8) (v : Value) : Prop := wr.ownsRow W.heap.size 5 1 v t.length (bytV t) ∧ Below W.heap.size W wr
theorem own_below {w w' : World} {base size n : Nat} {e : TypeId} {v : Value} {xs : List Value} (h : w.ownsRow base e size v n xs) (hb : Below w.heap.size w w') : w'.ownsRow base e size v n xs := by
  refine ⟨h.1, ?_⟩
  rcases h.2 with h0 | ⟨g, cap, cur, e, hbg, hg, r⟩
  · exact .inl h0
  · exact .inr ⟨g, cap, cur, e, hbg, by rw [hb.block _ (lt_of_block hg)]; exact hg, r⟩
theorem strCells_txt (l : List UInt8) : Lib.strCells (txt l) = bytV l := by simp [Lib.strCells, bytV, txt]
section
variable {W wr w' : World} {t u : List UInt8} {v v' : Value}
theorem NR.start : NR W W [] (.slice none 0 0) := ⟨World.ownsRow_nil W _ 5 1, Below.refl _ _⟩
theorem NR.call (h : NR W wr t v) (hb : Below wr.heap.size wr w') : NR W w' t v := ⟨own_below h.1 hb, below_tr h.2 hb⟩
theorem NR.block (h : NR W wr t v) : ∀ g, v.ownBlock = some g → W.heap.size ≤ g := fun g e => (h.1.lt g e).1
theorem NR.str {S : ByteArray} (h : NR W wr t v) (hS : S = txt u) (h1 : w'.ownsRow W.heap.size 5 1 v' (t.length + S.size) (bytV t ++ Lib.strCells S)) (h2 : wr.grownBy w' v.ownBlock) : NR W w' (t ++ u) v' := by
  subst hS
  refine ⟨?_, h.2.grown h2 h.2.size h.block⟩
  rw [List.length_append, show bytV (t ++ u) = bytV t ++ bytV u by simp [bytV]]
  rw [txt_size, strCells_txt] at h1
  exact h1
theorem NR.app {o : Obj} (h : NR W wr t v) (h1 : w'.ownsRow W.heap.size 5 1 v' (t.length + u.length) (bytV t ++ bytV u)) (h2 : (wr.alloc o).grownBy w' v.ownBlock) : NR W w' (t ++ u) v' := by
  refine ⟨?_, (h.2.alloc h.2.size o).grown h2 (by have := h.2.size; simp; omega) h.block⟩
  rw [List.length_append, show bytV (t ++ u) = bytV t ++ bytV u by simp [bytV]]
  exact h1
theorem NR.conv (h : NR W wr t v) : ∃ A n c, v = .slice A n c ∧ (convert 49 9 (.slice A n c)).run Tryd.prog wr = .ok (.string (txt t)) wr := by
  obtain ⟨A, c, rfl, o1, o2, o3, o4, o5⟩ := own_form h.1
  exact ⟨A, _, c, rfl, conv_bytes _ c rfl o4⟩
end

def D64 : ByteArray := ⟨#[97, 98, 99, 100, 101, 102, 103, 104, 105, 106, 107, 108, 109, 110, 111, 112, 113, 114, 115, 116, 117, 118, 119, 120, 121, 122, 65, 66, 67, 68, 69, 70, 71, 72, 73, 74, 75, 76, 77, 78, 79, 80, 81, 82, 83, 84, 85, 86, 87, 88, 89, 90, 48, 49, 50, 51, 52, 53, 54, 55, 56, 57, 95, 45]⟩
def ch (i : Nat) : UInt8 := D64.data.toList.getD i 0
theorem D64_size : D64.size = 64 := by decide +kernel
theorem idx64 (i : Nat) (hi : i < 64) (W : World) : (Instr.index 9 (.string D64) (.int .i64 i)).run Tryd.prog W = .ok (.int .u8 ((ch i).toNat : Int)) W := by
  rw [run_index_string W 9 D64 .i64 _ Tryd.underlying9, dif_pos ⟨by omega, by rw [D64_size]; omega⟩]
  have h1 : D64[i]'(by rw [D64_size]; omega) = D64.data.toList.getD i 0 := by
    have h' : i < D64.data.toList.length := by rw [Array.length_toList]; show i < D64.size; rw [D64_size]; omega
    rw [List.getD_eq_getElem?_getD, List.getElem?_eq_getElem h']
    simp only [Option.getD_some, Array.getElem_toList]
    rfl
  show Result.ok _ W = _
  simp only [Int.toNat_natCast]
  rw [h1]; rfl
theorem ch_pl : ∀ i : Fin 64, plK ((ch i.val).toNat : Int) = true := by decide +kernel
theorem pl_ch : ∀ n : Fin 256, plK (n.val : Int) = true → ∃ i : Fin 64, ((ch i.val).toNat : Int) = n.val := by decide +kernel
theorem no_ch {c : Int} (h0 : 0 ≤ c) (h1 : c < 256) (h : ∀ j, j < 64 → ((ch j).toNat : Int) ≠ c) : plK c = false := by
  cases hp : plK c with
  | false => rfl
  | true =>
    obtain ⟨m, rfl⟩ : ∃ m : Nat, c = m := ⟨c.toNat, by omega⟩
    obtain ⟨i, hi⟩ := pl_ch ⟨m, by omega⟩ hp
    exact absurd hi (h i.val i.isLt)
set_option maxHeartbeats 2000000 in
set_option maxRecDepth 100000 in
theorem rplain_is {c : Int} {b : Bool} (w : World) (h0 : 0 ≤ c) (h1 : c < 256) (hb : b = plK c) : Calls Tryd.prog 30 #[.int .u8 c] w fun e w' => e = .returned (.bool b) ∧ w = w' := by
  have HB := Lib.hid hb
  have H01 := Lib.hid (And.intro h0 h1)
  clear h0 h1 hb
  go_enter Tryd.func30, Tryd.ntmps30
  go_wp2_with fail
  go_loop [4] (fun i => ∃ k : Nat, k ≤ 64 ∧ i = .int .i64 k ∧ Hid (∀ j, j < k → ((ch j).toNat : Int) ≠ c)) (fun i => 64 - (intOf i).toNat)
  case atStart => exact ⟨0, Nat.zero_le _, rfl, Lib.hid fun j hj => by omega⟩
  case round =>
    obtain ⟨k, hk, rfl, HN⟩ := hrel
    by_cases hlt : k < 64
    · have hix := fun W => idx64 k hlt W
      unfold D64 at hix
      obtain ⟨y, hy⟩ : ∃ y : Int, y = ((ch k).toNat : Int) := ⟨_, rfl⟩
      rw [← hy] at hix
      have HY := Lib.hid hy
      clear hy
      by_cases hc : y = c
      · subst hc
        obtain rfl : b = true := by rw [HB.out, HY.out]; exact ch_pl ⟨k, hlt⟩
        go_wp2_with fail
        go_ret
        exact ⟨rfl, rfl⟩
      · have hd : (y == c) = false := by rw [beq_eq_false_iff_ne]; exact hc
        have HN2 := Lib.hid (show ∀ j, j < k + 1 → ((ch j).toNat : Int) ≠ c from fun j hj => by
          by_cases h : j < k
          · exact HN.out j h
          · obtain rfl : j = k := by omega
            rw [← HY.out]; exact hc)
        clear hc
        go_wp2_with fail
        go_round
        case rel => exact ⟨k + 1, by omega, by go_num, HN2⟩
        case measure => simp [intOf]; omega
    · obtain rfl : k = 64 := by omega
      obtain rfl : b = false := by rw [HB.out]; exact no_ch H01.out.1 H01.out.2 HN.out
      go_wp2_with fail
      go_ret
      exact ⟨rfl, rfl⟩
set_option maxHeartbeats 2000000 in
set_option maxRecDepth 100000 in
theorem rbare_any {l : Bs} {s : ByteArray} (hs : s = txt l) (hl : l.length ≤ 1000000) (w : World) {b : Bool} (hb : b = bareB l) :
    Calls Tryd.prog 15 #[.string s] w fun e w' => e = .returned (.bool b) ∧ w = w' := by
  have HB := Lib.hid hb
  have HS := Lib.hid hs
  have HSZ := Lib.hid (show s.size = l.length by rw [hs, txt_size])
  have hsz : s.size ≤ 1000000 := by rw [hs, txt_size]; exact hl
  clear hs hl hb
  go_enter Tryd.func15, Tryd.ntmps15
  go_wp2_with fail
  go_loop [3] (fun a => ∃ k : Nat, k ≤ s.size ∧ a = .int .i64 k ∧ Hid (endP plK l k = endP plK l 0)) (fun a => s.size - (intOf a).toNat)
  case atStart => exact ⟨0, Nat.zero_le _, rfl, Lib.hid rfl⟩
  case round =>
    obtain ⟨k, hk, rfl, HE⟩ := hrel
    by_cases hlt : k < s.size
    · have hkl : k < l.length := by rw [← HSZ.out]; exact hlt
      have hx := txt_at HS.out (k := k)
      obtain ⟨y, HY⟩ : ∃ y, Hid (y = bt l k) := ⟨_, rfl⟩
      rw [← HY.out] at hx
      have HR := Lib.hid (show 0 ≤ y ∧ y < 256 by
        have hc := (l.getD k 0).toNat_lt
        rw [HY.out]
        show (0 : Int) ≤ ((l.getD k 0).toNat : Nat) ∧ (((l.getD k 0).toNat : Nat) : Int) < 256
        omega)
      cases hp : plK (bt l k) with
      | false =>
        obtain rfl : b = false := HB.out.trans (decide_eq_false fun h => by
          have := h.2
          rw [← HE.out, endP_no hp] at this; omega)
        have HPB := Lib.hid (show false = plK y by rw [HY.out]; exact hp.symm)
        clear hp hkl
        go_wp2_with fail
        refine (rplain_is _ HR.out.1 HR.out.2 HPB.out).mono ?_
        rintro e w1 ⟨rfl, rfl⟩
        go_wp2_with fail
        go_ret
        exact ⟨rfl, rfl⟩
      | true =>
        have HE2 := Lib.hid (show endP plK l (k + 1) = endP plK l 0 by rw [← HE.out, endP_on hkl hp])
        have HPB := Lib.hid (show true = plK y by rw [HY.out]; exact hp.symm)
        clear hp hkl
        go_wp2_with fail
        refine (rplain_is _ HR.out.1 HR.out.2 HPB.out).mono ?_
        rintro e w1 ⟨rfl, rfl⟩
        go_wp2_with fail
        go_round
        case rel => exact ⟨k + 1, by omega, by go_num, HE2⟩
        case measure => simp [intOf]; omega
    · obtain rfl : k = s.size := by omega
      have HE2 := Lib.hid (show endP plK l 0 = l.length by rw [← HE.out, endP_far (by rw [HSZ.out]; exact Nat.le_refl _), HSZ.out])
      by_cases h0 : 0 < s.size
      · obtain rfl : b = true := HB.out.trans (decide_eq_true ⟨fun e => by have := HSZ.out; rw [e, List.length_nil] at this; omega, HE2.out⟩)
        go_wp2_with fail
        go_ret
        exact ⟨rfl, rfl⟩
      · obtain rfl : b = false := HB.out.trans (decide_eq_false fun h => h.1 (List.eq_nil_of_length_eq_zero (by rw [← HSZ.out]; omega)))
        go_wp2_with fail
        go_ret
        exact ⟨rfl, rfl⟩
/-- Words that came in. -/
def Txs (w : World) (A : Option Addr) (n : Nat) (L : List Bs) : Prop := n = L.length ∧ Lst w w.heap.size A n fun k => .string (txt (L.getD k []))
theorem Txs.below {w w' : World} {A : Option Addr} {n : Nat} {L : List Bs} (h : Txs w A n L) (hb : Below w.heap.size w w') : Txs w' A n L := ⟨h.1, Lst.more (Lst.below h.2 hb) hb.size⟩
theorem wd_len (l : Bs) (h : l.length ≤ 100) : (wd l).length ≤ 602 := by
  unfold wd
  split
  · omega
  · have := wes_len l
    simp only [Tq.wr, List.length_cons, List.length_append, List.length_nil]
    omega
theorem wkN_len {L : List Bs} (h : ∀ k, (L.getD k []).length ≤ 100) : ∀ k, (wkN L k).length ≤ 603 * k
  | 0 => Nat.le_refl _
  | k + 1 => by
    have h1 := wkN_len h k
    have h2 := wd_len _ (h k)
    rw [wkN, List.length_append, List.length_append]
    split
    · simp only [List.length_nil]; omega
    · simp only [List.length_cons, List.length_nil]; omega
theorem wd_yes {l : Bs} (h : bareB l = true) : wd l = l := if_pos h
theorem wd_no {l : Bs} (h : bareB l = false) : wd l = Tq.wr l := if_neg (by rw [h]; decide)
theorem wkN_0 (L : List Bs) : wkN L (0 + 1) = wkN L 0 ++ wd (L.getD 0 []) := rfl
theorem wkN_s (L : List Bs) (k : Nat) : wkN L (k + 1 + 1) = wkN L (k + 1) ++ [46] ++ wd (L.getD (k + 1) []) := by
  rw [wkN, if_neg (by omega), List.append_assoc]
set_option maxHeartbeats 8000000 in
set_option maxRecDepth 100000 in
theorem kwrite_any {L : List Bs} {A : Option Addr} {n c : Nat} {w : World} (hA : Txs w A n L) (hn : n ≤ 100) (hl : ∀ k, (L.getD k []).length ≤ 100) (hT : Tab w) :
    Calls Tryd.prog 16 #[.slice A n c] w fun e w' => e = .returned (.string (txt (wk L))) ∧ Below w.heap.size w w' := by
  obtain ⟨i0, hi, hz0, hz1, hz2⟩ := info_parts (show (Tryd.prog.info? 5).map (fun i => (i.zero, i.size, i.bytes)) = some (some (.int .u8 0), 1, 1) by kernel_rfl)
  have HA := Lib.hid hA
  have HT := Lib.hid hT
  have HL := Lib.hid hl
  have HLN := Lib.hid (wkN_len hl)
  clear hA hT hl
  go_enter Tryd.func16, Tryd.ntmps16
  go_wp2_with fail
  go_loopw [3, 8] (fun v i wr => ∃ k : Nat, k ≤ n ∧ i = .int .i64 k ∧ Hid (NR w wr (wkN L k) v)) (fun _ i _ => n - (intOf i).toNat)
  case atStart => exact ⟨0, Nat.zero_le _, rfl, Lib.hid NR.start⟩
  case round =>
    obtain ⟨k, hk, rfl, R⟩ := hrel
    have hlen := HLN.out k
    by_cases hlt : k < n
    · obtain ⟨b, off, rfl, hb, hc⟩ := HA.out.2 (by omega)
      have hcell : wr.cell? ⟨b, off + k, none⟩ = some (.string (txt (L.getD k []))) := (R.out.2.cell (p := ⟨b, off + k, none⟩) hb).trans (hc k hlt)
      obtain ⟨s, hs⟩ : ∃ s, s = txt (L.getD k []) := ⟨_, rfl⟩
      rw [← hs] at hcell
      have HS := Lib.hid hs
      have hsz : s.size ≤ 100 := by rw [hs, txt_size]; exact HL.out k
      have HBW := Lib.hid R.out.2.size
      obtain ⟨l, hl⟩ : ∃ l, l = L.getD k [] := ⟨_, rfl⟩
      have HLL := Lib.hid hl
      clear hs hc hl

      rcases Nat.eq_zero_or_pos k with rfl | hk0
      · rw [Nat.add_zero] at hcell
        obtain ⟨t0, ht0⟩ : ∃ t, t = wkN L 0 := ⟨_, rfl⟩
        rw [← ht0] at R hlen
        have HT0 := Lib.hid ht0
        clear ht0
        have R1 := R
        obtain ⟨t1, ht1⟩ : ∃ t, t = t0 := ⟨_, rfl⟩
        rw [← ht1] at R1
        have hlen1 : t1.length ≤ 603 * n + 1 := by rw [ht1]; omega
        have HT1 := Lib.hid ht1
        clear ht1 R
        cases hbr : bareB l with
        | true =>
          have HBR := Lib.hid hbr
          clear hbr
          have HSL := Lib.hid (show s = txt l by rw [HLL.out]; exact HS.out)
          have HLE := Lib.hid (show l.length ≤ 100 by rw [HLL.out]; exact HL.out _)
          go_wp2_with fail
          refine (bare_any HSL.out (by have := HLE.out; omega) _ HBR.out.symm).mono ?_
          rintro e w8 ⟨rfl, rfl⟩
          go_wp2_with (at_builtin; (refine Lib.wpList_append_own_string _ rfl (.tmp 20) (.tmp 21) 49 9 rfl w.heap.size 5 i0 Tryd.underlying49 Tryd.underlying9 hi hz0 hz1 hz2 u3 t1.length (bytV t1) rfl R1.out.1 s rfl (by unfold maxLen; omega) (by omega) R1.out.2.size ?_); intro v9 w9 hown9 hg9 _)
          have F := Lib.hid (show NR w w9 (wkN L (0 + 1)) v9 from by rw [wkN_0, ← HT0.out, ← HT1.out, ← HLL.out, wd_yes HBR.out]; exact R1.out.str HSL.out hown9 hg9)
          clear hown9 hg9
          go_roundw
          case rel => exact ⟨0 + 1, by omega, by go_num, F⟩
          case measure => simp [intOf]; omega
        | false =>
          have HBR := Lib.hid hbr
          clear hbr
          have HSL := Lib.hid (show s = txt l by rw [HLL.out]; exact HS.out)
          have HLE := Lib.hid (show l.length ≤ 100 by rw [HLL.out]; exact HL.out _)
          go_wp2_with fail
          refine (bare_any HSL.out (by have := HLE.out; omega) _ HBR.out.symm).mono ?_
          rintro e w8 ⟨rfl, rfl⟩
          obtain ⟨x, hx⟩ : ∃ x, x = txt (Tq.wr l) := ⟨_, rfl⟩
          have hxs : x.size ≤ 602 := by rw [hx, txt_size]; have := wd_len l HLE.out; rwa [wd_no HBR.out] at this
          have HX := Lib.hid hx
          clear hx
          go_wp2_with fail
          refine (twrite_is _ HSL.out (by have := HLE.out; omega) HX.out (HT.out.below R1.out.2)).mono ?_
          rintro e w7 ⟨rfl, hb7⟩
          have R2 := Lib.hid (R1.out.call hb7)
          clear hb7
          go_wp2_with (at_builtin; (refine Lib.wpList_append_own_string _ rfl (.tmp 23) (.tmp 25) 49 9 rfl w.heap.size 5 i0 Tryd.underlying49 Tryd.underlying9 hi hz0 hz1 hz2 u3 t1.length (bytV t1) rfl R2.out.1 x rfl (by unfold maxLen; omega) (by omega) R2.out.2.size ?_); intro v9 w9 hown9 hg9 _)
          have F := Lib.hid (show NR w w9 (wkN L (0 + 1)) v9 from by rw [wkN_0, ← HT0.out, ← HT1.out, ← HLL.out, wd_no HBR.out]; exact R2.out.str HX.out hown9 hg9)
          clear hown9 hg9
          go_roundw
          case rel => exact ⟨0 + 1, by omega, by go_num, F⟩
          case measure => simp [intOf]; omega
      · obtain ⟨m, rfl⟩ : ∃ m, k = m + 1 := ⟨k - 1, by omega⟩
        obtain ⟨t0, ht0⟩ : ∃ t, t = wkN L (m + 1) := ⟨_, rfl⟩
        rw [← ht0] at R hlen
        have HT0 := Lib.hid ht0
        clear ht0
        go_upto_region 7 with (at_builtin; (refine wpApp _ rfl (.tmp 15) (.tmp 16) 49 rfl w.heap.size 5 i0 (.int .u8 0) 1 Tryd.underlying49 hi hz0 hz1 hz2 rfl u3 t0.length (bytV t0) rfl (R.out.1.alloc _) (some ⟨wr.heap.size, 0, none⟩) 1 1 _ [46] rfl rfl (cells_one' 46 46 (by decide)) (fun h => by cases h) (by unfold maxLen; omega) (by omega) (by have := HBW.out; simp; omega) ?_); intro v1 w1 hown1 hg1 _)
        have R1 := Lib.hid (NR.app (u := [46]) R.out hown1 hg1)
        clear hown1 hg1 hcell
        obtain ⟨t1, ht1⟩ : ∃ t, t = t0 ++ [46] := ⟨_, rfl⟩
        rw [← ht1] at R1
        have hlen1 : t1.length ≤ 603 * n + 1 := by rw [ht1, List.length_append]; simp; omega
        have HT1 := Lib.hid ht1
        clear ht1
        cases hbr : bareB l with
        | true =>
          have HBR := Lib.hid hbr
          clear hbr
          have HSL := Lib.hid (show s = txt l by rw [HLL.out]; exact HS.out)
          have HLE := Lib.hid (show l.length ≤ 100 by rw [HLL.out]; exact HL.out _)
          go_wp2_with fail
          refine (bare_any HSL.out (by have := HLE.out; omega) _ HBR.out.symm).mono ?_
          rintro e w8 ⟨rfl, rfl⟩
          go_wp2_with (at_builtin; (refine Lib.wpList_append_own_string _ rfl (.tmp 20) (.tmp 21) 49 9 rfl w.heap.size 5 i0 Tryd.underlying49 Tryd.underlying9 hi hz0 hz1 hz2 v1 t1.length (bytV t1) rfl R1.out.1 s rfl (by unfold maxLen; omega) (by omega) R1.out.2.size ?_); intro v9 w9 hown9 hg9 _)
          have F := Lib.hid (show NR w w9 (wkN L (m + 1 + 1)) v9 from by rw [wkN_s, ← HT0.out, ← HT1.out, ← HLL.out, wd_yes HBR.out]; exact R1.out.str HSL.out hown9 hg9)
          clear hown9 hg9
          go_roundw
          case rel => exact ⟨m + 1 + 1, by omega, by go_num, F⟩
          case measure => simp [intOf]; omega
        | false =>
          have HBR := Lib.hid hbr
          clear hbr
          have HSL := Lib.hid (show s = txt l by rw [HLL.out]; exact HS.out)
          have HLE := Lib.hid (show l.length ≤ 100 by rw [HLL.out]; exact HL.out _)
          go_wp2_with fail
          refine (bare_any HSL.out (by have := HLE.out; omega) _ HBR.out.symm).mono ?_
          rintro e w8 ⟨rfl, rfl⟩
          obtain ⟨x, hx⟩ : ∃ x, x = txt (Tq.wr l) := ⟨_, rfl⟩
          have hxs : x.size ≤ 602 := by rw [hx, txt_size]; have := wd_len l HLE.out; rwa [wd_no HBR.out] at this
          have HX := Lib.hid hx
          clear hx
          go_wp2_with fail
          refine (twrite_is _ HSL.out (by have := HLE.out; omega) HX.out (HT.out.below R1.out.2)).mono ?_
          rintro e w7 ⟨rfl, hb7⟩
          have R2 := Lib.hid (R1.out.call hb7)
          clear hb7
          go_wp2_with (at_builtin; (refine Lib.wpList_append_own_string _ rfl (.tmp 23) (.tmp 25) 49 9 rfl w.heap.size 5 i0 Tryd.underlying49 Tryd.underlying9 hi hz0 hz1 hz2 v1 t1.length (bytV t1) rfl R2.out.1 x rfl (by unfold maxLen; omega) (by omega) R2.out.2.size ?_); intro v9 w9 hown9 hg9 _)
          have F := Lib.hid (show NR w w9 (wkN L (m + 1 + 1)) v9 from by rw [wkN_s, ← HT0.out, ← HT1.out, ← HLL.out, wd_no HBR.out]; exact R2.out.str HX.out hown9 hg9)
          clear hown9 hg9
          go_roundw
          case rel => exact ⟨m + 1 + 1, by omega, by go_num, F⟩
          case measure => simp [intOf]; omega
    · obtain rfl : k = n := by omega
      have HF2 := Lib.hid R.out.2
      obtain ⟨A2, n2, c2, rfl, hcv⟩ := R.out.conv
      obtain ⟨S, hS⟩ : ∃ S, S = txt (wkN L k) := ⟨_, rfl⟩
      rw [← hS] at hcv
      have HS := Lib.hid hS
      clear hS R
      go_wp2_with fail
      go_ret
      have hfin : S = txt (wk L) := by rw [HS.out, HA.out.1]; rfl
      exact ⟨ret_s hfin, HF2.out⟩

set_option maxHeartbeats 8000000 in
set_option maxRecDepth 100000 in
theorem krwrite_any {L : List Bs} {A : Option Addr} {n c : Nat} {w : World} (hA : Txs w A n L) (hn : n ≤ 100) (hl : ∀ k, (L.getD k []).length ≤ 100) :
    Calls Tryd.prog 17 #[.slice A n c] w fun e w' => e = .returned (.string (txt (wk L))) ∧ Below w.heap.size w w' := by
  have HA := Lib.hid hA
  have HL := Lib.hid hl
  have HLN := Lib.hid (wkN_len hl)
  clear hA hl
  go_enter Tryd.func17, Tryd.ntmps17
  go_wp2_with fail
  go_loopw [3, 4] (fun v i wr => ∃ k : Nat, k ≤ n ∧ i = .int .i64 k ∧ ∃ O : ByteArray, v = .string O ∧ Hid (O = txt (wkN L k)) ∧ Hid (Below w.heap.size w wr)) (fun _ i _ => n - (intOf i).toNat)
  case atStart => exact ⟨0, Nat.zero_le _, rfl, _, rfl, Lib.hid rfl, Lib.hid (Below.refl _ _)⟩
  case round =>
    obtain ⟨k, hk, rfl, O, rfl, HO, HW⟩ := hrel
    have hlen : O.size ≤ 60300 := by rw [HO.out, txt_size]; have := HLN.out k; omega
    by_cases hlt : k < n
    · obtain ⟨b, off, rfl, hb, hc⟩ := HA.out.2 (by omega)
      have hcell : wr.cell? ⟨b, off + k, none⟩ = some (.string (txt (L.getD k []))) := (HW.out.cell (p := ⟨b, off + k, none⟩) hb).trans (hc k hlt)
      obtain ⟨s, hs⟩ : ∃ s, s = txt (L.getD k []) := ⟨_, rfl⟩
      rw [← hs] at hcell
      have HS := Lib.hid hs
      have hsz : s.size ≤ 100 := by rw [hs, txt_size]; exact HL.out k
      obtain ⟨l, hl⟩ : ∃ l, l = L.getD k [] := ⟨_, rfl⟩
      have HLL := Lib.hid hl
      have HSL := Lib.hid (show s = txt l by rw [hl]; exact hs)
      have HLE := Lib.hid (show l.length ≤ 100 by rw [hl]; exact HL.out k)
      clear hs hc hl
      rcases Nat.eq_zero_or_pos k with rfl | hk0

      · rw [Nat.add_zero] at hcell
        cases hbr : bareB l with
        | true =>
          have HBR := Lib.hid hbr
          clear hbr
          go_wp2_with fail
          refine (rbare_any HSL.out (by have := HLE.out; omega) _ HBR.out.symm).mono ?_
          rintro e w8 ⟨rfl, rfl⟩
          have F := Lib.hid (show O ++ s = txt (wkN L (0 + 1)) by rw [wkN_0, ← txt_app, ← HO.out, ← HLL.out, wd_yes HBR.out, HSL.out])
          go_wp2_with fail
          go_roundw
          case rel => exact ⟨0 + 1, by omega, by go_num, _, rfl, F, HW⟩
          case measure => simp [intOf]; omega
        | false =>
          have HBR := Lib.hid hbr
          clear hbr
          go_wp2_with fail
          refine (rbare_any HSL.out (by have := HLE.out; omega) _ HBR.out.symm).mono ?_
          rintro e w8 ⟨rfl, rfl⟩
          obtain ⟨x, hx⟩ : ∃ x, x = txt (Tq.wr l) := ⟨_, rfl⟩
          have hxs : x.size ≤ 602 := by rw [hx, txt_size]; have := wd_len l HLE.out; rwa [wd_no HBR.out] at this
          have HX := Lib.hid hx
          clear hx
          have F := Lib.hid (show O ++ x = txt (wkN L (0 + 1)) by rw [wkN_0, ← txt_app, ← HO.out, ← HLL.out, wd_no HBR.out, HX.out])
          go_wp2_with fail
          refine (trwrite_is _ HSL.out (by have := HLE.out; omega) HX.out).mono ?_
          rintro e w7 ⟨rfl, hb7⟩
          have HW2 := Lib.hid (below_tr HW.out hb7)
          clear hb7
          go_wp2_with fail
          go_roundw
          case rel => exact ⟨0 + 1, by omega, by go_num, _, rfl, F, HW2⟩
          case measure => simp [intOf]; omega
      · obtain ⟨m, rfl⟩ : ∃ m, k = m + 1 := ⟨k - 1, by omega⟩
        cases hbr : bareB l with
        | true =>
          have HBR := Lib.hid hbr
          clear hbr
          go_wp2_with fail
          refine (rbare_any HSL.out (by have := HLE.out; omega) _ HBR.out.symm).mono ?_
          rintro e w8 ⟨rfl, rfl⟩
          have F := Lib.hid (show O ++ ⟨#[46]⟩ ++ s = txt (wkN L (m + 1 + 1)) by rw [show (⟨#[46]⟩ : ByteArray) = txt [46] from rfl, wkN_s, ← txt_app, ← txt_app, ← HO.out, ← HLL.out, wd_yes HBR.out, HSL.out])
          go_wp2_with fail
          go_roundw
          case rel => exact ⟨m + 1 + 1, by omega, by go_num, _, rfl, F, HW⟩
          case measure => simp [intOf]; omega
        | false =>
          have HBR := Lib.hid hbr
          clear hbr
          go_wp2_with fail
          refine (rbare_any HSL.out (by have := HLE.out; omega) _ HBR.out.symm).mono ?_
          rintro e w8 ⟨rfl, rfl⟩
          obtain ⟨x, hx⟩ : ∃ x, x = txt (Tq.wr l) := ⟨_, rfl⟩
          have hxs : x.size ≤ 602 := by rw [hx, txt_size]; have := wd_len l HLE.out; rwa [wd_no HBR.out] at this
          have HX := Lib.hid hx
          clear hx
          have F := Lib.hid (show O ++ ⟨#[46]⟩ ++ x = txt (wkN L (m + 1 + 1)) by rw [show (⟨#[46]⟩ : ByteArray) = txt [46] from rfl, wkN_s, ← txt_app, ← txt_app, ← HO.out, ← HLL.out, wd_no HBR.out, HX.out])
          go_wp2_with fail
          refine (trwrite_is _ HSL.out (by have := HLE.out; omega) HX.out).mono ?_
          rintro e w7 ⟨rfl, hb7⟩
          have HW2 := Lib.hid (below_tr HW.out hb7)
          clear hb7
          go_wp2_with fail
          go_roundw
          case rel => exact ⟨m + 1 + 1, by omega, by go_num, _, rfl, F, HW2⟩
          case measure => simp [intOf]; omega
    · obtain rfl : k = n := by omega
      go_wp2_with fail
      go_ret
      have hfin : O = txt (wk L) := by rw [HO.out, HA.out.1]; rfl
      exact ⟨ret_s hfin, HW.out⟩
end Ty
end Go.Proofs.YtpdaelcoiilkkaaDoor
