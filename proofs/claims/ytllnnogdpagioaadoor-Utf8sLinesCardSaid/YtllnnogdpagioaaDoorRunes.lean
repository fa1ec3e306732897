/- The numbers of the runes up to the first wrong byte: the program's Runes. -/
import Derived.Test.YtllnnogdpagioaaDoorLists
import Derived.Deep.DeepAppendRoom
import Derived.Deep.LoopGhost
import Derived.OwnWalk
import Derived.Laws.MakeOwn
namespace Go.Proofs.YtllnnogdpagioaaDoor
open Go.RowKit

theorem info3 : (Tryd.prog.info? 3).map (fun i => (i.zero, i.size, i.bytes)) = some (some (.int .i64 0), 1, 8) := by kernel_rfl
theorem info5 : (Tryd.prog.info? 5).map (fun i => (i.zero, i.size, i.bytes)) = some (some (.int .u8 0), 1, 1) := by kernel_rfl
/-- Integers as a slice's cells. -/
def ints (l : List Int) : List Value := l.map (.int .i64)

theorem check_is {l : List UInt8} {B : Nat} {A : Option Addr} {p : Bool} {x : Int} (n c : Nat) {w : World} (hn : n = l.length) (hnc : n ≤ c) (hA : Byt w B A l) (hm : c ≤ maxLen) (hx : x = chkAt l) (hp : p = chkOk l) :
    Calls Tryd.prog 11 #[.slice A n c] w fun e w' => e = .returned (.tuple #[.int .i64 x, .bool p]) ∧ w = w' := by
  rw [hx, hp]; exact check_any n c hn hnc hA hm

def RunesPost (w : World) (l : List UInt8) (e : Ending) (w' : World) : Prop :=
  e = .returned (.slice (some ⟨w.heap.size, 0, none⟩) (rns l).length (rns l).length) ∧ w'.ownsRow w.heap.size 3 1 (.slice (some ⟨w.heap.size, 0, none⟩) (rns l).length (rns l).length) (rns l).length (ints (rns l)) ∧ Below w.heap.size w w'

/-- How long a slice is. -/
def lenOf : Value → Nat | .slice _ n _ => n | _ => 0
/-- What holds at each round's head: r is what is left, d what is done. -/
def RRel (w wr : World) (l : List UInt8) (B N : Nat) (A : Option Addr) (m c j : Nat) : Prop :=
  ∃ (r : List UInt8) (d : List Int), m = r.length ∧ m ≤ c ∧ c ≤ maxLen ∧ m ≤ 65536 ∧ Byt wr B A r ∧ scn r = r.length ∧ rns l = d ++ rns r ∧ j = d.length ∧ N = (rns l).length ∧
    wr.ownsRow w.heap.size 3 1 (.slice (some ⟨w.heap.size, 0, none⟩) j N) j (ints d) ∧ Below w.heap.size w wr ∧ w.heap.size < wr.heap.size
theorem Masks.below {B : Nat} {w w' : World} (h : Masks w) (hb : Below B w w') (hB : 0 < B) : Masks w' := by
  obtain ⟨h0, h1, h2, h3⟩ := h
  exact ⟨(hb.cell (p := ⟨0, 0, none⟩) hB).trans h0, (hb.cell (p := ⟨0, 1, none⟩) hB).trans h1, (hb.cell (p := ⟨0, 2, none⟩) hB).trans h2, (hb.cell (p := ⟨0, 3, none⟩) hB).trans h3⟩
theorem below_drewN {B : Nat} {a w : World} (h : Below B a w) (n : Nat) : Below B a (w.drewN n) := ⟨h.os, h.tape, h.output, h.size, h.block⟩
theorem count_is {l : List UInt8} {B : Nat} {A : Option Addr} {x : Int} (n c : Nat) {w : World} (hn : n = l.length) (hA : Byt w B A l) (hm : n ≤ maxLen) (hx : x = cntTo l n) :
    Calls Tryd.prog 28 #[.slice A n c] w fun e w' => e = .returned (.int .i64 x) ∧ w = w' := hx ▸ count_any n c hn hA hm
theorem number_is {l : List UInt8} {B : Nat} {A : Option Addr} {x : Int} (n c : Nat) {w : World} (hn : n = l.length) (h1 : 0 < n) (h4 : n ≤ 4) (hnc : n ≤ c) (hA : Byt w B A l) (hm : c ≤ maxLen) (hM : Masks w) (hx : x = nmb l) :
    Calls Tryd.prog 29 #[.slice A n c] w fun e w' => e = .returned (.int .i64 x) ∧ ∃ n, w' = w.drewN n := hx ▸ number_any n c hn h1 h4 hnc hA hm hM

theorem rrel_start {w w1 : World} {l : List UInt8} {B N : Nat} {A : Option Addr} {n c : Nat} (hn : n = l.length) (hnc : n ≤ c) (hm : c ≤ maxLen) (hs : n ≤ 65536) (hA : Byt w B A l) (hB : B ≤ w.heap.size) (hok : scn l = l.length) (hN : N = (rns l).length)
    (hown : w1.ownsRow w.heap.size 3 1 (.slice (some ⟨w.heap.size, 0, none⟩) 0 N) 0 []) (hg : w.grownBy w1 none) : RRel w w1 l B N A n c 0 := by
  have hb : Below w.heap.size w w1 := (Below.refl _ _).grown hg (Nat.le_refl _) (fun _ h => by cases h)
  exact ⟨l, [], hn, hnc, hm, hs, hA.below (hb.mono hB), hok, rfl, rfl, hN, hown, hb, (hown.lt _ rfl).2⟩
theorem rrel_end {w wr : World} {l : List UInt8} {B N : Nat} {A : Option Addr} {m c j : Nat} (h : RRel w wr l B N A m c j) (h0 : m = 0) : RunesPost w l (.returned (.slice (some ⟨w.heap.size, 0, none⟩) j N)) wr := by
  obtain ⟨r, d, hm, _, _, _, _, _, hd, hj, hN, hown, hb, _⟩ := h
  have hr : r = [] := List.eq_nil_of_length_eq_zero (by omega)
  subst hr
  rw [rns_stop lng_nil, List.append_nil] at hd
  subst hd
  subst hj
  subst hN
  exact ⟨rfl, hown, hb⟩

/-- What a round is given. -/
theorem rrel_round {w wr : World} {l : List UInt8} {B N : Nat} {A : Option Addr} {m c j : Nat} (h : RRel w wr l B N A m c j) (h0 : 0 < m) (hB : B ≤ w.heap.size) :
    ∃ (r : List UInt8) (q : Nat) (x : Int), m = r.length ∧ q = lng r ∧ 0 < q ∧ q ≤ 4 ∧ q ≤ m ∧ m ≤ c ∧ c ≤ maxLen ∧ Byt wr B A r ∧ q = (r.take q).length ∧ x = nmb (r.take q) ∧ j < N ∧ w.heap.size < wr.heap.size ∧ Below w.heap.size w wr ∧
      ∃ ds, wr.ownsRow w.heap.size 3 1 (.slice (some ⟨w.heap.size, 0, none⟩) j N) j ds ∧
      (∀ w' A', w'.ownsRow w.heap.size 3 1 (.slice (some ⟨w.heap.size, 0, none⟩) (j + 1) N) (j + 1) (ds ++ [.int .i64 x]) → Below w.heap.size w w' → wr.heap.size ≤ w'.heap.size → (A' = if c = q then A else A.map (·.add q)) → RRel w w' l B N A' (m - q) (c - q) (j + 1)) := by
  obtain ⟨r, d, hm, hmc, hcm, h6, hBy, hok, hd, hj, hN, hown, hb, hsz⟩ := h
  have hq : lng r ≠ 0 := fun e => by rw [scn_stop e] at hok; omega
  have hql := lng_le r
  have hq4 := lng_le4 r
  have hr := rns_step hq
  rw [hr] at hd
  have hlen : (rns l).length = d.length + 1 + (rns (r.drop (lng r))).length := by rw [hd]; simp; omega
  refine ⟨r, lng r, nmb (r.take (lng r)), hm, rfl, by omega, hq4, by omega, hmc, hcm, hBy, by simp; omega, rfl, by omega, hsz, hb, ints d, hown, ?_⟩
  intro w' A' hown' hb' hs' hA'
  refine ⟨r.drop (lng r), d ++ [nmb (r.take (lng r))], by simp; omega, by omega, by omega, by omega, ?_, scn_drop hq hok, by rw [hd]; simp, by simp; omega, hN, by simpa [ints] using hown', hb', by omega⟩
  have hB2 : Byt wr B A' (r.drop (lng r)) := by rw [hA']; exact hBy.cut hql (by omega)
  refine Lst.keep hB2 fun p hp => ?_
  rw [hb'.cell (by omega), hb.cell (by omega)]
set_option maxHeartbeats 1000000 in
theorem runes_ok {l : List UInt8} {B : Nat} {A : Option Addr} (n c : Nat) {w : World} (hn : n = l.length) (hnc : n ≤ c) (hA : Byt w B A l) (hB : B ≤ w.heap.size) (hm : c ≤ maxLen) (hs : n ≤ 65536) (hM : Masks w) (hz : 0 < w.heap.size) (hok : scn l = l.length) :
    Calls Tryd.prog 13 #[.slice A n c] w (RunesPost w l) := by
  have hm' := hm
  unfold maxLen at hm
  obtain ⟨N, HN⟩ : ∃ N, Hid (N = (rns l).length) := ⟨_, rfl⟩
  have hN : N ≤ 65536 := by have h1 := HN.out; have h2 := rns_le l; omega
  have HM := Lib.hid hM
  have HE := Lib.hid (show (N : Int) = cntTo l n by rw [HN.out, ← cnt_rns, hok, hn])
  have Hn := Lib.hid hn
  have HO := Lib.hid hok
  clear hn hok hM
  obtain ⟨i0, hi, hz0, hz1, hz2⟩ := info_parts info3
  go_enter Tryd.func13, Tryd.ntmps13
  go_wp2_with (first
    | (go_at_call 11; refine (check_is (x := 0) (p := true) _ _ Hn.out hnc hA hm' (by simp [chkAt, HO.out]) (by simp [chkOk, HO.out])).mono ?_; rintro e w' ⟨rfl, rfl⟩)
    | (go_at_call 28; refine (count_is _ _ Hn.out hA (by omega) HE.out).mono ?_; rintro e w' ⟨rfl, rfl⟩)
    | (at_make; refine wpList_make_own _ rfl _ _ 27 rfl w.heap.size 3 i0 (.int .i64 0) 1 Tryd.underlying27 hi hz0 hz1 .i64 .i64 _ N rfl rfl rfl (by rw [hz2]; omega) (by unfold maxLen; omega) (Nat.le_refl _) ?_; intro w1 hown1 hg1))
  have R0 := rrel_start Hn.out hnc hm' hs hA hB HO.out HN.out hown1 hg1
  clear hown1 hg1
  go_loopw [0, 5, 6] (fun b s _ wr => ∃ (A' : Option Addr) (m c j : Nat), b = .slice A' m c ∧ s = .slice (some ⟨w.heap.size, 0, none⟩) j N ∧ RRel w wr l B N A' m c j) (fun b _ _ _ => lenOf b)
  case atStart => exact ⟨A, n, c, 0, rfl, rfl, R0⟩
  case round =>
    obtain ⟨A', m, c', j, rfl, rfl, R⟩ := hrel
    clear R0
    by_cases h0 : 0 < m
    · have R1 := rrel_round R h0 hB
      clear R
      obtain ⟨r, q, x, hmr, hq, hq0, hq4, hqm, hmc, hcm', hBy, hqt, hx, hjN, hsz, hbel, ds, hown, hnext⟩ := R1
      have HQ := Lib.hid hq
      have HX := Lib.hid hx
      have HR := Lib.hid hmr
      have HT := Lib.hid hqt
      have HNX := Lib.hid hnext
      have HMr := Lib.hid (HM.out.below hbel hz)
      clear hq hx hmr hqt hnext
      have hcm := hcm'
      unfold maxLen at hcm
      by_cases hcq : c' = q
      · subst hcq
        go_wp2_with (first
          | (go_at_call 26; refine (long_is (c' : Int) _ _ HR.out hBy (by have := HR.out; omega) (by have := HR.out; omega) (by have := HQ.out; omega)).mono ?_; rintro e w' ⟨rfl, rfl⟩)
          | (go_at_call 29; refine (number_is (x := x) _ _ HT.out hq0 hq4 (by omega) (hBy.take _) hcm' HMr.out HX.out).mono ?_; rintro e w' ⟨rfl, nq, rfl⟩)
          | (at_builtin; refine wpList_append_own_spare _ rfl (.tmp 25) (.tmp 30) 27 rfl w.heap.size 3 i0 1 Tryd.underlying27 hi hz1 w.heap.size j N ds rfl ((show (wr.drewN nq).ownsRow _ _ _ _ _ _ from hown).alloc _) ⟨wr.heap.size, 0, none⟩ 1 1 [.int .i64 x] rfl rfl (cell_one_new _ _ _) (ints_oneCell .i64 [x]) (by omega) ?_; intro w2 hown2 hg2))
        have hb2 : Below w.heap.size w w2 := ((below_drewN hbel nq).alloc (by exact hbel.size) _).grown hg2 (by have := hbel.size; simp; omega) (fun _ h => by cases h; exact Nat.le_refl _)
        have R2 := HNX.out w2 A' hown2 hb2 (by have := hg2.size; simp at this; omega) (by simp)
        rw [Nat.sub_self, show m - c' = 0 by omega] at R2
        clear hown2 hg2 hb2
        go_roundw
        case rel => exact ⟨_, _, _, _, rfl, rfl, R2⟩
        case measure => simp [lenOf]; omega
      · have hcq' : q < c' := by omega
        go_wp2_with (first
          | (go_at_call 26; refine (long_is (q : Int) _ _ HR.out hBy (by have := HR.out; omega) (by have := HR.out; omega) (by have := HQ.out; omega)).mono ?_; rintro e w' ⟨rfl, rfl⟩)
          | (go_at_call 29; refine (number_is (x := x) _ _ HT.out hq0 hq4 (by omega) (hBy.take _) hcm' HMr.out HX.out).mono ?_; rintro e w' ⟨rfl, nq, rfl⟩)
          | (at_builtin; refine wpList_append_own_spare _ rfl (.tmp 25) (.tmp 30) 27 rfl w.heap.size 3 i0 1 Tryd.underlying27 hi hz1 w.heap.size j N ds rfl ((show (wr.drewN nq).ownsRow _ _ _ _ _ _ from hown).alloc _) ⟨wr.heap.size, 0, none⟩ 1 1 [.int .i64 x] rfl rfl (cell_one_new _ _ _) (ints_oneCell .i64 [x]) (by omega) ?_; intro w2 hown2 hg2))
        have hb2 : Below w.heap.size w w2 := ((below_drewN hbel nq).alloc (by exact hbel.size) _).grown hg2 (by have := hbel.size; simp; omega) (fun _ h => by cases h; exact Nat.le_refl _)
        have R2 := HNX.out w2 (A'.map (·.add q)) hown2 hb2 (by have := hg2.size; simp at this; omega) (by rw [if_neg hcq])
        clear hown2 hg2 hb2
        go_roundw
        case rel => exact ⟨_, _, _, _, rfl, rfl, R2⟩
        case measure => simp [lenOf]; omega
    · have R1 := rrel_end R (by omega)
      clear R
      go_wp2
      go_ret
      exact R1
set_option maxHeartbeats 1000000 in
theorem runes_bad {l v : List UInt8} {B : Nat} {A : Option Addr} (n m0 c : Nat) {w : World} (hn : n = l.length) (hnc : n ≤ c) (hA : Byt w B A l) (hB : B ≤ w.heap.size) (hm : c ≤ maxLen) (hs : n ≤ 65536) (hM : Masks w) (hz : 0 < w.heap.size) (hbad : scn l < l.length) (hm0 : m0 = scn l) (hv : v = l.take m0) :
    Calls Tryd.prog 13 #[.slice A n c] w (RunesPost w v) := by
  have hm' := hm
  unfold maxLen at hm
  obtain ⟨N, HN⟩ : ∃ N, Hid (N = (rns v).length) := ⟨_, rfl⟩
  have hve : scn v = v.length := by rw [hv, hm0, (scn_take l).1]; simp; omega
  have hvl : m0 = v.length := by rw [hv]; simp; omega
  have hN : N ≤ 65536 := by have h1 := HN.out; have h2 := rns_le v; omega
  have HM := Lib.hid hM
  have HE := Lib.hid (show (N : Int) = cntTo v m0 by rw [HN.out, ← cnt_rns, hve, hvl])
  have HA : Byt w B A v := by rw [hv]; exact hA.take _
  have hmn : m0 ≤ n := by omega
  have hmc : m0 ≤ c := by omega
  have Hx := Lib.hid (show (m0 : Int) = chkAt l by unfold chkAt; rw [if_neg (by omega)]; omega)
  have Hp := Lib.hid (show false = chkOk l by simp [chkOk]; omega)
  have Hn := Lib.hid hn
  have Hv := Lib.hid hvl
  have HO := Lib.hid hve
  clear hn hM hbad hm0 hvl hve hv
  obtain ⟨i0, hi, hz0, hz1, hz2⟩ := info_parts info3
  go_enter Tryd.func13, Tryd.ntmps13
  go_wp2_with (first
    | (go_at_call 11; refine (check_is (x := (m0 : Int)) (p := false) _ _ Hn.out hnc hA hm' Hx.out Hp.out).mono ?_; rintro e w' ⟨rfl, rfl⟩)
    | (go_at_call 28; refine (count_is _ _ Hv.out HA (by omega) HE.out).mono ?_; rintro e w' ⟨rfl, rfl⟩)
    | (at_make; refine wpList_make_own _ rfl _ _ 27 rfl w.heap.size 3 i0 (.int .i64 0) 1 Tryd.underlying27 hi hz0 hz1 .i64 .i64 _ N rfl rfl rfl (by rw [hz2]; omega) (by unfold maxLen; omega) (Nat.le_refl _) ?_; intro w1 hown1 hg1))
  have R0 := rrel_start Hv.out hmc hm' (by omega) HA hB HO.out HN.out hown1 hg1
  clear hown1 hg1
  go_loopw [0, 5, 6] (fun b s _ wr => ∃ (A' : Option Addr) (m c j : Nat), b = .slice A' m c ∧ s = .slice (some ⟨w.heap.size, 0, none⟩) j N ∧ RRel w wr v B N A' m c j) (fun b _ _ _ => lenOf b)
  case atStart => exact ⟨A, m0, c, 0, rfl, rfl, R0⟩
  case round =>
    obtain ⟨A', m, c', j, rfl, rfl, R⟩ := hrel
    clear R0
    by_cases h0 : 0 < m
    · have R1 := rrel_round R h0 hB
      clear R
      obtain ⟨r, q, x, hmr, hq, hq0, hq4, hqm, hmc, hcm', hBy, hqt, hx, hjN, hsz, hbel, ds, hown, hnext⟩ := R1
      have HQ := Lib.hid hq
      have HX := Lib.hid hx
      have HR := Lib.hid hmr
      have HT := Lib.hid hqt
      have HNX := Lib.hid hnext
      have HMr := Lib.hid (HM.out.below hbel hz)
      clear hq hx hmr hqt hnext
      have hcm := hcm'
      unfold maxLen at hcm
      by_cases hcq : c' = q
      · subst hcq
        go_wp2_with (first
          | (go_at_call 26; refine (long_is (c' : Int) _ _ HR.out hBy (by have := HR.out; omega) (by have := HR.out; omega) (by have := HQ.out; omega)).mono ?_; rintro e w' ⟨rfl, rfl⟩)
          | (go_at_call 29; refine (number_is (x := x) _ _ HT.out hq0 hq4 (by omega) (hBy.take _) hcm' HMr.out HX.out).mono ?_; rintro e w' ⟨rfl, nq, rfl⟩)
          | (at_builtin; refine wpList_append_own_spare _ rfl (.tmp 25) (.tmp 30) 27 rfl w.heap.size 3 i0 1 Tryd.underlying27 hi hz1 w.heap.size j N ds rfl ((show (wr.drewN nq).ownsRow _ _ _ _ _ _ from hown).alloc _) ⟨wr.heap.size, 0, none⟩ 1 1 [.int .i64 x] rfl rfl (cell_one_new _ _ _) (ints_oneCell .i64 [x]) (by omega) ?_; intro w2 hown2 hg2))
        have hb2 : Below w.heap.size w w2 := ((below_drewN hbel nq).alloc (by exact hbel.size) _).grown hg2 (by have := hbel.size; simp; omega) (fun _ h => by cases h; exact Nat.le_refl _)
        have R2 := HNX.out w2 A' hown2 hb2 (by have := hg2.size; simp at this; omega) (by simp)
        rw [Nat.sub_self, show m - c' = 0 by omega] at R2
        clear hown2 hg2 hb2
        go_roundw
        case rel => exact ⟨_, _, _, _, rfl, rfl, R2⟩
        case measure => simp [lenOf]; omega
      · have hcq' : q < c' := by omega
        go_wp2_with (first
          | (go_at_call 26; refine (long_is (q : Int) _ _ HR.out hBy (by have := HR.out; omega) (by have := HR.out; omega) (by have := HQ.out; omega)).mono ?_; rintro e w' ⟨rfl, rfl⟩)
          | (go_at_call 29; refine (number_is (x := x) _ _ HT.out hq0 hq4 (by omega) (hBy.take _) hcm' HMr.out HX.out).mono ?_; rintro e w' ⟨rfl, nq, rfl⟩)
          | (at_builtin; refine wpList_append_own_spare _ rfl (.tmp 25) (.tmp 30) 27 rfl w.heap.size 3 i0 1 Tryd.underlying27 hi hz1 w.heap.size j N ds rfl ((show (wr.drewN nq).ownsRow _ _ _ _ _ _ from hown).alloc _) ⟨wr.heap.size, 0, none⟩ 1 1 [.int .i64 x] rfl rfl (cell_one_new _ _ _) (ints_oneCell .i64 [x]) (by omega) ?_; intro w2 hown2 hg2))
        have hb2 : Below w.heap.size w w2 := ((below_drewN hbel nq).alloc (by exact hbel.size) _).grown hg2 (by have := hbel.size; simp; omega) (fun _ h => by cases h; exact Nat.le_refl _)
        have R2 := HNX.out w2 (A'.map (·.add q)) hown2 hb2 (by have := hg2.size; simp at this; omega) (by rw [if_neg hcq])
        clear hown2 hg2 hb2
        go_roundw
        case rel => exact ⟨_, _, _, _, rfl, rfl, R2⟩
        case measure => simp [lenOf]; omega
    · have R1 := rrel_end R (by omega)
      clear R
      go_wp2
      go_ret
      exact R1
theorem runes_any {l : List UInt8} {B : Nat} {A : Option Addr} (n c : Nat) {w : World} (hn : n = l.length) (hnc : n ≤ c) (hA : Byt w B A l) (hB : B ≤ w.heap.size) (hm : c ≤ maxLen) (hs : n ≤ 65536) (hM : Masks w) (hz : 0 < w.heap.size) :
    Calls Tryd.prog 13 #[.slice A n c] w (RunesPost w l) := by
  by_cases hok : scn l = l.length
  · exact runes_ok n c hn hnc hA hB hm hs hM hz hok
  · have := runes_bad n (scn l) c hn hnc hA hB hm hs hM hz (by have := scn_le l; omega) rfl rfl
    unfold RunesPost at this ⊢
    rwa [(scn_take l).2] at this
end Go.Proofs.YtllnnogdpagioaaDoor
