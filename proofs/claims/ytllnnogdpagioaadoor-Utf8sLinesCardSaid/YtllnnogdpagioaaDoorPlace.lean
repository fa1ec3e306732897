/- The line and the column of a byte: the program's Place, and what it calls of package bytes. -/
import Derived.Test.YtllnnogdpagioaaDoorScan
import Derived.Shelf.Bytes.SlCountOne
namespace Go.Proofs.YtllnnogdpagioaaDoor
open Go.RowKit

/-- How many of the first k bytes are 10. -/
def nlTo (l : List UInt8) : Nat → Nat
  | 0 => 0
  | k + 1 => nlTo l k + if bt l k = 10 then 1 else 0
theorem nlTo_le (l : List UInt8) (k : Nat) : nlTo l k ≤ k := by
  induction k with
  | zero => simp [nlTo]
  | succ k ih => unfold nlTo; split <;> omega
/-- The place of the last one of the first k bytes that is 10; -1: there is none. -/
def lastTo (l : List UInt8) : Nat → Int
  | 0 => -1
  | k + 1 => if bt l k = 10 then k else lastTo l k
theorem lastTo_bd (l : List UInt8) (k : Nat) : -1 ≤ lastTo l k ∧ lastTo l k < k := by
  induction k with
  | zero => simp [lastTo]
  | succ k ih => unfold lastTo; split <;> omega
theorem count_nl (l : List UInt8) (k : Nat) (hk : k ≤ l.length) : Lib.countByte (l.take k) 10 = nlTo l k := by
  induction k with
  | zero => simp [Lib.countByte, nlTo]
  | succ k ih =>
    have e : l.take (k + 1) = l.take k ++ [l[k]'(by omega)] := by rw [List.take_succ_eq_append_getElem]
    have hb : bt l k = ((l[k]'(by omega)).toNat : Int) := by simp [bt, show k < l.length by omega]
    unfold Lib.countByte at ih ⊢
    rw [e, List.count_append, ih (by omega), nlTo, hb]
    congr 1
    by_cases h : l[k]'(by omega) = 10
    · rw [h]; rfl
    · have h' : ¬ ((l[k]'(by omega)).toNat : Int) = 10 := fun e => h (UInt8.toNat_inj.1 (by simpa using Int.ofNat.inj e))
      rw [if_neg h', List.count_singleton]
      simp [h]
theorem bytesOf_bt (l : List UInt8) : Lib.bytesOf ((List.range l.length).map (bt l)) = l := by
  apply List.ext_getElem
  · simp [Lib.bytesOf]
  · intro i h1 h2
    simp [Lib.bytesOf, bt, h2]

set_option maxHeartbeats 1000000 in
set_option maxRecDepth 100000 in
/-- bytes.Count, of line's ends. -/
theorem bcount_any {l : List UInt8} {B : Nat} {A : Option Addr} (n c b2 d : Nat) {w : World} (hn : n = l.length) (hA : Byt w B A l) (hc2 : w.cell? ⟨b2, 0, none⟩ = some (.int .u8 10)) :
    Calls Tryd.prog 31 #[.slice A n c, .slice (some ⟨b2, 0, none⟩) 1 d] w fun e w' => e = .returned (.int .i64 (nlTo l n)) ∧ w = w' := by
  have hrun : (Extern.BytealgCount.count #[.slice A n c, .int .u8 10]).run Tryd.prog w = .ok (.int .i64 (nlTo l n)) w := by
    rw [← count_nl l n (by omega), hn, List.take_length]
    rcases A with _ | a
    · have : l.length = 0 := by
        rcases Nat.eq_zero_or_pos l.length with h | h
        · exact h
        · obtain ⟨_, _, h, _⟩ := hA.at_ h; cases h
      have : l = [] := List.eq_nil_of_length_eq_zero this
      subst this
      exact Lib.run_countNil w 0 c 10
    · have := Lib.run_countAt (P := Tryd.prog) w a l.length c ((List.range l.length).map (bt l)) (by simp) (fun i hi => by
        obtain ⟨b, off, h, _, hc⟩ := hA.at_ (k := i) hi
        obtain rfl := Option.some.inj h
        rw [addAt, hc i hi]
        simp [hi]) 10
      rw [bytesOf_bt] at this
      exact this
  clear hA hn
  go_enter Tryd.func31, Tryd.ntmps31
  go_wp2
  rw [run_callFunc_extern Tryd.func40 (by kernel_rfl) (by kernel_rfl) (by kernel_rfl) (e := Extern.BytealgCount.count) (by kernel_rfl), hrun]
  simp only [Result.andThen]
  rw [Oper.upon_value]
  clear hrun
  go_wp2
  go_ret
  exact ⟨rfl, rfl⟩

set_option maxHeartbeats 400000 in
theorem lastidx_any {l : List UInt8} {B : Nat} {A : Option Addr} (n c : Nat) {w : World} (hn : n = l.length) (hA : Byt w B A l) (hm : n ≤ maxLen) :
    Calls Tryd.prog 42 #[.slice A n c, .int .u8 10] w fun e w' => e = .returned (.int .i64 (lastTo l n)) ∧ w = w' := by
  unfold maxLen at hm
  have Hn := Lib.hid hn
  clear hn
  go_enter Tryd.func42, Tryd.ntmps42
  go_wp2
  go_loop [5] (fun i => ∃ k : Nat, k ≤ n ∧ i = .int .i64 ((k : Int) - 1) ∧ lastTo l n = lastTo l k) (fun i => (intOf i + 1).toNat)
  case atStart => exact ⟨n, Nat.le_refl _, rfl, rfl⟩
  case round =>
    obtain ⟨k, hk, rfl, hl⟩ := hrel
    have HL := Lib.hid hl
    clear hl
    by_cases h0 : 0 < k
    · obtain ⟨j, rfl⟩ : ∃ j, k = j + 1 := ⟨k - 1, by omega⟩
      obtain ⟨b, off, rfl, _, hc⟩ := hA.at_ (k := j) (by have := Hn.out; omega)
      have hck := hc j (by have := Hn.out; omega)
      clear hc
      have ej : ((j + 1 : Nat) : Int) - 1 = (j : Int) := by omega
      rw [ej]
      clear ej
      by_cases h10 : bt l j = 10
      · have HE := Lib.hid (show lastTo l (j + 1) = j by rw [lastTo, if_pos h10])
        go_wp2
        go_ret
        exact ⟨ret_int (by rw [HL.out, HE.out]), rfl⟩
      · have HE := Lib.hid (show lastTo l (j + 1) = lastTo l j by rw [lastTo, if_neg h10])
        go_wp2
        go_round
        case rel => exact ⟨j, by omega, by go_num, by rw [HL.out, HE.out]⟩
        case measure => simp [intOf]
    · obtain rfl : k = 0 := by omega
      go_wp2
      go_ret
      exact ⟨ret_int (by rw [HL.out]; rfl), rfl⟩
theorem lastindex_any {l : List UInt8} {B : Nat} {A : Option Addr} (n c : Nat) {w : World} (hn : n = l.length) (hA : Byt w B A l) (hm : n ≤ maxLen) :
    Calls Tryd.prog 32 #[.slice A n c, .int .u8 10] w fun e w' => e = .returned (.int .i64 (lastTo l n)) ∧ w = w' := by
  have Hn := Lib.hid hn
  clear hn
  go_enter Tryd.func32, Tryd.ntmps32
  go_wp2_with (go_at_call 42; refine (lastidx_any _ _ Hn.out hA hm).mono ?_; rintro e w' ⟨rfl, rfl⟩)
  go_ret
  exact ⟨rfl, rfl⟩

/-- How many runes, or bytes where none begins, are gone through from i on till the place p is come to. -/
def colF (l : List UInt8) (p i : Nat) : Nat := if i < p then 1 + colF l p (i + max 1 (lng (l.drop i))) else 0
termination_by p - i
theorem colF_on {l : List UInt8} {p i : Nat} (h : i < p) : colF l p i = 1 + colF l p (i + max 1 (lng (l.drop i))) := by rw [colF, if_pos h]
theorem colF_end {l : List UInt8} {p i : Nat} (h : ¬ i < p) : colF l p i = 0 := by rw [colF, if_neg h]
theorem colF_le (l : List UInt8) (p i : Nat) : colF l p i ≤ p - i := by
  by_cases h : i < p
  · have := colF_le l p (i + max 1 (lng (l.drop i)))
    rw [colF_on h]; omega
  · rw [colF_end h]; omega
termination_by p - i
/-- The column of the byte at p. -/
def colAt (l : List UInt8) (p : Nat) : Nat := colF l p (1 + lastTo l p).toNat
theorem nlTo_take (l : List UInt8) {k p : Nat} (h : k ≤ p) : nlTo (l.take p) k = nlTo l k := by
  induction k with
  | zero => rfl
  | succ k ih => simp only [nlTo]; rw [ih (by omega), bt_take l (by omega)]
theorem lastTo_take (l : List UInt8) {k p : Nat} (h : k ≤ p) : lastTo (l.take p) k = lastTo l k := by
  induction k with
  | zero => rfl
  | succ k ih => simp only [lastTo]; rw [ih (by omega), bt_take l (by omega)]

theorem place_low {l : List UInt8} {A : Option Addr} (n c : Nat) {w : World} (p : Int) (hp : p < 0) (_hn : n = l.length) :
    Calls Tryd.prog 18 #[.slice A n c, .int .i64 p] w fun e w' => e = .returned (.tuple #[.int .i64 0, .int .i64 0]) ∧ w = w' := by
  clear _hn
  go_enter Tryd.func18, Tryd.ntmps18
  go_wp2
  go_ret2
  exact ⟨rfl, rfl⟩
theorem place_high {l : List UInt8} {A : Option Addr} (n c : Nat) {w : World} (p : Int) (hp : (n : Int) < p) (_hn : n = l.length) (hm : n ≤ maxLen) :
    Calls Tryd.prog 18 #[.slice A n c, .int .i64 p] w fun e w' => e = .returned (.tuple #[.int .i64 0, .int .i64 0]) ∧ w = w' := by
  unfold maxLen at hm
  clear _hn
  have h0 : ¬ p < 0 := by omega
  go_enter Tryd.func18, Tryd.ntmps18
  go_wp2
  go_ret2
  exact ⟨rfl, rfl⟩

theorem bcount_is {l : List UInt8} {B : Nat} {A : Option Addr} {x : Int} (n c b2 d : Nat) {w : World} (hn : n = l.length) (hA : Byt w B A l) (hc2 : w.cell? ⟨b2, 0, none⟩ = some (.int .u8 10)) (hx : x = nlTo l n) :
    Calls Tryd.prog 31 #[.slice A n c, .slice (some ⟨b2, 0, none⟩) 1 d] w fun e w' => e = .returned (.int .i64 x) ∧ w = w' := hx ▸ bcount_any n c b2 d hn hA hc2
theorem lastindex_is {l : List UInt8} {B : Nat} {A : Option Addr} {x : Int} (n c : Nat) {w : World} (hn : n = l.length) (hA : Byt w B A l) (hm : n ≤ maxLen) (hx : x = lastTo l n) :
    Calls Tryd.prog 32 #[.slice A n c, .int .u8 10] w fun e w' => e = .returned (.int .i64 x) ∧ w = w' := hx ▸ lastindex_any n c hn hA hm

set_option maxHeartbeats 1000000 in
theorem place_in {l : List UInt8} {B : Nat} {A : Option Addr} (n c p : Nat) {w : World} (hn : n = l.length) (hnc : n ≤ c) (hA : Byt w B A l) (hB : B ≤ w.heap.size) (hm : c ≤ maxLen) (hs : n ≤ 65536) (hp : p ≤ n) :
    Calls Tryd.prog 18 #[.slice A n c, .int .i64 p] w fun e w' => e = .returned (.tuple #[.int .i64 (1 + (nlTo l p : Int)), .int .i64 (1 + (colAt l p : Int))]) ∧ Below w.heap.size w w' := by
  have hm' := hm
  unfold maxLen at hm
  have h0 : ¬ (p : Int) < 0 := by omega
  have h1 : ¬ (n : Int) < p := by omega
  have hpc : p ≤ c := by omega
  have Hn := Lib.hid hn
  have HT := Lib.hid (show p = (l.take p).length by simp; omega)
  have hA1 : Byt (w.alloc (.cells #[.int .u8 10] 5)) B A (l.take p) := Lst.alloc (hA.take p) hB _
  have hA2 : Byt (w.alloc (.cells #[.int .u8 10] 5)) B A l := Lst.alloc hA hB _
  have hbel : Below w.heap.size w (w.alloc (.cells #[.int .u8 10] 5)) := (Below.refl _ _).alloc (Nat.le_refl _) _
  obtain ⟨x, HX⟩ : ∃ x : Nat, Hid ((x : Int) = nlTo (l.take p) p) := ⟨nlTo (l.take p) p, rfl⟩
  obtain ⟨y, HY⟩ : ∃ y : Int, Hid (y = lastTo (l.take p) p) := ⟨_, rfl⟩
  have HX2 := Lib.hid (show (nlTo l p : Int) = x by rw [HX.out, nlTo_take l (Nat.le_refl _)])
  have HY2 := Lib.hid (show lastTo l p = y by rw [HY.out, lastTo_take l (Nat.le_refl _)])
  have hx : x ≤ p := by have := nlTo_le (l.take p) p; have := HX.out; omega
  have hy := lastTo_bd l p
  rw [HY2.out] at hy
  obtain ⟨hy0, hy1⟩ := hy
  obtain ⟨f, hf⟩ : ∃ f : Nat, 1 + y = f := ⟨(1 + y).toNat, by omega⟩
  have HF := Lib.hid (show colAt l p = colF l p f by rw [colAt, HY2.out, hf]; rfl)
  have hfp : f ≤ p := by omega
  have HFY := Lib.hid hf
  have hc2 : (w.alloc (.cells #[.int .u8 10] 5)).cell? ⟨w.heap.size, 0, none⟩ = some (.int .u8 10) := by simp [World.cell?_alloc_new]
  obtain rfl : y = (f : Int) - 1 := by omega
  clear hn hf hA
  go_enter Tryd.func18, Tryd.ntmps18
  go_wp2_with (first
    | (go_at_call 31; refine (bcount_is (x := (x : Int)) _ _ _ _ HT.out hA1 hc2 HX.out).mono ?_; rintro e w' ⟨rfl, rfl⟩)
    | (go_at_call 32; refine (lastindex_is (x := (f : Int) - 1) _ _ HT.out hA1 (by unfold maxLen; omega) HY.out).mono ?_; rintro e w' ⟨rfl, rfl⟩))
  go_loop [5, 6] (fun s i => ∃ k m : Nat, k ≤ n ∧ i = .int .i64 k ∧ s = .int .i64 (1 + (m : Int)) ∧ m ≤ k ∧ m + colF l p k = colF l p f) (fun _ i => n - (intOf i).toNat)
  case atStart => exact ⟨f, 0, by omega, by go_num, rfl, by omega, by omega⟩
  case round =>
    obtain ⟨k, m, hk, rfl, rfl, hmk, hcol⟩ := hrel
    have HC := Lib.hid hcol
    clear hcol
    by_cases hlt : k < p
    · have hd : 0 < (l.drop k).length := by have := Hn.out; simp; omega
      have hcut := hA2.cut' (k := k) (by have := Hn.out; omega)
      obtain ⟨q, HQ⟩ : ∃ q, Hid (q = lng (l.drop k)) := ⟨_, rfl⟩
      have hq : q ≤ n - k := by have := lng_le (l.drop k); have := HQ.out; have := Hn.out; simp at *; omega
      have HS := Lib.hid (show (m + 1) + colF l p (k + max 1 q) = colF l p f by have := colF_on (l := l) hlt; rw [← HQ.out] at this; have := HC.out; omega)
      have hkn : k < n := by omega
      by_cases hz : q = 0
      · subst hz
        go_wp2_with (go_at_call 26; refine (long_is 0 _ _ (by have := Hn.out; simp; omega) hcut hd (by simp; unfold maxLen; have := Hn.out; omega) (by have := HQ.out; omega)).mono ?_; rintro e w' ⟨rfl, rfl⟩)
        go_round
        case rel => exact ⟨k + 1, m + 1, by omega, by go_num, by go_num, by omega, HS.out⟩
        case measure => simp [intOf]; omega
      · have hz1 : 1 ≤ (q : Int) := by omega
        go_wp2_with (go_at_call 26; refine (long_is (q : Int) _ _ (by have := Hn.out; simp; omega) hcut hd (by simp; unfold maxLen; have := Hn.out; omega) (by have := HQ.out; omega)).mono ?_; rintro e w' ⟨rfl, rfl⟩)
        go_round
        case rel => exact ⟨k + q, m + 1, by omega, by go_num, by go_num, by omega, by have := HS.out; rwa [show max 1 q = q by omega] at this⟩
        case measure => simp [intOf]; omega
    · have HE := Lib.hid (show m = colF l p f by have := HC.out; rw [colF_end hlt] at this; omega)
      go_wp2
      go_ret2
      exact ⟨ret_ii (by rw [HX2.out]) (by rw [HF.out, ← HE.out]), hbel⟩
end Go.Proofs.YtllnnogdpagioaaDoor
