/- Numbers' texts: where their parts begin and end, and what these tell, as plain functions of bytes. -/
import Derived.Test.YtggeiajbcehkjaaGreatDoorGaa
import Derived.Test.YtggeiajbcehkjaaGreatDoorProg
import Derived.Test.YtggeiajbcehkjaaGreatDoorGak
import Derived.OneCell
import Derived.Lib.IndexLaws
import Derived.LoopTactic
import Derived.Outline
import Derived.Deep.DeepCutAuto
import Derived.Deep.LoopGhost
import Derived.Below
import Derived.Laws.BytesArg
import Derived.Laws.NewBlocks
import Derived.Lib.Strings
import Derived.Deep.QuietTactic
import Derived.BigQuiet
import Derived.Deep.CutBlock
namespace Go.Proofs.YtggeiajbcehkjaaGreatDoor.De
open Go.RowKit

/-- Is a byte a numeral? -/
def nmr (c : Int) : Bool := decide (48 ≤ c) && decide (c ≤ 57)
/-- Where a run of numerals ends that begins at i. -/
def runE (l : List UInt8) (i : Nat) : Nat := if i < l.length ∧ nmr (bt l i) = true then runE l (i + 1) else i
termination_by l.length - i
theorem runE_on {l : List UInt8} {i : Nat} (h : i < l.length) (h2 : nmr (bt l i) = true) : runE l i = runE l (i + 1) := by rw [runE, if_pos ⟨h, h2⟩]
theorem runE_end {l : List UInt8} {i : Nat} (h : ¬ (i < l.length ∧ nmr (bt l i) = true)) : runE l i = i := by rw [runE, if_neg h]
theorem runE_ge (l : List UInt8) (i : Nat) : i ≤ runE l i := by
  by_cases h : i < l.length ∧ nmr (bt l i) = true
  · have := runE_ge l (i + 1); rw [runE_on h.1 h.2]; omega
  · rw [runE_end h]; exact Nat.le_refl _
termination_by l.length - i
theorem runE_le (l : List UInt8) (i : Nat) (hi : i ≤ l.length) : runE l i ≤ l.length := by
  by_cases h : i < l.length ∧ nmr (bt l i) = true
  · have := runE_le l (i + 1) (by omega); rw [runE_on h.1 h.2]; exact this
  · rw [runE_end h]; exact hi
termination_by l.length - i
end Go.Proofs.YtggeiajbcehkjaaGreatDoor.De
/- The program's own closure that takes a text's beginning, walked. -/
namespace Go.Proofs.YtggeiajbcehkjaaGreatDoor.De
open Go.RowKit

/-- How many of the bytes from place k on are among W, up to place m. -/
def tk (W : List UInt8) (m : Nat) (r : List UInt8) (k : Nat) : Nat := if k < r.length ∧ k < m ∧ W.contains (r.getD k 0) = true then tk W m r (k + 1) else k
termination_by r.length - k
theorem tk_on {W r : List UInt8} {m k : Nat} (h1 : k < r.length) (h2 : k < m) (h3 : W.contains (r.getD k 0) = true) : tk W m r k = tk W m r (k + 1) := by rw [tk, if_pos ⟨h1, h2, h3⟩]
theorem tk_end {W r : List UInt8} {m k : Nat} (h : ¬ (k < r.length ∧ k < m ∧ W.contains (r.getD k 0) = true)) : tk W m r k = k := by rw [tk, if_neg h]
theorem ix_in {W : List UInt8} {c : UInt8} (h : W.contains c = true) : 0 ≤ Lib.indexByte W c := by
  have h1 := Lib.indexByte_ge W c
  rcases Int.lt_or_le (Lib.indexByte W c) 0 with h2 | h2
  · have := Lib.indexByte_none (l := W) (c := c) (by omega)
    obtain ⟨i, hi, e⟩ := List.mem_iff_getElem.1 (List.contains_iff_mem.1 h)
    exact absurd (by rw [List.getElem?_eq_getElem hi, e]) (this i)
  · exact h2
theorem ix_out {W : List UInt8} {c : UInt8} (h : W.contains c = false) : Lib.indexByte W c = -1 := by
  have h1 := Lib.indexByte_ge W c
  rcases Int.lt_or_le (Lib.indexByte W c) 0 with h2 | h2
  · omega
  · obtain ⟨o, ho⟩ : ∃ o : Nat, Lib.indexByte W c = o := ⟨(Lib.indexByte W c).toNat, by omega⟩
    have := (Lib.indexByte_some ho).1
    have hm : c ∈ W := List.mem_of_getElem? this
    rw [← List.contains_iff_mem] at hm
    rw [h] at hm; cases hm
theorem getD_bt {r : List UInt8} {k : Nat} : (bt r k).toNat.toUInt8 = r.getD k 0 := by
  unfold bt; simp
theorem indexByte_is {W : List UInt8} {s : ByteArray} {c y : Int} (hs : s = txt W) (hy : y = Lib.indexByte W c.toNat.toUInt8) (w : World) :
    Calls Tryz.prog 136 #[.string s, .int .u8 c] w fun e w' => e = .returned (.int .i64 y) ∧ w = w' := by
  subst hs; subst hy
  refine (Tryz.strings_IndexByte (txt W) c w).mono ?_
  rintro e w' ⟨rfl, rfl⟩
  exact ⟨rfl, rfl⟩

set_option maxHeartbeats 1000000 in
theorem take_any {W r : List UInt8} {wn t : ByteArray} (m b : Nat) (w : World) (hW : wn = txt W) (ht : t = txt r) (hb : w.heap[b]? = some (.cells #[.string t] 9 (0, 0))) (hr : r.length ≤ 1000000) (hm : m ≤ 1000000) :
    Calls Tryz.prog 236 #[.string wn, .int .i64 m, .pointer (some ⟨b, 0, none⟩)] w fun e w' => e = .returned (.string (txt (r.take (tk W m r 0)))) ∧ w' = w.setCell ⟨b, 0, none⟩ (.string (txt (r.drop (tk W m r 0)))) := by
  have HZ := Lib.hid (show t.size = r.length by rw [ht, txt_size])
  have HS := Lib.hid ht
  have HW := Lib.hid hW
  have hsz : t.size ≤ 1000000 := by have := HZ.out; omega
  have hc := cell_of_one hb
  have hf := free_of_one hb
  clear ht hW hb hr
  go_enter Tryz.func236, Tryz.ntmps236
  go_wp2
  go_loop [6] (fun j => ∃ k : Nat, k ≤ t.size ∧ j = .int .i64 k ∧ tk W m r 0 = tk W m r k) (fun j => t.size - (intOf j).toNat)
  case atStart => exact ⟨0, Nat.zero_le _, rfl, rfl⟩
  case round =>
    obtain ⟨k, hk, rfl, hkr⟩ := hrel
    have HR := Lib.hid hkr
    clear hkr
    have fin : ¬ (k < r.length ∧ k < m ∧ W.contains (r.getD k 0) = true) → txt (r.take (tk W m r 0)) = t.extract 0 k ∧ txt (r.drop (tk W m r 0)) = t.extract k t.size := by
      intro h
      rw [HR.out, tk_end h, HS.out]
      refine ⟨by rw [txt_cut]; rfl, ?_⟩
      rw [txt_cut, txt_size, List.take_length]
    have FIN := Lib.hid fin
    clear fin
    by_cases h1 : k < t.size
    · have hx := txt_at HS.out (k := k)
      by_cases h2 : k < m
      · by_cases h3 : W.contains (r.getD k 0) = true
        · have E := Lib.hid (tk_on (m := m) (by have := HZ.out; omega) h2 h3)
          obtain ⟨y, hy⟩ : ∃ y, y = Lib.indexByte W (bt r k).toNat.toUInt8 := ⟨_, rfl⟩
          have hy0 : 0 ≤ y := by rw [hy, getD_bt]; exact ix_in h3
          have HY := Lib.hid hy
          clear hy h3 FIN
          go_wp2_with (go_at_call 136; refine (indexByte_is HW.out HY.out _).mono ?_; rintro e w' ⟨rfl, rfl⟩)
          go_round
          case rel => exact ⟨k + 1, by omega, by go_num, by rw [HR.out, E.out]⟩
          case measure => simp [intOf]; omega
        · have h3 : W.contains (r.getD k 0) = false := by simpa using h3
          have F := Lib.hid (FIN.out (by rw [h3]; simp))
          obtain ⟨y, hy⟩ : ∃ y, y = Lib.indexByte W (bt r k).toNat.toUInt8 := ⟨_, rfl⟩
          have hy0 : y = -1 := by rw [hy, getD_bt]; exact ix_out h3
          subst hy0
          have HY := Lib.hid hy
          clear hy h3 FIN
          go_wp2_with (go_at_call 136; refine (indexByte_is HW.out HY.out _).mono ?_; rintro e w' ⟨rfl, rfl⟩)
          go_ret
          exact ⟨by rw [F.out.1]; rfl, by rw [F.out.2]⟩
      · have F := Lib.hid (FIN.out (by omega))
        clear FIN
        go_wp2
        go_ret
        exact ⟨by rw [F.out.1]; rfl, by rw [F.out.2]⟩
    · have F := Lib.hid (FIN.out (by have := HZ.out; omega))
      clear FIN
      go_wp2
      go_ret
      exact ⟨by rw [F.out.1]; rfl, by rw [F.out.2]⟩
end Go.Proofs.YtggeiajbcehkjaaGreatDoor.De
/- The document's answer on whether a text is a number's, walked. -/
namespace Go.Proofs.YtggeiajbcehkjaaGreatDoor.De
open Go.RowKit

/-- Where a number's parts begin and end. -/
def q0 (l : List UInt8) : Nat := if bt l 0 = 45 then 1 else 0
def q1 (l : List UInt8) : Nat := runE l (q0 l)
def bad1 (l : List UInt8) : Bool := decide (q1 l = q0 l ∨ bt l (q0 l) = 48 ∧ q0 l + 1 < q1 l)
def dot (l : List UInt8) : Bool := decide (bt l (q1 l) = 46)
def q2 (l : List UInt8) : Nat := if dot l = true then q1 l + 1 else q1 l
def q3 (l : List UInt8) : Nat := if dot l = true then runE l (q2 l) else q1 l
def exq (l : List UInt8) : Bool := decide (bt l (q3 l) = 101 ∨ bt l (q3 l) = 69)
def sgn (l : List UInt8) : Bool := decide (bt l (q3 l + 1) = 43 ∨ bt l (q3 l + 1) = 45)
def q4 (l : List UInt8) : Nat := if exq l = true then (if sgn l = true then q3 l + 1 + 1 else q3 l + 1) else q3 l
def q5 (l : List UInt8) : Nat := if exq l = true then runE l (q4 l) else q3 l
/-- Is it a number's text? -/
def isB (l : List UInt8) : Bool := !bad1 l && (!dot l || decide (q3 l ≠ q2 l)) && (!exq l || decide (q5 l ≠ q4 l)) && decide (q5 l = l.length)
theorem bt_far {l : List UInt8} {k : Nat} (h : l.length ≤ k) : bt l k = 0 := by simp [bt, List.getElem?_eq_none h]
end Go.Proofs.YtggeiajbcehkjaaGreatDoor.De
/- The written exponent, walked. -/
namespace Go.Proofs.YtggeiajbcehkjaaGreatDoor.De
open Go.RowKit

/-- The numerals from i to e, onto n; none: beyond bounds on the way. -/
def powA (l : List UInt8) (e i : Nat) (n : Int) : Option Int :=
  if i < e then (if 10 * n + (bt l i - 48) > 1000000000 then none else powA l e (i + 1) (10 * n + (bt l i - 48))) else some n
termination_by e - i
/-- The written exponent, and whether it is within bounds. -/
def powR (l : List UInt8) (i e : Nat) : Int × Bool := match powA l e i 0 with
  | none => (0, false)
  | some n => (if i < e ∧ bt l (i - 1) = 45 then -n else n, true)
theorem powA_end {l : List UInt8} {e i : Nat} {n : Int} (h : ¬ i < e) : powA l e i n = some n := by rw [powA, if_neg h]
theorem powA_big {l : List UInt8} {e i : Nat} {n : Int} (h : i < e) (h2 : 10 * n + (bt l i - 48) > 1000000000) : powA l e i n = none := by rw [powA, if_pos h, if_pos h2]
theorem powA_on {l : List UInt8} {e i : Nat} {n : Int} (h : i < e) (h2 : ¬ 10 * n + (bt l i - 48) > 1000000000) : powA l e i n = powA l e (i + 1) (10 * n + (bt l i - 48)) := by rw [powA, if_pos h, if_neg h2]
end Go.Proofs.YtggeiajbcehkjaaGreatDoor.De
/- The document's answer on a number's numerals, walked: it calls itself. -/
namespace Go.Proofs.YtggeiajbcehkjaaGreatDoor.De
open Go.RowKit

/-- A number's numerals. -/
def itoN (n : Nat) : List UInt8 := if n < 10 then [UInt8.ofNat (48 + n)] else itoN (n / 10) ++ [UInt8.ofNat (48 + n % 10)]
def itoL (n : Int) : List UInt8 := if n < 0 then 45 :: itoN (-n).toNat else itoN n.toNat
theorem itoN_lt {n : Nat} (h : n < 10) : itoN n = [UInt8.ofNat (48 + n)] := by rw [itoN, if_pos h]
theorem itoN_len (n : Nat) : (itoN n).length ≤ n + 1 := by
  induction n using Nat.strongRecOn with
  | ind n ih =>
    by_cases h : n < 10
    · rw [itoN_lt h]; simp
    · rw [itoN, if_neg h]
      have := ih (n / 10) (by omega)
      simp; omega
end Go.Proofs.YtggeiajbcehkjaaGreatDoor.De
/- The document's answer on Read, walked. -/
namespace Go.Proofs.YtggeiajbcehkjaaGreatDoor.De
open Go.RowKit

/-- The noughts at an end taken off. -/
def trimR (d : List UInt8) : List UInt8 := if 0 < d.length ∧ bt d (d.length - 1) = 48 then trimR (d.take (d.length - 1)) else d
termination_by d.length
decreasing_by simp; omega
def trimL (d : List UInt8) : List UInt8 := if 0 < d.length ∧ bt d 0 = 48 then trimL (d.drop 1) else d
termination_by d.length
decreasing_by simp; omega
/-- The numerals ahead of and behind the point. -/
def rdD (l : List UInt8) : List UInt8 := (l.take (q1 l)).drop (q0 l) ++ (l.take (q3 l)).drop (q2 l)
def rdT (l : List UInt8) : List UInt8 := trimL (trimR (rdD l))
/-- The exponent of the normal form. -/
def rdN (l : List UInt8) : Int := (powR l (q4 l) (q5 l)).1 - ((q3 l : Int) - q2 l) + (((rdD l).length : Int) - (trimR (rdD l)).length)
/-- The document's answer: text and code. -/
def rd (l : List UInt8) : List UInt8 × Int :=
  if isB l = false then ([], 3) else
  if (powR l (q4 l) (q5 l)).2 = false then ([], 7) else
  if rdT l = [] then ([48], 0) else
  if rdN l > 1000000000 ∨ rdN l < -1000000000 then ([], 7) else
  ((if bt l 0 = 45 then [45] else []) ++ rdT l ++ [101] ++ itoL (rdN l), 0)

theorem runE_nmr (l : List UInt8) (i : Nat) : ∀ k, i ≤ k → k < runE l i → nmr (bt l k) = true := by
  intro k hk hk2
  by_cases h : i < l.length ∧ nmr (bt l i) = true
  · rw [runE_on h.1 h.2] at hk2
    rcases Nat.eq_or_lt_of_le hk with h3 | h3
    · rw [← h3]; exact h.2
    · exact runE_nmr l (i + 1) k h3 hk2
  · rw [runE_end h] at hk2; omega
termination_by l.length - i
/-- What lies where. -/
theorem q_order {l : List UInt8} : q0 l ≤ q1 l ∧ q1 l ≤ q2 l ∧ q2 l ≤ q3 l ∧ q3 l ≤ q4 l ∧ q4 l ≤ q5 l ∧ q5 l ≤ l.length ∧ (q4 l < q5 l → 1 ≤ q4 l) ∧ ∀ k, q4 l ≤ k → k < q5 l → nmr (bt l k) = true := by
  have h0 : q0 l ≤ l.length := by
    unfold q0; split
    · rename_i h
      rcases Nat.eq_zero_or_pos l.length with h2 | h2
      · rw [bt_far (by omega)] at h; omega
      · omega
    · omega
  have h1 : q1 l ≤ l.length := runE_le l (q0 l) h0
  have h2 : q2 l ≤ l.length := by
    unfold q2; split
    · rename_i h
      rcases Nat.lt_or_ge (q1 l) l.length with h2 | h2
      · exact h2
      · unfold dot at h; rw [bt_far (by omega)] at h; cases h
    · exact h1
  have h23 : q2 l ≤ q3 l ∧ q3 l ≤ l.length := by
    unfold q3; split
    · exact ⟨runE_ge .., runE_le l _ h2⟩
    · rename_i h
      unfold q2; rw [if_neg h]; exact ⟨Nat.le_refl _, h1⟩
  have h4 : q3 l ≤ q4 l ∧ q4 l ≤ l.length := by
    unfold q4; split
    · rename_i h
      have hl : q3 l < l.length := by
        rcases Nat.lt_or_ge (q3 l) l.length with h2 | h2
        · exact h2
        · unfold exq at h; rw [bt_far (by omega)] at h; cases h
      split
      · rename_i hsg
        rcases Nat.lt_or_ge (q3 l + 1) l.length with h2 | h2
        · omega
        · unfold sgn at hsg; rw [bt_far (by omega)] at hsg; cases hsg
      · omega
    · omega
  have h5 : q4 l ≤ q5 l ∧ q5 l ≤ l.length ∧ (q4 l < q5 l → 1 ≤ q4 l) ∧ ∀ k, q4 l ≤ k → k < q5 l → nmr (bt l k) = true := by
    by_cases h : exq l = true
    · have e : q5 l = runE l (q4 l) := by unfold q5; rw [if_pos h]
      rw [e]
      refine ⟨runE_ge .., runE_le l _ h4.2, fun _ => ?_, runE_nmr l _⟩
      unfold q4; rw [if_pos h]; split <;> omega
    · have e : q5 l = q4 l := by unfold q5 q4; rw [if_neg h, if_neg h]
      rw [e]
      exact ⟨Nat.le_refl _, h4.2, fun h => by omega, fun k h1 h2 => by omega⟩
  exact ⟨runE_ge .., by unfold q2; split <;> omega, h23.1, h4.1, h5⟩
theorem powA_range (l : List UInt8) (e i : Nat) (n : Int) (hn : 0 ≤ n) (hb : n ≤ 1000000000) (hd : ∀ k, i ≤ k → k < e → nmr (bt l k) = true) : ∀ m, powA l e i n = some m → 0 ≤ m ∧ m ≤ 1000000000 := by
  intro m hm
  by_cases h : i < e
  · by_cases h2 : 10 * n + (bt l i - 48) > 1000000000
    · rw [powA_big h h2] at hm; cases hm
    · rw [powA_on h h2] at hm
      have h3 : 48 ≤ bt l i ∧ bt l i ≤ 57 := by simpa [nmr] using hd i (Nat.le_refl _) h
      exact powA_range l e (i + 1) _ (by omega) (by omega) (fun k h1 h2 => hd k (by omega) h2) m hm
  · rw [powA_end h] at hm; cases hm; exact ⟨hn, hb⟩
termination_by e - i
theorem powR_range (l : List UInt8) (i e : Nat) (hd : ∀ k, i ≤ k → k < e → nmr (bt l k) = true) : -1000000000 ≤ (powR l i e).1 ∧ (powR l i e).1 ≤ 1000000000 := by
  unfold powR
  split
  · simp
  · rename_i n h
    have := powA_range l e i 0 (by omega) (by omega) hd n h
    dsimp only
    split <;> omega
theorem trimR_on {d : List UInt8} (h : 0 < d.length) (h2 : bt d (d.length - 1) = 48) : trimR d = trimR (d.take (d.length - 1)) := by rw [trimR, if_pos ⟨h, h2⟩]
theorem trimR_end {d : List UInt8} (h : ¬ (0 < d.length ∧ bt d (d.length - 1) = 48)) : trimR d = d := by rw [trimR, if_neg h]
theorem trimL_on {d : List UInt8} (h : 0 < d.length) (h2 : bt d 0 = 48) : trimL d = trimL (d.drop 1) := by rw [trimL, if_pos ⟨h, h2⟩]
theorem trimL_end {d : List UInt8} (h : ¬ (0 < d.length ∧ bt d 0 = 48)) : trimL d = d := by rw [trimL, if_neg h]
theorem trimR_len (d : List UInt8) : (trimR d).length ≤ d.length := by
  by_cases h : 0 < d.length ∧ bt d (d.length - 1) = 48
  · rw [trimR_on h.1 h.2]; have := trimR_len (d.take (d.length - 1)); simp at *; omega
  · rw [trimR_end h]; exact Nat.le_refl _
termination_by d.length
decreasing_by simp; omega
theorem trimL_len (d : List UInt8) : (trimL d).length ≤ d.length := by
  by_cases h : 0 < d.length ∧ bt d 0 = 48
  · rw [trimL_on h.1 h.2]; have := trimL_len (d.drop 1); simp at *; omega
  · rw [trimL_end h]; exact Nat.le_refl _
termination_by d.length
decreasing_by simp; omega
theorem rdD_len (l : List UInt8) : (rdD l).length ≤ 2 * l.length := by simp [rdD]; omega
theorem belowDrewN {B : Nat} {a w : World} (h : Below B a w) (k : Nat) : Below B a (w.drewN k) := ⟨h.os, h.tape, h.output, h.size, h.block⟩
theorem rd_syntax {l : List UInt8} (h : isB l = false) : rd l = ([], 3) := by unfold rd; rw [if_pos h]
theorem rd_exp {l : List UInt8} (h : isB l = true) (h2 : (powR l (q4 l) (q5 l)).2 = false) : rd l = ([], 7) := by unfold rd; rw [if_neg (by rw [h]; simp), if_pos h2]
theorem rd_zero {l : List UInt8} (h : isB l = true) (h2 : (powR l (q4 l) (q5 l)).2 = true) (h3 : rdT l = []) : rd l = ([48], 0) := by unfold rd; rw [if_neg (by rw [h]; simp), if_neg (by rw [h2]; simp), if_pos h3]
theorem rd_far {l : List UInt8} (h : isB l = true) (h2 : (powR l (q4 l) (q5 l)).2 = true) (h3 : rdT l ≠ []) (h4 : rdN l > 1000000000 ∨ rdN l < -1000000000) : rd l = ([], 7) := by
  unfold rd; rw [if_neg (by rw [h]; simp), if_neg (by rw [h2]; simp), if_neg h3, if_pos h4]
theorem rd_ok {l : List UInt8} (h : isB l = true) (h2 : (powR l (q4 l) (q5 l)).2 = true) (h3 : rdT l ≠ []) (h4 : ¬ (rdN l > 1000000000 ∨ rdN l < -1000000000)) : rd l = ((if bt l 0 = 45 then [45] else []) ++ rdT l ++ [101] ++ itoL (rdN l), 0) := by
  unfold rd; rw [if_neg (by rw [h]; simp), if_neg (by rw [h2]; simp), if_neg h3, if_neg h4]
theorem itoL_len {n : Int} (h1 : -1000000000 ≤ n) (h2 : n ≤ 1000000000) : (itoL n).length ≤ 1000000003 := by
  unfold itoL; split
  · have := itoN_len (-n).toNat; simp; omega
  · have := itoN_len n.toNat; omega
theorem txt_list (l : List UInt8) : (txt l).toList = l := by rw [Lib.toList_data]; rfl
end Go.Proofs.YtggeiajbcehkjaaGreatDoor.De
/- The document's answer on Read, walked. -/
namespace Go.Proofs.YtggeiajbcehkjaaGreatDoor.De
open Go.RowKit

theorem ret_sc {a b : ByteArray} {x y : Int} (h : a = b) (h' : x = y) : Ending.returned (.tuple #[.string a, .int .i64 x]) = .returned (.tuple #[.string b, .int .i64 y]) := by rw [h, h']
end Go.Proofs.YtggeiajbcehkjaaGreatDoor.De
/- Lists of the parts of a normal form. -/
namespace Go.Proofs.YtggeiajbcehkjaaGreatDoor.De
open Go.RowKit

theorem leq (a b : List UInt8) : (a == b) = decide (a = b) := by rw [Bool.eq_iff_iff]; simp
end Go.Proofs.YtggeiajbcehkjaaGreatDoor.De
