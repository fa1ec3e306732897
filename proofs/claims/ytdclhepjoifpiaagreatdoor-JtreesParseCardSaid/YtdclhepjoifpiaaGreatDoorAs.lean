/- Numbers' texts: where their parts begin and end, and what these tell, as plain functions of bytes. -/
import Derived.Test.YtdclhepjoifpiaaGreatDoorAm
import Derived.Test.YtdclhepjoifpiaaGreatDoorProg
import Derived.LoopTactic
import Derived.Outline
import Derived.Test.YtdclhepjoifpiaaGreatDoorShelfm
import Derived.OneCell
import Derived.Lib.IndexLaws
import Derived.Deep.DeepCutAuto
import Derived.Deep.LoopGhost
import Derived.Below
import Derived.Laws.BytesArg
import Derived.Laws.NewBlocks
import Derived.Lib.Strings
import Derived.Deep.QuietTactic
import Derived.BigQuiet
import Derived.Deep.CutBlock
import Derived.Lib.TrimByte
import Derived.Deep.RegionWith
import Derived.Sort.Grow
import Derived.Deep.RegionHeld3
namespace Go.Proofs.YtdclhepjoifpiaaGreatDoor.De
open Go.RowKit

/-- Is a byte a numeral? -/
def nmr (c : Int) : Bool := decide (48 ≤ c) && decide (c ≤ 57)
/-- Where a run of numerals ends that begins at i. -/
def runE (l : List UInt8) (i : Nat) : Nat := if i < l.length ∧ nmr (bt l i) = true then runE l (i + 1) else i
termination_by l.length - i
theorem runE_on {l : List UInt8} {i : Nat} (h : i < l.length) (h2 : nmr (bt l i) = true) : runE l i = runE l (i + 1) := by rw [runE, if_pos ⟨h, h2⟩]
theorem runE_end {l : List UInt8} {i : Nat} (h : ¬ (i < l.length ∧ nmr (bt l i) = true)) : runE l i = i := by rw [runE, if_neg h]
theorem runE_ge (l : List UInt8) (i : Nat) : i ≤ runE l i := by
  by_cases h : i < l.length ∧ nmr (bt l i) = true
  · have := runE_ge l (i + 1); rw [runE_on h.1 h.2]; omega
  · rw [runE_end h]; exact Nat.le_refl _
termination_by l.length - i
theorem runE_le (l : List UInt8) (i : Nat) (hi : i ≤ l.length) : runE l i ≤ l.length := by
  by_cases h : i < l.length ∧ nmr (bt l i) = true
  · have := runE_le l (i + 1) (by omega); rw [runE_on h.1 h.2]; exact this
  · rw [runE_end h]; exact hi
termination_by l.length - i
end Go.Proofs.YtdclhepjoifpiaaGreatDoor.De
/- The document's answers on numerals, and on runs of them, walked. -/
namespace Go.Proofs.YtdclhepjoifpiaaGreatDoor.De
open Go.RowKit

theorem numeral_any (c : Int) (w : World) : Calls Tryz.prog 93 #[.int .u8 c] w fun e w' => e = .returned (.bool (nmr c)) ∧ w = w' := by
  by_cases h1 : 48 ≤ c
  · by_cases h2 : c ≤ 57
    · go_enter Tryz.func93, Tryz.ntmps93
      go_wp2
      go_ret
      exact ⟨ret_bool (by simp [nmr, h1, h2]), rfl⟩
    · go_enter Tryz.func93, Tryz.ntmps93
      go_wp2
      go_ret
      exact ⟨ret_bool (by simp [nmr, h2]), rfl⟩
  · go_enter Tryz.func93, Tryz.ntmps93
    go_wp2
    go_ret
    exact ⟨ret_bool (by simp [nmr]; omega), rfl⟩
theorem numeral_is {c : Int} {p : Bool} (h : nmr c = p) (w : World) : Calls Tryz.prog 93 #[.int .u8 c] w fun e w' => e = .returned (.bool p) ∧ w = w' := h ▸ numeral_any c w

theorem run_any {l : List UInt8} {s : ByteArray} (i : Nat) (w : World) (hs : s = txt l) (hi : i ≤ l.length) (hm : l.length ≤ 1000000) :
    Calls Tryz.prog 76 #[.string s, .int .i64 i] w fun e w' => e = .returned (.int .i64 (runE l i)) ∧ w = w' := by
  have HZ := Lib.hid (show s.size = l.length by rw [hs, txt_size])
  have HS := Lib.hid hs
  have hsz : s.size ≤ 1000000 := by have := HZ.out; omega
  have his : i ≤ s.size := by have := HZ.out; omega
  clear hs hi hm
  go_enter Tryz.func76, Tryz.ntmps76
  go_wp2
  go_loop [1] (fun j => ∃ k : Nat, k ≤ s.size ∧ j = .int .i64 k ∧ runE l i = runE l k) (fun j => s.size - (intOf j).toNat)
  case atStart => exact ⟨i, his, rfl, rfl⟩
  case round =>
    obtain ⟨k, hk, rfl, hr⟩ := hrel
    have HR := Lib.hid hr
    clear hr
    by_cases hlt : k < s.size
    · have hx := txt_at HS.out (k := k)
      obtain ⟨x, hbx⟩ : ∃ x, bt l k = x := ⟨_, rfl⟩
      rw [hbx] at hx
      by_cases hn : nmr x = true
      · have HE := Lib.hid (runE_on (l := l) (i := k) (by have := HZ.out; omega) (by rw [hbx]; exact hn))
        clear hbx
        go_wp2_with (go_at_call 93; refine (numeral_is hn _).mono ?_; rintro e w' ⟨rfl, rfl⟩)
        go_round
        case rel => exact ⟨k + 1, by omega, by go_num, by rw [HR.out, HE.out]⟩
        case measure => simp [intOf]; omega
      · have hn : nmr x = false := by simpa using hn
        have HE := Lib.hid (runE_end (l := l) (i := k) (by rw [hbx, hn]; simp))
        clear hbx
        go_wp2_with (go_at_call 93; refine (numeral_is hn _).mono ?_; rintro e w' ⟨rfl, rfl⟩)
        go_ret
        exact ⟨ret_int (by rw [HR.out, HE.out]), rfl⟩
    · have HE := Lib.hid (runE_end (l := l) (i := k) (by have := HZ.out; omega))
      go_wp2
      go_ret
      exact ⟨ret_int (by rw [HR.out, HE.out]), rfl⟩
end Go.Proofs.YtdclhepjoifpiaaGreatDoor.De
/- The program's own closure that takes a text's beginning, walked. -/
namespace Go.Proofs.YtdclhepjoifpiaaGreatDoor.De
open Go.RowKit

/-- How many of the bytes from place k on are among W, up to place m. -/
def tk (W : List UInt8) (m : Nat) (r : List UInt8) (k : Nat) : Nat := if k < r.length ∧ k < m ∧ W.contains (r.getD k 0) = true then tk W m r (k + 1) else k
termination_by r.length - k
theorem tk_on {W r : List UInt8} {m k : Nat} (h1 : k < r.length) (h2 : k < m) (h3 : W.contains (r.getD k 0) = true) : tk W m r k = tk W m r (k + 1) := by rw [tk, if_pos ⟨h1, h2, h3⟩]
theorem tk_end {W r : List UInt8} {m k : Nat} (h : ¬ (k < r.length ∧ k < m ∧ W.contains (r.getD k 0) = true)) : tk W m r k = k := by rw [tk, if_neg h]
theorem ix_in {W : List UInt8} {c : UInt8} (h : W.contains c = true) : 0 ≤ Lib.indexByte W c := by
  have h1 := Lib.indexByte_ge W c
  rcases Int.lt_or_le (Lib.indexByte W c) 0 with h2 | h2
  · have := Lib.indexByte_none (l := W) (c := c) (by omega)
    obtain ⟨i, hi, e⟩ := List.mem_iff_getElem.1 (List.contains_iff_mem.1 h)
    exact absurd (by rw [List.getElem?_eq_getElem hi, e]) (this i)
  · exact h2
theorem ix_out {W : List UInt8} {c : UInt8} (h : W.contains c = false) : Lib.indexByte W c = -1 := by
  have h1 := Lib.indexByte_ge W c
  rcases Int.lt_or_le (Lib.indexByte W c) 0 with h2 | h2
  · omega
  · obtain ⟨o, ho⟩ : ∃ o : Nat, Lib.indexByte W c = o := ⟨(Lib.indexByte W c).toNat, by omega⟩
    have := (Lib.indexByte_some ho).1
    have hm : c ∈ W := List.mem_of_getElem? this
    rw [← List.contains_iff_mem] at hm
    rw [h] at hm; cases hm
theorem getD_bt {r : List UInt8} {k : Nat} : (bt r k).toNat.toUInt8 = r.getD k 0 := by
  unfold bt; simp
theorem indexByte_is {W : List UInt8} {s : ByteArray} {c y : Int} (hs : s = txt W) (hy : y = Lib.indexByte W c.toNat.toUInt8) (w : World) :
    Calls Tryz.prog 62 #[.string s, .int .u8 c] w fun e w' => e = .returned (.int .i64 y) ∧ w = w' := by
  subst hs; subst hy
  refine (Tryz.strings_IndexByte (txt W) c w).mono ?_
  rintro e w' ⟨rfl, rfl⟩
  exact ⟨rfl, rfl⟩

set_option maxHeartbeats 1000000 in
theorem take_any {W r : List UInt8} {wn t : ByteArray} (m b : Nat) (w : World) (hW : wn = txt W) (ht : t = txt r) (hb : w.heap[b]? = some (.cells #[.string t] 9 (0, 0))) (hr : r.length ≤ 1000000) (hm : m ≤ 1000000) :
    Calls Tryz.prog 105 #[.string wn, .int .i64 m, .pointer (some ⟨b, 0, none⟩)] w fun e w' => e = .returned (.string (txt (r.take (tk W m r 0)))) ∧ w' = w.setCell ⟨b, 0, none⟩ (.string (txt (r.drop (tk W m r 0)))) := by
  have HZ := Lib.hid (show t.size = r.length by rw [ht, txt_size])
  have HS := Lib.hid ht
  have HW := Lib.hid hW
  have hsz : t.size ≤ 1000000 := by have := HZ.out; omega
  have hc := cell_of_one hb
  have hf := free_of_one hb
  clear ht hW hb hr
  go_enter Tryz.func105, Tryz.ntmps105
  go_wp2
  go_loop [6] (fun j => ∃ k : Nat, k ≤ t.size ∧ j = .int .i64 k ∧ tk W m r 0 = tk W m r k) (fun j => t.size - (intOf j).toNat)
  case atStart => exact ⟨0, Nat.zero_le _, rfl, rfl⟩
  case round =>
    obtain ⟨k, hk, rfl, hkr⟩ := hrel
    have HR := Lib.hid hkr
    clear hkr
    have fin : ¬ (k < r.length ∧ k < m ∧ W.contains (r.getD k 0) = true) → txt (r.take (tk W m r 0)) = t.extract 0 k ∧ txt (r.drop (tk W m r 0)) = t.extract k t.size := by
      intro h
      rw [HR.out, tk_end h, HS.out]
      refine ⟨by rw [txt_cut]; rfl, ?_⟩
      rw [txt_cut, txt_size, List.take_length]
    have FIN := Lib.hid fin
    clear fin
    by_cases h1 : k < t.size
    · have hx := txt_at HS.out (k := k)
      by_cases h2 : k < m
      · by_cases h3 : W.contains (r.getD k 0) = true
        · have E := Lib.hid (tk_on (m := m) (by have := HZ.out; omega) h2 h3)
          obtain ⟨y, hy⟩ : ∃ y, y = Lib.indexByte W (bt r k).toNat.toUInt8 := ⟨_, rfl⟩
          have hy0 : 0 ≤ y := by rw [hy, getD_bt]; exact ix_in h3
          have HY := Lib.hid hy
          clear hy h3 FIN
          go_wp2_with (go_at_call 62; refine (indexByte_is HW.out HY.out _).mono ?_; rintro e w' ⟨rfl, rfl⟩)
          go_round
          case rel => exact ⟨k + 1, by omega, by go_num, by rw [HR.out, E.out]⟩
          case measure => simp [intOf]; omega
        · have h3 : W.contains (r.getD k 0) = false := by simpa using h3
          have F := Lib.hid (FIN.out (by rw [h3]; simp))
          obtain ⟨y, hy⟩ : ∃ y, y = Lib.indexByte W (bt r k).toNat.toUInt8 := ⟨_, rfl⟩
          have hy0 : y = -1 := by rw [hy, getD_bt]; exact ix_out h3
          subst hy0
          have HY := Lib.hid hy
          clear hy h3 FIN
          go_wp2_with (go_at_call 62; refine (indexByte_is HW.out HY.out _).mono ?_; rintro e w' ⟨rfl, rfl⟩)
          go_ret
          exact ⟨by rw [F.out.1]; rfl, by rw [F.out.2]⟩
      · have F := Lib.hid (FIN.out (by omega))
        clear FIN
        go_wp2
        go_ret
        exact ⟨by rw [F.out.1]; rfl, by rw [F.out.2]⟩
    · have F := Lib.hid (FIN.out (by have := HZ.out; omega))
      clear FIN
      go_wp2
      go_ret
      exact ⟨by rw [F.out.1]; rfl, by rw [F.out.2]⟩
end Go.Proofs.YtdclhepjoifpiaaGreatDoor.De
/- The document's answer on whether a text is a number's, walked. -/
namespace Go.Proofs.YtdclhepjoifpiaaGreatDoor.De
open Go.RowKit

/-- Where a number's parts begin and end. -/
def q0 (l : List UInt8) : Nat := if bt l 0 = 45 then 1 else 0
def q1 (l : List UInt8) : Nat := runE l (q0 l)
def bad1 (l : List UInt8) : Bool := decide (q1 l = q0 l ∨ bt l (q0 l) = 48 ∧ q0 l + 1 < q1 l)
def dot (l : List UInt8) : Bool := decide (bt l (q1 l) = 46)
def q2 (l : List UInt8) : Nat := if dot l = true then q1 l + 1 else q1 l
def q3 (l : List UInt8) : Nat := if dot l = true then runE l (q2 l) else q1 l
def exq (l : List UInt8) : Bool := decide (bt l (q3 l) = 101 ∨ bt l (q3 l) = 69)
def sgn (l : List UInt8) : Bool := decide (bt l (q3 l + 1) = 43 ∨ bt l (q3 l + 1) = 45)
def q4 (l : List UInt8) : Nat := if exq l = true then (if sgn l = true then q3 l + 1 + 1 else q3 l + 1) else q3 l
def q5 (l : List UInt8) : Nat := if exq l = true then runE l (q4 l) else q3 l
/-- Is it a number's text? -/
def isB (l : List UInt8) : Bool := !bad1 l && (!dot l || decide (q3 l ≠ q2 l)) && (!exq l || decide (q5 l ≠ q4 l)) && decide (q5 l = l.length)
theorem bt_far {l : List UInt8} {k : Nat} (h : l.length ≤ k) : bt l k = 0 := by simp [bt, List.getElem?_eq_none h]
def IsPost (w : World) (l : List UInt8) (e : Ending) (w' : World) : Prop :=
  ∃ a b c d f g : Int, e = .returned (.tuple #[.agg #[.int .i64 a, .int .i64 b, .int .i64 c, .int .i64 d, .int .i64 f, .int .i64 g], .bool (isB l)]) ∧
    (isB l = true → a = q0 l ∧ b = q1 l ∧ c = q2 l ∧ d = q3 l ∧ f = q4 l ∧ g = q5 l) ∧ Below w.heap.size w w'
abbrev six (a b c d e f : Int) : Obj := .cells #[.int .i64 a, .int .i64 b, .int .i64 c, .int .i64 d, .int .i64 e, .int .i64 f] 99

theorem run_is {l : List UInt8} {s : ByteArray} (i : Nat) (x y : Int) (w : World) (hs : s = txt l) (hi : i ≤ l.length) (hm : l.length ≤ 1000000) (hx : x = i) (hy : y = runE l i) :
    Calls Tryz.prog 76 #[.string s, .int .i64 x] w fun e w' => e = .returned (.int .i64 y) ∧ w = w' := by subst hx; subst hy; exact run_any i w hs hi hm
theorem below2 (w : World) (a b c d e f : Int) (a' b' c' d' e' f' : Int) : Below w.heap.size w ((w.alloc (six a b c d e f)).alloc (six a' b' c' d' e' f')) := ((Below.refl _ _).alloc (Nat.le_refl _) _).alloc (by simp) _
theorem q3_ge (l : List UInt8) : q1 l ≤ q3 l := by
  unfold q3; split
  · rename_i h
    have := runE_ge l (q2 l); unfold q2 at *; rw [if_pos h] at *; omega
  · exact Nat.le_refl _
theorem eqd (a b : Int) : (a == b) = decide (a = b) := by rw [Bool.eq_iff_iff]; simp
set_option maxHeartbeats 2000000 in
set_option maxRecDepth 100000 in
theorem is_any {l : List UInt8} {s : ByteArray} (w : World) (hs : s = txt l) (hm : l.length ≤ 1000000) :
    Calls Tryz.prog 51 #[.string s] w (IsPost w l) := by
  have HZ := Lib.hid (show s.size = l.length by rw [hs, txt_size])
  have HS := Lib.hid hs
  have hsz : s.size ≤ 1000000 := by have := HZ.out; omega
  have hq0 : q0 l ≤ s.size := by
    have := HZ.out
    unfold q0; split
    · rename_i h
      rcases Nat.eq_zero_or_pos l.length with h2 | h2
      · rw [bt_far (by omega)] at h; omega
      · omega
    · omega
  have hq1 : q1 l ≤ s.size := by have := HZ.out; have := runE_le l (q0 l) (by omega); unfold q1; omega
  have hq01 : q0 l ≤ q1 l := runE_ge l (q0 l)
  have hdl : dot l = true → q1 l < s.size := fun h => by
    have := HZ.out
    rcases Nat.lt_or_ge (q1 l) s.size with h2 | h2
    · exact h2
    · unfold dot at h; rw [bt_far (by omega)] at h; cases h
  have hq3 : q3 l ≤ s.size := by
    have := HZ.out
    unfold q3; split
    · rename_i h
      have h1 := hdl h
      have : q2 l = q1 l + 1 := by unfold q2; rw [if_pos h]
      have := runE_le l (q2 l) (by omega); omega
    · exact hq1
  have hel : exq l = true → q3 l < s.size := fun h => by
    have := HZ.out
    rcases Nat.lt_or_ge (q3 l) s.size with h2 | h2
    · exact h2
    · unfold exq at h; rw [bt_far (by omega)] at h; cases h
  have Hdl := Lib.hid hdl
  have Hel := Lib.hid hel
  clear hs hm hdl hel
  go_enter Tryz.func51, Tryz.ntmps51
  go_upto_region 3 with fail
  go_cut [15] (fun x wx => x = .bool (decide (bt l 0 = 45)) ∧ wx = (w.alloc (six 0 0 0 0 0 0)).alloc (six 0 0 0 0 0 0))
  case first =>
    by_cases h : 0 < s.size
    · have hx := txt_at HS.out (k := 0)
      go_wp2_with fail
      go_meet
      exact ⟨by rw [eqd], rfl⟩
    · have E := Lib.hid (bt_far (l := l) (k := 0) (by have := HZ.out; omega))
      go_wp2_with fail
      go_meet
      exact ⟨by rw [E.out]; rfl, rfl⟩
  case rest =>
    obtain ⟨rfl, rfl⟩ := hcut
    go_upto_if 15 with fail
    go_cut [5] (fun x wx => x = .int .i64 (q0 l : Int) ∧ wx = (w.alloc (six 0 0 0 0 0 0)).alloc (six 0 0 0 0 0 0))
    case first =>
      by_cases h : bt l 0 = 45
      · have E := Lib.hid (show q0 l = 1 by simp [q0, h])
        go_wp2_with fail
        go_meet
        exact ⟨by rw [E.out]; rfl, rfl⟩
      · have E := Lib.hid (show q0 l = 0 by simp [q0, h])
        go_wp2_with fail
        go_meet
        exact ⟨by rw [E.out]; rfl, rfl⟩
    case rest =>
      obtain ⟨rfl, rfl⟩ := hcut
      go_upto_region 8 with (go_at_call 76; refine (run_is (q0 l) _ (q1 l : Int) _ HS.out (by have := HZ.out; omega) (by have := HZ.out; omega) rfl rfl).mono ?_; rintro e w' ⟨rfl, rfl⟩)
      go_cut [44] (fun x wx => x = .bool (bad1 l) ∧ wx = (w.alloc (six 0 0 0 0 0 0)).alloc (six (q0 l) (q1 l) 0 0 0 0))
      case first =>
        by_cases g1 : q1 l = q0 l
        · have E := Lib.hid (show bad1 l = true by simp [bad1, g1])
          have g1' : ((q1 l : Int) == (q0 l : Int)) = true := by simp; omega
          clear g1
          go_wp2_with fail
          go_meet
          exact ⟨by rw [E.out], rfl⟩
        · have g1' : ((q1 l : Int) == (q0 l : Int)) = false := by simp; omega
          have g3 : q0 l < s.size := by omega
          have hx := txt_at HS.out (k := q0 l)
          by_cases g2 : bt l (q0 l) = 48
          · by_cases g4 : (q0 l : Int) + 1 < q1 l
            · have E := Lib.hid (show bad1 l = true by simp [bad1, g2]; omega)
              go_wp2_with fail
              go_meet
              exact ⟨by rw [E.out], rfl⟩
            · have E := Lib.hid (show bad1 l = false by simp [bad1, g2, g1]; omega)
              go_wp2_with fail
              go_meet
              exact ⟨by rw [E.out], rfl⟩
          · have E := Lib.hid (show bad1 l = false by simp [bad1, g2, g1])
            go_wp2_with fail
            go_meet
            exact ⟨by rw [E.out], rfl⟩
      case rest =>
        obtain ⟨rfl, rfl⟩ := hcut
        by_cases hbad : bad1 l = true
        · have E : isB l = false := by simp [isB, hbad]
          rw [hbad]
          clear hbad
          go_wp2_with fail
          refine bodyPost_ret (v := .tuple #[.agg #[.int .i64 (q0 l), .int .i64 (q1 l), .int .i64 0, .int .i64 0, .int .i64 0, .int .i64 0], .bool false]) (by simp [results, Tryz.results51, go_sem]) rfl ?_
          exact ⟨_, _, _, _, _, _, by rw [E], fun h => by rw [E] at h; (cases h), below2 ..⟩
        · have hbad : bad1 l = false := by simpa using hbad
          rw [hbad]
          go_upto_region 12 with fail
          go_cut [59] (fun x wx => x = .bool (dot l) ∧ wx = (w.alloc (six 0 0 0 0 0 0)).alloc (six (q0 l) (q1 l) (q1 l) (q1 l) 0 0))
          case first =>
            by_cases h : q1 l < s.size
            · have hx := txt_at HS.out (k := q1 l)
              go_wp2_with fail
              go_meet
              exact ⟨by rw [eqd]; rfl, rfl⟩
            · have E := Lib.hid (show dot l = false by unfold dot; rw [bt_far (by have := HZ.out; omega)]; rfl)
              go_wp2_with fail
              go_meet
              exact ⟨by rw [E.out], rfl⟩
          case rest =>
            obtain ⟨rfl, rfl⟩ := hcut
            go_upto_if 59 with fail
            go_cut [5] (fun x wx => x = .int .i64 (q3 l : Int) ∧ (dot l = true → q3 l ≠ q2 l) ∧ wx = (w.alloc (six 0 0 0 0 0 0)).alloc (six (q0 l) (q1 l) (q2 l) (q3 l) 0 0))
            case first =>
              by_cases hdot : dot l = true
              · have h1 := Hdl.out hdot
                have e2 : q2 l = q1 l + 1 := by unfold q2; rw [if_pos hdot]
                have e3 : q3 l = runE l (q1 l + 1) := by unfold q3; rw [if_pos hdot, e2]
                have HE2 := Lib.hid e2
                have HE3 := Lib.hid e3
                have HD := Lib.hid hdot
                rw [hdot]
                by_cases g : q3 l = q2 l
                · have E : isB l = false := by simp [isB, hdot, g]
                  have g1 : ((q3 l : Int) == (q1 l : Int) + 1) = true := by rw [eqd]; simp; omega
                  clear hdot e2 e3 g
                  go_wp2_with (go_at_call 76; refine (run_is (q1 l + 1) _ (q3 l : Int) _ HS.out (by have := HZ.out; omega) (by have := HZ.out; omega) (by omega) (by rw [HE3.out])).mono ?_; rintro e w' ⟨rfl, rfl⟩)
                  refine bodyPost_ret (v := .tuple #[.agg #[.int .i64 (q0 l), .int .i64 (q1 l), .int .i64 ((q1 l : Int) + 1), .int .i64 (q3 l), .int .i64 0, .int .i64 0], .bool false]) (by simp [results, Tryz.results51, go_sem]) rfl ?_
                  exact ⟨_, _, _, _, _, _, by rw [E], fun h => by rw [E] at h; (cases h), below2 ..⟩
                · have g1 : ((q3 l : Int) == (q1 l : Int) + 1) = false := by rw [eqd]; simp; omega
                  have HG := Lib.hid g
                  clear hdot e2 e3 g
                  go_wp2_with (go_at_call 76; refine (run_is (q1 l + 1) _ (q3 l : Int) _ HS.out (by have := HZ.out; omega) (by have := HZ.out; omega) (by omega) (by rw [HE3.out])).mono ?_; rintro e w' ⟨rfl, rfl⟩)
                  go_meet
                  exact ⟨rfl, fun _ => HG.out, by rw [show ((q2 l : Nat) : Int) = (q1 l : Int) + 1 by have := HE2.out; omega]⟩
              · have hdot : dot l = false := by simpa using hdot
                have e2 : q2 l = q1 l := by unfold q2; rw [if_neg (by rw [hdot]; simp)]
                have e3 : q3 l = q1 l := by unfold q3; rw [if_neg (by rw [hdot]; simp)]
                have HE2 := Lib.hid e2
                have HE3 := Lib.hid e3
                have HD := Lib.hid hdot
                rw [hdot]
                clear hdot e2 e3
                go_wp2_with fail
                go_meet
                exact ⟨by rw [HE3.out], fun h => by rw [HD.out] at h; (cases h), by rw [HE2.out, HE3.out]⟩
            case rest =>
              obtain ⟨rfl, hdg, rfl⟩ := hcut
              have HDG := Lib.hid hdg
              clear hdg
              go_upto_region 20 with fail
              go_cut [95] (fun x wx => x = .bool (exq l) ∧ wx = (w.alloc (six 0 0 0 0 0 0)).alloc (six (q0 l) (q1 l) (q2 l) (q3 l) (q3 l) (q3 l)))
              case first =>
                by_cases h : q3 l < s.size
                · have hx := txt_at HS.out (k := q3 l)
                  by_cases g : bt l (q3 l) = 101
                  · have E := Lib.hid (show exq l = true by simp [exq, g])
                    go_wp2_with fail
                    go_meet
                    exact ⟨by rw [E.out], rfl⟩
                  · have E := Lib.hid (show exq l = decide (bt l (q3 l) = 69) by simp [exq, g])
                    go_wp2_with fail
                    go_meet
                    exact ⟨by rw [E.out, eqd, eqd]; simp [g], rfl⟩
                · have E := Lib.hid (show exq l = false by unfold exq; rw [bt_far (by have := HZ.out; omega)]; rfl)
                  go_wp2_with fail
                  go_meet
                  exact ⟨by rw [E.out], rfl⟩
              case rest =>
                obtain ⟨rfl, rfl⟩ := hcut
                go_upto_if 95 with fail
                go_cut [5] (fun x wx => x = .int .i64 (q5 l : Int) ∧ (exq l = true → q5 l ≠ q4 l) ∧ wx = (w.alloc (six 0 0 0 0 0 0)).alloc (six (q0 l) (q1 l) (q2 l) (q3 l) (q4 l) (q5 l)))
                case first =>
                  by_cases hexq : exq l = true
                  · have h1 := Hel.out hexq
                    have e5 : q5 l = runE l (q4 l) := by unfold q5; rw [if_pos hexq]
                    have e4 : q4 l = if sgn l = true then q3 l + 1 + 1 else q3 l + 1 := by unfold q4; rw [if_pos hexq]
                    have h4 : q4 l ≤ s.size := by
                      rw [e4]; split
                      · rename_i hsg
                        have := HZ.out
                        rcases Nat.lt_or_ge (q3 l + 1) s.size with h2 | h2
                        · omega
                        · unfold sgn at hsg; rw [bt_far (by omega)] at hsg; cases hsg
                      · omega
                    have HE5 := Lib.hid e5
                    have HE4 := Lib.hid e4
                    have HX := Lib.hid hexq
                    rw [hexq]
                    clear hexq e5 e4
                    go_upto_region 22 with fail
                    go_cut [113] (fun x wx => x = .bool (sgn l) ∧ wx = (w.alloc (six 0 0 0 0 0 0)).alloc (six (q0 l) (q1 l) (q2 l) (q3 l) (q3 l) (q3 l)))
                    case first =>
                      by_cases h : q3 l + 1 < s.size
                      · have hx := txt_at HS.out (k := q3 l + 1)
                        by_cases g : bt l (q3 l + 1) = 43
                        · have E := Lib.hid (show sgn l = true by simp [sgn, g])
                          go_wp2_with fail
                          go_meet
                          exact ⟨by rw [E.out], rfl⟩
                        · have E := Lib.hid (show sgn l = decide (bt l (q3 l + 1) = 45) by simp [sgn, g])
                          go_wp2_with fail
                          go_meet
                          exact ⟨by rw [E.out, eqd, eqd]; simp [g], rfl⟩
                      · have E := Lib.hid (show sgn l = false by unfold sgn; rw [bt_far (by have := HZ.out; omega)]; rfl)
                        go_wp2_with fail
                        go_meet
                        exact ⟨by rw [E.out], rfl⟩
                    case rest =>
                      obtain ⟨rfl, rfl⟩ := hcut
                      go_upto_if 113 with fail
                      go_cut [5] (fun x wx => x = .int .i64 (q4 l : Int) ∧ wx = (w.alloc (six 0 0 0 0 0 0)).alloc (six (q0 l) (q1 l) (q2 l) (q3 l) (q3 l) (q3 l)))
                      case first =>
                        by_cases h : sgn l = true
                        · have E := Lib.hid (show q4 l = q3 l + 1 + 1 by rw [HE4.out, if_pos h])
                          rw [h]
                          clear h
                          go_wp2_with fail
                          go_meet
                          exact ⟨by rw [E.out]; rfl, rfl⟩
                        · have E := Lib.hid (show q4 l = q3 l + 1 by rw [HE4.out, if_neg h])
                          have h : sgn l = false := by simpa using h
                          rw [h]
                          clear h
                          go_wp2_with fail
                          go_meet
                          exact ⟨by rw [E.out]; rfl, rfl⟩
                      case rest =>
                        obtain ⟨rfl, rfl⟩ := hcut
                        by_cases g : q5 l = q4 l
                        · have E : isB l = false := by simp [isB, HX.out, g]
                          have g1 : ((q5 l : Int) == (q4 l : Int)) = true := by rw [eqd]; simp; omega
                          clear g
                          go_wp2_with (go_at_call 76; refine (run_is (q4 l) _ (q5 l : Int) _ HS.out (by have := HZ.out; omega) (by have := HZ.out; omega) rfl (by rw [HE5.out])).mono ?_; rintro e w' ⟨rfl, rfl⟩)
                          refine bodyPost_ret (v := .tuple #[.agg #[.int .i64 (q0 l), .int .i64 (q1 l), .int .i64 (q2 l), .int .i64 (q3 l), .int .i64 (q4 l), .int .i64 (q5 l)], .bool false]) (by simp [results, Tryz.results51, go_sem]) rfl ?_
                          exact ⟨_, _, _, _, _, _, by rw [E], fun h => by rw [E] at h; (cases h), below2 ..⟩
                        · have g1 : ((q5 l : Int) == (q4 l : Int)) = false := by rw [eqd]; simp; omega
                          have HG := Lib.hid g
                          clear g
                          go_wp2_with (go_at_call 76; refine (run_is (q4 l) _ (q5 l : Int) _ HS.out (by have := HZ.out; omega) (by have := HZ.out; omega) rfl (by rw [HE5.out])).mono ?_; rintro e w' ⟨rfl, rfl⟩)
                          go_meet
                          exact ⟨rfl, fun _ => HG.out, rfl⟩
                  · have hexq : exq l = false := by simpa using hexq
                    have e4 : q4 l = q3 l := by unfold q4; rw [if_neg (by rw [hexq]; simp)]
                    have e5 : q5 l = q3 l := by unfold q5; rw [if_neg (by rw [hexq]; simp)]
                    have HE4 := Lib.hid e4
                    have HE5 := Lib.hid e5
                    have HX := Lib.hid hexq
                    rw [hexq]
                    clear hexq e4 e5
                    go_wp2_with fail
                    go_meet
                    exact ⟨by rw [HE5.out], fun h => by rw [HX.out] at h; (cases h), by rw [HE4.out, HE5.out]⟩
                case rest =>
                  obtain ⟨rfl, heg, rfl⟩ := hcut
                  have HEG := Lib.hid heg
                  clear heg
                  have HB := Lib.hid hbad
                  clear hbad
                  have E := Lib.hid (show isB l = ((q5 l : Int) == (s.size : Int)) by
                    have hz := HZ.out
                    have h1 : (!dot l || decide (q3 l ≠ q2 l)) = true := by
                      cases h : dot l
                      · rfl
                      · simp [HDG.out h]
                    have h2 : (!exq l || decide (q5 l ≠ q4 l)) = true := by
                      cases h : exq l
                      · rfl
                      · simp [HEG.out h]
                    unfold isB
                    rw [HB.out, h1, h2, hz, eqd]
                    simp only [Bool.not_false, Bool.true_and, Int.natCast_inj])
                  go_wp2_with fail
                  refine bodyPost_ret (v := .tuple #[.agg #[.int .i64 (q0 l), .int .i64 (q1 l), .int .i64 (q2 l), .int .i64 (q3 l), .int .i64 (q4 l), .int .i64 (q5 l)], .bool ((q5 l : Int) == (s.size : Int))]) (by simp [results, Tryz.results51, go_sem]) rfl ?_
                  exact ⟨_, _, _, _, _, _, by rw [E.out], fun _ => ⟨rfl, rfl, rfl, rfl, rfl, rfl⟩, below2 ..⟩
end Go.Proofs.YtdclhepjoifpiaaGreatDoor.De
/- The written exponent, walked. -/
namespace Go.Proofs.YtdclhepjoifpiaaGreatDoor.De
open Go.RowKit

/-- The numerals from i to e, onto n; none: beyond bounds on the way. -/
def powA (l : List UInt8) (e i : Nat) (n : Int) : Option Int :=
  if i < e then (if 10 * n + (bt l i - 48) > 1000000000 then none else powA l e (i + 1) (10 * n + (bt l i - 48))) else some n
termination_by e - i
/-- The written exponent, and whether it is within bounds. -/
def powR (l : List UInt8) (i e : Nat) : Int × Bool := match powA l e i 0 with
  | none => (0, false)
  | some n => (if i < e ∧ bt l (i - 1) = 45 then -n else n, true)
theorem powA_end {l : List UInt8} {e i : Nat} {n : Int} (h : ¬ i < e) : powA l e i n = some n := by rw [powA, if_neg h]
theorem powA_big {l : List UInt8} {e i : Nat} {n : Int} (h : i < e) (h2 : 10 * n + (bt l i - 48) > 1000000000) : powA l e i n = none := by rw [powA, if_pos h, if_pos h2]
theorem powA_on {l : List UInt8} {e i : Nat} {n : Int} (h : i < e) (h2 : ¬ 10 * n + (bt l i - 48) > 1000000000) : powA l e i n = powA l e (i + 1) (10 * n + (bt l i - 48)) := by rw [powA, if_pos h, if_neg h2]
theorem ret_ib' {a b : Int} {p q : Bool} (h : (a, p) = (b, q)) : Ending.returned (.tuple #[.int .i64 a, .bool p]) = .returned (.tuple #[.int .i64 b, .bool q]) := by cases h; rfl

set_option maxHeartbeats 1000000 in
theorem power_any {l : List UInt8} {s : ByteArray} (a b c d : Int) (i e : Nat) (w : World) (hs : s = txt l) (hi : i ≤ e) (he : e ≤ l.length) (hm : l.length ≤ 1000000)
    (hn : ∀ k, i ≤ k → k < e → nmr (bt l k) = true) (h1 : i < e → 1 ≤ i) :
    Calls Tryz.prog 52 #[.string s, .agg #[.int .i64 a, .int .i64 b, .int .i64 c, .int .i64 d, .int .i64 i, .int .i64 e]] w fun en w' => en = .returned (.tuple #[.int .i64 (powR l i e).1, .bool (powR l i e).2]) ∧ w' = w.alloc (.cells #[.int .i64 a, .int .i64 b, .int .i64 c, .int .i64 d, .int .i64 i, .int .i64 e] 99) := by
  have HZ := Lib.hid (show s.size = l.length by rw [hs, txt_size])
  have HS := Lib.hid hs
  have HN := Lib.hid hn
  have hsz : s.size ≤ 1000000 := by have := HZ.out; omega
  have hes : e ≤ s.size := by have := HZ.out; omega
  clear hs hm hn he
  go_enter Tryz.func52, Tryz.ntmps52
  go_wp2_with fail
  go_loop [6, 7] (fun m j => ∃ (n : Int) (k : Nat), i ≤ k ∧ k ≤ e ∧ 0 ≤ n ∧ n ≤ 1000000000 ∧ m = .int .i64 n ∧ j = .int .i64 k ∧ powA l e i 0 = powA l e k n) (fun _ j => e - (intOf j).toNat)
  case atStart => exact ⟨0, i, Nat.le_refl _, hi, by omega, by omega, rfl, rfl, rfl⟩
  case round =>
    obtain ⟨n, k, hk1, hk2, hn1, hn2, rfl, rfl, hr⟩ := hrel
    have HR := Lib.hid hr
    clear hr
    by_cases hlt : k < e
    · have hx := txt_at HS.out (k := k)
      have hnm := HN.out k hk1 hlt
      have h48 : 48 ≤ bt l k ∧ bt l k ≤ 57 := by simpa [nmr] using hnm
      clear hnm
      by_cases hbig : 10 * n + (bt l k - 48) > 1000000000
      · have E := Lib.hid (show powR l i e = (0, false) by unfold powR; rw [HR.out, powA_big hlt hbig])
        go_wp2_with fail
        refine bodyPost_ret (v := .tuple #[.int .i64 0, .bool false]) (by simp [results, Tryz.results52, go_sem]) rfl ?_
        exact ⟨ret_ib' (by rw [E.out]), rfl⟩
      · have E := Lib.hid (powA_on hlt hbig)
        go_wp2_with fail
        go_round
        case rel => exact ⟨10 * n + (bt l k - 48), k + 1, by omega, by omega, by omega, by omega, by go_num, by go_num, by rw [HR.out, E.out]⟩
        case measure => simp [intOf]; omega
    · have E := Lib.hid (show powR l i e = (if i < e ∧ bt l (i - 1) = 45 then -n else n, true) by unfold powR; rw [HR.out, powA_end hlt])
      by_cases hie : i < e
      · have h1' := h1 hie
        obtain ⟨i', rfl⟩ : ∃ i', i = i' + 1 := ⟨i - 1, by omega⟩
        have hx := txt_at HS.out (k := i')
        by_cases g : bt l i' = 45
        · have E2 := Lib.hid (show powR l (i' + 1) e = (-n, true) by rw [E.out, if_pos ⟨hie, by simpa using g⟩])
          go_wp2_with fail
          refine bodyPost_ret (v := .tuple #[.int .i64 (-n), .bool true]) (by simp [results, Tryz.results52, go_sem]) rfl ?_
          exact ⟨ret_ib' (by rw [E2.out]), rfl⟩
        · have E2 := Lib.hid (show powR l (i' + 1) e = (n, true) by rw [E.out, if_neg (fun h => g (by simpa using h.2))])
          go_wp2_with fail
          refine bodyPost_ret (v := .tuple #[.int .i64 n, .bool true]) (by simp [results, Tryz.results52, go_sem]) rfl ?_
          exact ⟨ret_ib' (by rw [E2.out]), rfl⟩
      · have E2 := Lib.hid (show powR l i e = (n, true) by rw [E.out, if_neg (fun h => hie h.1)])
        go_wp2_with fail
        refine bodyPost_ret (v := .tuple #[.int .i64 n, .bool true]) (by simp [results, Tryz.results52, go_sem]) rfl ?_
        exact ⟨ret_ib' (by rw [E2.out]), rfl⟩
end Go.Proofs.YtdclhepjoifpiaaGreatDoor.De
/- The document's answer on a number's numerals, walked: it calls itself. -/
namespace Go.Proofs.YtdclhepjoifpiaaGreatDoor.De
open Go.RowKit

/-- A number's numerals. -/
def itoN (n : Nat) : List UInt8 := if n < 10 then [UInt8.ofNat (48 + n)] else itoN (n / 10) ++ [UInt8.ofNat (48 + n % 10)]
def itoL (n : Int) : List UInt8 := if n < 0 then 45 :: itoN (-n).toNat else itoN n.toNat
theorem itoN_lt {n : Nat} (h : n < 10) : itoN n = [UInt8.ofNat (48 + n)] := by rw [itoN, if_pos h]
theorem itoN_ge {n : Nat} (h : ¬ n < 10) : itoN n = itoN (n / 10) ++ itoN (n % 10) := by rw [itoN, if_neg h, itoN_lt (n := n % 10) (by omega)]

theorem itoN_len (n : Nat) : (itoN n).length ≤ n + 1 := by
  induction n using Nat.strongRecOn with
  | ind n ih =>
    by_cases h : n < 10
    · rw [itoN_lt h]; simp
    · rw [itoN, if_neg h]
      have := ih (n / 10) (by omega)
      simp; omega
theorem itoa_small (n : Nat) (hn : n < 10) (w : World) : Calls Tryz.prog 53 #[.int .i64 n] w fun e w' => e = .returned (.string (txt (itoN n))) ∧ Below w.heap.size w w' := by
  have h1 : ¬ (n : Int) < 0 := by omega
  have h2 : (n : Int) < 10 := by omega
  have e1 : IntKind.u8.wrap (48 + (n : Int)) = 48 + n := by rw [show IntKind.u8.wrap (48 + (n : Int)) = (48 + (n : Int)) % 256 by simp [IntKind.wrap, IntKind.bits, IntKind.signed]]; omega
  have hcv : (convert 22 9 (.slice (some ⟨w.heap.size, 0, none⟩) 1 1)).run Tryz.prog (w.alloc (.cells #[.int .u8 (48 + (n : Int))] 5)) = .ok (.string (txt (itoN n))) (w.alloc (.cells #[.int .u8 (48 + (n : Int))] 5)) := by
    have := run_convert_bytes_arg (P := Tryz.prog) (w.alloc (.cells #[.int .u8 (48 + (n : Int))] 5)) 22 5 Tryz.underlying22 Tryz.underlying5 w.heap.size 0 1 1 [48 + (n : Int)] rfl (fun i hi => by
      obtain rfl : i = 0 := by omega
      rw [World.cell?_alloc_at _ _ _ _ rfl]; rfl) 9 Tryz.underlying9
    rw [this, itoN_lt hn]
    have e : (48 + (n : Int)).toNat = 48 + n := by omega
    simp [strOfNums, txt, e]
  go_enter Tryz.func53, Tryz.ntmps53
  go_wp2
  go_ret
  exact ⟨rfl, (Below.refl _ _).alloc (Nat.le_refl _) _⟩
theorem itoa_nat (n : Nat) (hn : n ≤ 1000000000000000000) : ∀ (x : Int) (w : World), x = n → Calls Tryz.prog 53 #[.int .i64 x] w fun e w' => e = .returned (.string (txt (itoN n))) ∧ Below w.heap.size w w' := by
  induction n using Nat.strongRecOn with
  | ind n ih =>
    intro x w hx
    subst hx
    by_cases h : n < 10
    · exact itoa_small n h w
    · have h1 : ¬ (n : Int) < 0 := by omega
      have h2 : ¬ (n : Int) < 10 := by omega
      have h0 : (0 : Int) ≤ n := by omega
      have hb : (n : Int) ≤ 1000000000000000000 := by omega
      have E := txt_app (itoN (n / 10)) (itoN (n % 10))
      rw [← itoN_ge h] at E
      have I1 := ih (n / 10) (by omega) (by omega)
      have I2 := ih (n % 10) (by omega) (by omega)
      have s1 : (txt (itoN (n / 10))).size ≤ 1000000000000000001 := by have := itoN_len (n / 10); rw [txt_size]; omega
      have s2 : (txt (itoN (n % 10))).size ≤ 1000000000000000001 := by have := itoN_len (n % 10); rw [txt_size]; omega
      generalize txt (itoN (n / 10)) = A at *
      generalize txt (itoN (n % 10)) = B at *
      replace E := Lib.hid E
      replace I1 := Lib.hid I1
      replace I2 := Lib.hid I2
      clear ih
      go_enter Tryz.func53, Tryz.ntmps53
      go_wp2_with fail
      refine (I1.out _ _ (by omega)).mono ?_
      rintro e w1 ⟨rfl, hb1⟩
      go_wp2_with fail
      refine (I2.out _ _ (by omega)).mono ?_
      rintro e w2 ⟨rfl, hb2⟩
      go_wp2_with fail
      go_ret
      exact ⟨ret_str E.out, hb1.trans (hb2.mono hb1.size)⟩
theorem itoa_any (n : Int) (h1 : -1000000000000000000 ≤ n) (h2 : n ≤ 1000000000000000000) (w : World) : Calls Tryz.prog 53 #[.int .i64 n] w fun e w' => e = .returned (.string (txt (itoL n))) ∧ Below w.heap.size w w' := by
  by_cases h : n < 0
  · have E : txt [45] ++ txt (itoN (-n).toNat) = txt (itoL n) := by rw [txt_app, itoL, if_pos h]; rfl
    have I := itoa_nat (-n).toNat (by omega)
    have s1 : (txt (itoN (-n).toNat)).size ≤ 1000000000000000001 := by have := itoN_len (-n).toNat; rw [txt_size]; omega
    generalize txt (itoN (-n).toNat) = A at *
    replace E := Lib.hid E
    replace I := Lib.hid I
    go_enter Tryz.func53, Tryz.ntmps53
    go_wp2_with fail
    refine (I.out _ _ (by omega)).mono ?_
    rintro e w1 ⟨rfl, hb1⟩
    go_wp2_with fail
    go_ret
    exact ⟨ret_str E.out, hb1⟩
  · rw [itoL, if_neg h]
    exact itoa_nat n.toNat (by omega) n w (by omega)
end Go.Proofs.YtdclhepjoifpiaaGreatDoor.De
/- The document's answer on Read, walked. -/
namespace Go.Proofs.YtdclhepjoifpiaaGreatDoor.De
open Go.RowKit

/-- The noughts at an end taken off. -/
def trimR (d : List UInt8) : List UInt8 := if 0 < d.length ∧ bt d (d.length - 1) = 48 then trimR (d.take (d.length - 1)) else d
termination_by d.length
decreasing_by simp; omega
def trimL (d : List UInt8) : List UInt8 := if 0 < d.length ∧ bt d 0 = 48 then trimL (d.drop 1) else d
termination_by d.length
decreasing_by simp; omega
/-- The numerals ahead of and behind the point. -/
def rdD (l : List UInt8) : List UInt8 := (l.take (q1 l)).drop (q0 l) ++ (l.take (q3 l)).drop (q2 l)
def rdT (l : List UInt8) : List UInt8 := trimL (trimR (rdD l))
/-- The exponent of the normal form. -/
def rdN (l : List UInt8) : Int := (powR l (q4 l) (q5 l)).1 - ((q3 l : Int) - q2 l) + (((rdD l).length : Int) - (trimR (rdD l)).length)
/-- The document's answer: text and code. -/
def rd (l : List UInt8) : List UInt8 × Int :=
  if isB l = false then ([], 3) else
  if (powR l (q4 l) (q5 l)).2 = false then ([], 7) else
  if rdT l = [] then ([48], 0) else
  if rdN l > 1000000000 ∨ rdN l < -1000000000 then ([], 7) else
  ((if bt l 0 = 45 then [45] else []) ++ rdT l ++ [101] ++ itoL (rdN l), 0)

theorem runE_nmr (l : List UInt8) (i : Nat) : ∀ k, i ≤ k → k < runE l i → nmr (bt l k) = true := by
  intro k hk hk2
  by_cases h : i < l.length ∧ nmr (bt l i) = true
  · rw [runE_on h.1 h.2] at hk2
    rcases Nat.eq_or_lt_of_le hk with h3 | h3
    · rw [← h3]; exact h.2
    · exact runE_nmr l (i + 1) k h3 hk2
  · rw [runE_end h] at hk2; omega
termination_by l.length - i
/-- What lies where. -/
theorem q_order {l : List UInt8} : q0 l ≤ q1 l ∧ q1 l ≤ q2 l ∧ q2 l ≤ q3 l ∧ q3 l ≤ q4 l ∧ q4 l ≤ q5 l ∧ q5 l ≤ l.length ∧ (q4 l < q5 l → 1 ≤ q4 l) ∧ ∀ k, q4 l ≤ k → k < q5 l → nmr (bt l k) = true := by
  have h0 : q0 l ≤ l.length := by
    unfold q0; split
    · rename_i h
      rcases Nat.eq_zero_or_pos l.length with h2 | h2
      · rw [bt_far (by omega)] at h; omega
      · omega
    · omega
  have h1 : q1 l ≤ l.length := runE_le l (q0 l) h0
  have h2 : q2 l ≤ l.length := by
    unfold q2; split
    · rename_i h
      rcases Nat.lt_or_ge (q1 l) l.length with h2 | h2
      · exact h2
      · unfold dot at h; rw [bt_far (by omega)] at h; cases h
    · exact h1
  have h23 : q2 l ≤ q3 l ∧ q3 l ≤ l.length := by
    unfold q3; split
    · exact ⟨runE_ge .., runE_le l _ h2⟩
    · rename_i h
      unfold q2; rw [if_neg h]; exact ⟨Nat.le_refl _, h1⟩
  have h4 : q3 l ≤ q4 l ∧ q4 l ≤ l.length := by
    unfold q4; split
    · rename_i h
      have hl : q3 l < l.length := by
        rcases Nat.lt_or_ge (q3 l) l.length with h2 | h2
        · exact h2
        · unfold exq at h; rw [bt_far (by omega)] at h; cases h
      split
      · rename_i hsg
        rcases Nat.lt_or_ge (q3 l + 1) l.length with h2 | h2
        · omega
        · unfold sgn at hsg; rw [bt_far (by omega)] at hsg; cases hsg
      · omega
    · omega
  have h5 : q4 l ≤ q5 l ∧ q5 l ≤ l.length ∧ (q4 l < q5 l → 1 ≤ q4 l) ∧ ∀ k, q4 l ≤ k → k < q5 l → nmr (bt l k) = true := by
    by_cases h : exq l = true
    · have e : q5 l = runE l (q4 l) := by unfold q5; rw [if_pos h]
      rw [e]
      refine ⟨runE_ge .., runE_le l _ h4.2, fun _ => ?_, runE_nmr l _⟩
      unfold q4; rw [if_pos h]; split <;> omega
    · have e : q5 l = q4 l := by unfold q5 q4; rw [if_neg h, if_neg h]
      rw [e]
      exact ⟨Nat.le_refl _, h4.2, fun h => by omega, fun k h1 h2 => by omega⟩
  exact ⟨runE_ge .., by unfold q2; split <;> omega, h23.1, h4.1, h5⟩
theorem powA_range (l : List UInt8) (e i : Nat) (n : Int) (hn : 0 ≤ n) (hb : n ≤ 1000000000) (hd : ∀ k, i ≤ k → k < e → nmr (bt l k) = true) : ∀ m, powA l e i n = some m → 0 ≤ m ∧ m ≤ 1000000000 := by
  intro m hm
  by_cases h : i < e
  · by_cases h2 : 10 * n + (bt l i - 48) > 1000000000
    · rw [powA_big h h2] at hm; cases hm
    · rw [powA_on h h2] at hm
      have h3 : 48 ≤ bt l i ∧ bt l i ≤ 57 := by simpa [nmr] using hd i (Nat.le_refl _) h
      exact powA_range l e (i + 1) _ (by omega) (by omega) (fun k h1 h2 => hd k (by omega) h2) m hm
  · rw [powA_end h] at hm; cases hm; exact ⟨hn, hb⟩
termination_by e - i
theorem powR_range (l : List UInt8) (i e : Nat) (hd : ∀ k, i ≤ k → k < e → nmr (bt l k) = true) : -1000000000 ≤ (powR l i e).1 ∧ (powR l i e).1 ≤ 1000000000 := by
  unfold powR
  split
  · simp
  · rename_i n h
    have := powA_range l e i 0 (by omega) (by omega) hd n h
    dsimp only
    split <;> omega
theorem trimR_on {d : List UInt8} (h : 0 < d.length) (h2 : bt d (d.length - 1) = 48) : trimR d = trimR (d.take (d.length - 1)) := by rw [trimR, if_pos ⟨h, h2⟩]
theorem trimR_end {d : List UInt8} (h : ¬ (0 < d.length ∧ bt d (d.length - 1) = 48)) : trimR d = d := by rw [trimR, if_neg h]
theorem trimL_on {d : List UInt8} (h : 0 < d.length) (h2 : bt d 0 = 48) : trimL d = trimL (d.drop 1) := by rw [trimL, if_pos ⟨h, h2⟩]
theorem trimL_end {d : List UInt8} (h : ¬ (0 < d.length ∧ bt d 0 = 48)) : trimL d = d := by rw [trimL, if_neg h]
theorem trimR_len (d : List UInt8) : (trimR d).length ≤ d.length := by
  by_cases h : 0 < d.length ∧ bt d (d.length - 1) = 48
  · rw [trimR_on h.1 h.2]; have := trimR_len (d.take (d.length - 1)); simp at *; omega
  · rw [trimR_end h]; exact Nat.le_refl _
termination_by d.length
decreasing_by simp; omega
theorem trimL_len (d : List UInt8) : (trimL d).length ≤ d.length := by
  by_cases h : 0 < d.length ∧ bt d 0 = 48
  · rw [trimL_on h.1 h.2]; have := trimL_len (d.drop 1); simp at *; omega
  · rw [trimL_end h]; exact Nat.le_refl _
termination_by d.length
decreasing_by simp; omega
theorem txt_take (d : List UInt8) (n : Nat) : (txt d).extract 0 n = txt (d.take n) := by rw [txt_cut]; rfl
theorem txt_drop (d : List UInt8) (i : Nat) : (txt d).extract i (txt d).size = txt (d.drop i) := by rw [txt_cut, txt_size, List.take_length]
theorem rdD_len (l : List UInt8) : (rdD l).length ≤ 2 * l.length := by simp [rdD]; omega
theorem belowDrewN {B : Nat} {a w : World} (h : Below B a w) (k : Nat) : Below B a (w.drewN k) := ⟨h.os, h.tape, h.output, h.size, h.block⟩
theorem rd_syntax {l : List UInt8} (h : isB l = false) : rd l = ([], 3) := by unfold rd; rw [if_pos h]
theorem rd_exp {l : List UInt8} (h : isB l = true) (h2 : (powR l (q4 l) (q5 l)).2 = false) : rd l = ([], 7) := by unfold rd; rw [if_neg (by rw [h]; simp), if_pos h2]
theorem rd_zero {l : List UInt8} (h : isB l = true) (h2 : (powR l (q4 l) (q5 l)).2 = true) (h3 : rdT l = []) : rd l = ([48], 0) := by unfold rd; rw [if_neg (by rw [h]; simp), if_neg (by rw [h2]; simp), if_pos h3]
theorem rd_far {l : List UInt8} (h : isB l = true) (h2 : (powR l (q4 l) (q5 l)).2 = true) (h3 : rdT l ≠ []) (h4 : rdN l > 1000000000 ∨ rdN l < -1000000000) : rd l = ([], 7) := by
  unfold rd; rw [if_neg (by rw [h]; simp), if_neg (by rw [h2]; simp), if_neg h3, if_pos h4]
theorem rd_ok {l : List UInt8} (h : isB l = true) (h2 : (powR l (q4 l) (q5 l)).2 = true) (h3 : rdT l ≠ []) (h4 : ¬ (rdN l > 1000000000 ∨ rdN l < -1000000000)) : rd l = ((if bt l 0 = 45 then [45] else []) ++ rdT l ++ [101] ++ itoL (rdN l), 0) := by
  unfold rd; rw [if_neg (by rw [h]; simp), if_neg (by rw [h2]; simp), if_neg h3, if_neg h4]
theorem itoL_len {n : Int} (h1 : -1000000000 ≤ n) (h2 : n ≤ 1000000000) : (itoL n).length ≤ 1000000003 := by
  unfold itoL; split
  · have := itoN_len (-n).toNat; simp; omega
  · have := itoN_len n.toNat; omega
theorem txt_list (l : List UInt8) : (txt l).toList = l := by rw [Lib.toList_data]; rfl
theorem isB_size {l : List UInt8} (h : isB l = true) : q0 l < q1 l ∧ 0 < l.length := by
  have ⟨o1, o2, o3, o4, o5, o6, _, _⟩ := q_order (l := l)
  have hb : bad1 l = false := by
    unfold isB at h
    cases h2 : bad1 l
    · rfl
    · rw [h2] at h; simp at h
  unfold bad1 at hb
  have hb2 := of_decide_eq_false hb
  have : q1 l ≠ q0 l := fun e => hb2 (Or.inl e)
  omega
end Go.Proofs.YtdclhepjoifpiaaGreatDoor.De
/- The document's answer on Read, walked. -/
namespace Go.Proofs.YtdclhepjoifpiaaGreatDoor.De
open Go.RowKit

theorem ret_sc {a b : ByteArray} {x y : Int} (h : a = b) (h' : x = y) : Ending.returned (.tuple #[.string a, .int .i64 x]) = .returned (.tuple #[.string b, .int .i64 y]) := by rw [h, h']
set_option maxHeartbeats 1000000 in
theorem read_any {l : List UInt8} {s : ByteArray} (w : World) (hs : s = txt l) (hm : l.length ≤ 1000000) :
    Calls Tryz.prog 34 #[.string s] w fun e w' => e = .returned (.tuple #[.string (txt (rd l).1), .int .i64 (rd l).2]) ∧ Below w.heap.size w w' := by
  have HZ := Lib.hid (show s.size = l.length by rw [hs, txt_size])
  have HS := Lib.hid hs
  have HM := Lib.hid hm
  have hsz : s.size ≤ 1000000 := by have := HZ.out; omega
  obtain ⟨o1, o2, o3, o4, o5, o6, o7, o8⟩ := q_order (l := l)
  have ⟨r1, r2⟩ := powR_range l (q4 l) (q5 l) o8
  have O7 := Lib.hid o7
  have O8 := Lib.hid o8
  have o6' : q5 l ≤ s.size := by have := HZ.out; omega
  clear hs hm o6 o7 o8
  go_enter Tryz.func34, Tryz.ntmps34
  go_wp2_with fail
  refine (is_any w HS.out HM.out).mono ?_
  rintro e w1 ⟨a, b, c, d, f, g, rfl, hp, hb1⟩
  by_cases hB : isB l = true
  · obtain ⟨rfl, rfl, rfl, rfl, rfl, rfl⟩ := hp hB
    have HB := Lib.hid hB
    have HB1 := Lib.hid hb1
    rw [hB]
    clear hB hp hb1
    go_wp2_with fail
    refine (power_any _ _ _ _ (q4 l) (q5 l) _ HS.out o5 (by have := HZ.out; omega) HM.out O8.out O7.out).mono ?_
    rintro e w2 ⟨rfl, rfl⟩
    obtain ⟨pn, hpn⟩ : ∃ x, (powR l (q4 l) (q5 l)).1 = x := ⟨_, rfl⟩
    obtain ⟨pb, hpb⟩ : ∃ x, (powR l (q4 l) (q5 l)).2 = x := ⟨_, rfl⟩
    rw [hpn] at r1 r2 ⊢
    rw [hpb]
    have HPN := Lib.hid hpn
    have HPB := Lib.hid hpb
    clear hpn hpb
    cases pb
    · go_wp2_with fail
      go_ret2
      exact ⟨ret_sc (by rw [rd_exp HB.out HPB.out]; rfl) (by rw [rd_exp HB.out HPB.out]), (HB1.out.alloc HB1.out.size _).alloc (Nat.le_trans HB1.out.size (by simp)) _⟩
    · go_upto_region 7 with fail
      have HDT := Lib.hid (show s.extract (q0 l) (q1 l) ++ s.extract (q2 l) (q3 l) = txt (rdD l) by rw [HS.out, txt_cut, txt_cut, txt_app]; rfl)
      have hdl : (rdD l).length ≤ 2000000 := by have := rdD_len l; have := HM.out; omega
      go_quiet (fail)
      go_upto_block 0 with fail
      have HBW := Lib.hid (belowDrewN ((HB1.out.alloc HB1.out.size (six (q0 l) (q1 l) (q2 l) (q3 l) (q4 l) (q5 l))).alloc (Nat.le_trans HB1.out.size (by simp)) (six (q0 l) (q1 l) (q2 l) (q3 l) (q4 l) (q5 l))) nq)
      go_cut [6, 7] (fun x y wx => x = .int .i64 (rdN l) ∧ y = .string (txt (trimR (rdD l))) ∧ Below w.heap.size w wx)
      case first =>
        go_wp2_with fail
        go_loop [6, 7] (fun x y => ∃ (d : List UInt8) (m : Int) (t : ByteArray), x = .int .i64 m ∧ y = .string t ∧ t = txt d ∧ t.size ≤ (rdD l).length ∧ trimR d = trimR (rdD l) ∧ m = pn - ((q3 l : Int) - q2 l) + ((rdD l).length - t.size)) (fun _ y => match y with | .string t => t.size | _ => 0)
        case atStart => exact ⟨rdD l, _, _, rfl, rfl, HDT.out, by rw [HDT.out, txt_size]; exact Nat.le_refl _, rfl, by rw [HDT.out, txt_size]; omega⟩
        case round =>
          obtain ⟨d, m, t, rfl, rfl, ht, hts, htr, hmm⟩ := hrel
          have HT := Lib.hid ht
          have HTR := Lib.hid htr
          have HTL := Lib.hid (show t.size = d.length by rw [ht, txt_size])
          have HMM := Lib.hid hmm
          have hm1 : -2000000000 ≤ m := by omega
          have hm2 : m ≤ 2000000000 := by omega
          clear ht htr hmm
          by_cases h0 : t.size = 0
          · have E : trimR (rdD l) = d := by rw [← HTR.out]; exact trimR_end (by have := HTL.out; omega)
            have E2 : m = rdN l := by have := HMM.out; have := HTL.out; unfold rdN; rw [HPN.out, E]; omega
            have HE := Lib.hid E
            have HE2 := Lib.hid E2
            clear E E2
            go_wp2_with fail
            go_meet
            exact ⟨by rw [HE2.out], by rw [HT.out, HE.out], HBW.out⟩
          · obtain ⟨n, hn⟩ : ∃ n, t.size = n + 1 := ⟨t.size - 1, by omega⟩
            have HN := Lib.hid hn
            have hx := txt_at HT.out (k := n)
            have hxn : n < t.size := by omega
            clear h0
            by_cases g : bt d n = 48
            · have E := Lib.hid (show trimR d = trimR (d.take n) by
                have := HTL.out
                have e : d.length - 1 = n := by omega
                rw [trimR_on (by omega) (by rw [e]; exact g), e])
              have ET := Lib.hid (show t.extract 0 n = txt (d.take n) by rw [HT.out, txt_take])
              go_wp2_with fail
              go_round
              case rel => exact ⟨d.take n, m + 1, _, rfl, rfl, ET.out, by rw [ET.out, txt_size]; simp; omega, by rw [← E.out, HTR.out], by have := HMM.out; have := HTL.out; rw [ET.out, txt_size]; simp; omega⟩
              case measure =>
              rw [ET.out]
              show (txt (d.take n)).size < t.size
              rw [txt_size]; have := HTL.out; simp; omega
            · have E : trimR (rdD l) = d := by
                rw [← HTR.out]; refine trimR_end (fun h => g ?_)
                have := HTL.out
                rw [show n = d.length - 1 by omega]; exact h.2
              have E2 : m = rdN l := by have := HMM.out; have := HTL.out; unfold rdN; rw [HPN.out, E]; omega
              have HE := Lib.hid E
              have HE2 := Lib.hid E2
              clear E E2
              go_wp2_with fail
              go_meet
              exact ⟨by rw [HE2.out], by rw [HT.out, HE.out], HBW.out⟩
      case rest =>
        obtain ⟨rfl, rfl, hbw⟩ := hcut
        have HBW2 := Lib.hid hbw
        clear hbw
        go_upto_block 2 with fail
        go_cut [7] (fun y wx => y = .string (txt (rdT l)) ∧ Below w.heap.size w wx)
        case first =>
          have hts0 : (txt (trimR (rdD l))).size ≤ 2000000 := by have := trimR_len (rdD l); rw [txt_size]; omega
          have HT0 := Lib.hid (show ∀ t, txt (trimR (rdD l)) = t → t = txt (trimR (rdD l)) ∧ t.size ≤ 2000000 from fun t h => ⟨h.symm, h ▸ hts0⟩)
          generalize hgt : txt (trimR (rdD l)) = t0
          have HG := Lib.hid hgt
          clear hgt hts0
          go_wp2_with fail
          go_loop [7] (fun y => ∃ (d : List UInt8) (t : ByteArray), y = .string t ∧ t = txt d ∧ t.size ≤ 2000000 ∧ trimL d = rdT l) (fun y => match y with | .string t => t.size | _ => 0)
          case atStart => exact ⟨trimR (rdD l), _, rfl, HG.out.symm, (HT0.out _ HG.out).2, rfl⟩
          case round =>
            obtain ⟨d, t, rfl, ht, hts, htr⟩ := hrel
            have HT := Lib.hid ht
            have HTR := Lib.hid htr
            have HTL := Lib.hid (show t.size = d.length by rw [ht, txt_size])
            clear ht htr
            by_cases h0 : t.size = 0
            · have HE := Lib.hid (show rdT l = d by rw [← HTR.out]; exact trimL_end (by have := HTL.out; omega))
              go_wp2_with fail
              go_meet
              exact ⟨by rw [HT.out, HE.out], HBW2.out⟩
            · have hx := txt_at HT.out (k := 0)
              have hxn : 0 < t.size := by omega
              clear h0
              by_cases g : bt d 0 = 48
              · have E := Lib.hid (show trimL d = trimL (d.drop 1) from trimL_on (by have := HTL.out; omega) g)
                have ET := Lib.hid (show t.extract 1 t.size = txt (d.drop 1) by rw [HT.out, txt_drop])
                go_wp2_with fail
                go_round
                case rel => exact ⟨d.drop 1, _, rfl, ET.out, by rw [ET.out, txt_size]; have := HTL.out; simp; omega, by rw [← E.out, HTR.out]⟩
                case measure =>
                  rw [ET.out]
                  show (txt (d.drop 1)).size < t.size
                  rw [txt_size]; have := HTL.out; simp; omega
              · have HE := Lib.hid (show rdT l = d by
                  rw [← HTR.out]; exact trimL_end (fun h => g h.2))
                go_wp2_with fail
                go_meet
                exact ⟨by rw [HT.out, HE.out], HBW2.out⟩
        case rest =>
          obtain ⟨rfl, hbw⟩ := hcut
          have HBW3 := Lib.hid hbw
          clear hbw
          go_upto_if 72 with fail
          rw [txt_list]
          by_cases hT : rdT l = []
          · have HT := Lib.hid hT
            have E := Lib.hid (rd_zero HB.out HPB.out hT)
            rw [show (rdT l).isEmpty = true by rw [hT]; rfl]
            clear hT
            go_wp2_with fail
            go_ret2
            exact ⟨ret_sc (by rw [E.out]; rfl) (by rw [E.out]), HBW3.out⟩
          · have HT := Lib.hid hT
            have hTs : (txt (rdT l)).size ≤ 2000000 := by have := trimL_len (trimR (rdD l)); have := trimR_len (rdD l); rw [txt_size]; unfold rdT; omega
            have hNb : -2000000000 ≤ rdN l ∧ rdN l ≤ 3000000000 := by have := trimR_len (rdD l); unfold rdN; rw [HPN.out]; have := HM.out; omega
            rw [show (rdT l).isEmpty = false by cases h : rdT l with | nil => exact absurd h hT | cons => rfl]
            clear hT
            obtain ⟨hN1, hN2⟩ := hNb
            obtain ⟨N, hN⟩ : ∃ N, rdN l = N := ⟨_, rfl⟩
            rw [hN] at hN1 hN2 ⊢
            have HN := Lib.hid hN
            clear hN
            by_cases h1 : N > 1000000000
            · have E := Lib.hid (rd_far HB.out HPB.out HT.out (Or.inl (by rw [HN.out]; exact h1)))
              go_wp2_with fail
              go_ret2
              exact ⟨ret_sc (by rw [E.out]; rfl) (by rw [E.out]), HBW3.out⟩
            · by_cases h2 : N < -1000000000
              · have E := Lib.hid (rd_far HB.out HPB.out HT.out (Or.inr (by rw [HN.out]; exact h2)))
                go_wp2_with fail
                go_ret2
                exact ⟨ret_sc (by rw [E.out]; rfl) (by rw [E.out]), HBW3.out⟩
              · have E := Lib.hid (rd_ok HB.out HPB.out HT.out (by rw [HN.out]; exact fun h => h.elim h1 h2))
                have hs0 : 0 < s.size := by have := isB_size HB.out; have := HZ.out; omega
                have hx := txt_at HS.out (k := 0)
                have hiL : (txt (itoL N)).size ≤ 1000000003 := by have := itoL_len (n := N) (by omega) (by omega); rw [txt_size]; exact this
                have I := Lib.hid (fun w => itoa_any N (by omega) (by omega) w)
                by_cases g : bt l 0 = 45
                · have HGT := Lib.hid (show ByteArray.mk #[45] ++ txt (rdT l) ++ ByteArray.mk #[101] ++ txt (itoL N) = txt (rd l).1 by
                    rw [E.out, HN.out, if_pos g]
                    show txt [45] ++ txt (rdT l) ++ txt [101] ++ txt (itoL N) = _
                    rw [txt_app, txt_app, txt_app])
                  go_wp2_with fail
                  refine (I.out _).mono ?_
                  rintro e w4 ⟨rfl, hb4⟩
                  have HB4 := Lib.hid hb4
                  clear hb4
                  go_wp2_with fail
                  go_ret2
                  exact ⟨ret_sc HGT.out (by rw [E.out]), HBW3.out.trans (HB4.out.mono HBW3.out.size)⟩
                · have HGT := Lib.hid (show txt (rdT l) ++ ByteArray.mk #[101] ++ txt (itoL N) = txt (rd l).1 by
                    rw [E.out, HN.out, if_neg g]
                    show txt (rdT l) ++ txt [101] ++ txt (itoL N) = _
                    rw [txt_app, txt_app]; rfl)
                  go_wp2_with fail
                  refine (I.out _).mono ?_
                  rintro e w4 ⟨rfl, hb4⟩
                  have HB4 := Lib.hid hb4
                  clear hb4
                  go_wp2_with fail
                  go_ret2
                  exact ⟨ret_sc HGT.out (by rw [E.out]), HBW3.out.trans (HB4.out.mono HBW3.out.size)⟩
  · have hB : isB l = false := by simpa using hB
    rw [hB]
    clear hp
    have HB := Lib.hid hB
    have HB1 := Lib.hid hb1
    clear hB hb1
    go_wp2_with fail
    go_ret2
    exact ⟨ret_sc (by rw [rd_syntax HB.out]; rfl) (by rw [rd_syntax HB.out]), HB1.out.alloc HB1.out.size _⟩
end Go.Proofs.YtdclhepjoifpiaaGreatDoor.De
/- Lists of the parts of a normal form. -/
namespace Go.Proofs.YtdclhepjoifpiaaGreatDoor.De
open Go.RowKit

def norm (l : List UInt8) : Bool := decide ((rd l).2 = 0) && decide ((rd l).1 = l)
theorem leq (a b : List UInt8) : (a == b) = decide (a = b) := by rw [Bool.eq_iff_iff]; simp
/-- The document's answer on Parts: below nought?, the numerals, the exponent; is it a normal form? -/
def ptM (l : List UInt8) : Bool := norm l && (decide (l ≠ [48]) && decide (bt l 0 = 45))
def ptD (l : List UInt8) : List UInt8 := if norm l = false then [] else if l = [48] then [48] else (l.take (q1 l)).drop (q0 l)
def ptX (l : List UInt8) : Int := if norm l = false ∨ l = [48] then 0 else (powR l (q4 l) (q5 l)).1
end Go.Proofs.YtdclhepjoifpiaaGreatDoor.De
/- The program's own parting of a number's text, walked. -/
namespace Go.Proofs.YtdclhepjoifpiaaGreatDoor.De
open Go.RowKit

def figs : List UInt8 := [48, 49, 50, 51, 52, 53, 54, 55, 56, 57]
theorem figs_nb (c : UInt8) : figs.contains c = nmr (c.toNat : Int) := by
  have : ∀ n : Nat, n < 256 → figs.contains (UInt8.ofNat n) = nmr (n : Int) := by decide +kernel
  have h := this c.toNat c.toNat_lt
  simpa using h
theorem drop_getD (l : List UInt8) (i k : Nat) : (l.drop i).getD k 0 = l.getD (i + k) 0 := by simp [List.getElem?_drop]
theorem tk_run (l : List UInt8) (i m k : Nat) (hi : i ≤ l.length) (hm : l.length ≤ m) : i + tk figs m (l.drop i) k = runE l (i + k) := by
  by_cases h : i + k < l.length ∧ nmr (bt l (i + k)) = true
  · rw [runE_on h.1 h.2, tk_on (by simp; omega) (by omega) (by rw [figs_nb, drop_getD]; exact h.2)]
    exact tk_run l i m (k + 1) hi hm
  · rw [runE_end h, tk_end]
    intro h2
    rw [figs_nb, drop_getD] at h2
    exact h ⟨by have := h2.1; simp at this; omega, h2.2.2⟩
termination_by l.length - (i + k)
theorem tk_one (W r : List UInt8) (h : (r ≠ [] → W.contains (r.getD 0 0) = true) ∧ r ≠ []) : tk W 1 r 0 = 1 := by
  rw [tk_on (List.length_pos_iff.2 h.2) (by omega) (h.1 h.2), tk_end (by omega)]
theorem tk_none (W r : List UInt8) (h : r ≠ [] → W.contains (r.getD 0 0) = false) : tk W 1 r 0 = 0 := by
  rw [tk_end]
  intro h2
  rw [h (List.length_pos_iff.1 h2.1)] at h2
  simp at h2
/-- What a text's taking gives, as the caller sees it. -/
abbrev tx (t : ByteArray) : Obj := .cells #[.string t] 9
abbrev wrt (a : Bool) (b c : ByteArray) (d : Bool) (f : ByteArray) : Obj := .cells #[.bool a, .string b, .string c, .bool d, .string f] 152
theorem take_at {W r : List UInt8} {wn t x y : ByteArray} (m : Nat) (w : World) (o : Obj) (hW : wn = txt W) (ht : t = txt r) (hr : r.length ≤ 1000000) (hm : m ≤ 1000000) (hx : x = txt (r.take (tk W m r 0))) (hy : y = txt (r.drop (tk W m r 0))) {mi : Int} (hmi : mi = m) :
    Calls Tryz.prog 105 #[.string wn, .int .i64 mi, .pointer (some ⟨w.heap.size, 0, none⟩)] ((w.alloc (tx t)).alloc o) fun e w' => e = .returned (.string x) ∧ w' = (w.alloc (tx y)).alloc o := by
  subst hx; subst hy; subst hmi
  refine (take_any m w.heap.size _ hW ht ?_ hr hm).mono ?_
  · show ((w.heap.push _).push _)[w.heap.size]? = _
    simp [Array.getElem?_push]
  · rintro e w' ⟨rfl, rfl⟩
    refine ⟨rfl, ?_⟩
    simp [go_sem]
theorem take_run {l : List UInt8} {t x y : ByteArray} (i m j : Nat) (w : World) (o : Obj) (ht : t = txt (l.drop i)) (hi : i ≤ l.length) (hl : l.length ≤ 1000000) (hm : m = l.length) (hj : j = runE l i) (hx : x = txt ((l.take j).drop i)) (hy : y = txt (l.drop j)) :
    Calls Tryz.prog 105 #[.string ⟨#[48, 49, 50, 51, 52, 53, 54, 55, 56, 57]⟩, .int .i64 m, .pointer (some ⟨w.heap.size, 0, none⟩)] ((w.alloc (tx t)).alloc o) fun e w' => e = .returned (.string x) ∧ w' = (w.alloc (tx y)).alloc o := by
  have h := tk_run l i m 0 hi (by omega)
  rw [Nat.add_zero, ← hj] at h
  refine take_at (W := figs) (r := l.drop i) m w o rfl ht (by simp; omega) (by omega) ?_ ?_ rfl
  · rw [hx, List.drop_take, show j - i = tk figs m (l.drop i) 0 by omega]
  · rw [hy, List.drop_drop, h]
theorem take_sign {l : List UInt8} {t x y : ByteArray} {wn : ByteArray} (W : List UInt8) (i : Nat) (p : Bool) (w : World) (o : Obj) (hW : wn = txt W) (ht : t = txt (l.drop i)) (hl : l.length ≤ 1000000) (hp : p = (decide (i < l.length) && W.contains (l.getD i 0)))
    (hx : x = txt ((l.drop i).take (if p then 1 else 0))) (hy : y = txt (l.drop (if p then i + 1 else i))) :
    Calls Tryz.prog 105 #[.string wn, .int .i64 1, .pointer (some ⟨w.heap.size, 0, none⟩)] ((w.alloc (tx t)).alloc o) fun e w' => e = .returned (.string x) ∧ w' = (w.alloc (tx y)).alloc o := by
  have h : tk W 1 (l.drop i) 0 = if p then 1 else 0 := by
    cases p
    · refine tk_none _ _ (fun h => ?_)
      have hl : i < l.length := by have := List.length_pos_iff.2 h; simp at this; omega
      rw [drop_getD]; simpa [hl] using hp.symm
    · have hp2 := hp.symm
      simp only [Bool.and_eq_true, decide_eq_true_eq] at hp2
      exact tk_one _ _ ⟨fun _ => by rw [drop_getD]; exact hp2.2, by intro h; have := congrArg List.length h; simp at this; omega⟩
  refine take_at (W := W) (r := l.drop i) 1 w o hW ht (by simp; omega) (by omega) (by rw [h]; exact hx) ?_ rfl
  rw [h, hy, List.drop_drop]; cases p <;> rfl
theorem sign_empty {l : List UInt8} {i : Nat} {p : Bool} (h : p = true → i < l.length) : (txt ((l.drop i).take (if p then 1 else 0))).toList.isEmpty = !p := by
  rw [txt_list]
  cases p
  · rfl
  · have := h rfl
    rw [List.isEmpty_eq_false_iff.2 ?_]; rfl
    intro h2; have := congrArg List.length h2; simp at this; omega
theorem mid_empty (l : List UInt8) {i j : Nat} (h1 : i ≤ j) (h2 : j ≤ l.length) : (txt ((l.take j).drop i)).toList.isEmpty = decide (j = i) := by
  rw [txt_list, Bool.eq_iff_iff]
  simp
  omega
theorem drop_empty (l : List UInt8) {i : Nat} (h : i ≤ l.length) : (txt (l.drop i)).toList.isEmpty = decide (i = l.length) := by
  rw [txt_list, Bool.eq_iff_iff]
  simp
  omega
theorem mid_nil (l : List UInt8) (i : Nat) : txt ((l.take i).drop i) = ⟨#[]⟩ := by
  rw [List.drop_eq_nil_of_le (by simp; omega)]; rfl
theorem in_one (c : UInt8) (n : UInt8) : [n].contains c = decide ((c.toNat : Int) = n.toNat) := by
  rw [Bool.eq_iff_iff]; simp; rw [← UInt8.toNat_inj]; omega
theorem in_two (c : UInt8) (m n : UInt8) : [m, n].contains c = decide ((c.toNat : Int) = m.toNat ∨ (c.toNat : Int) = n.toNat) := by
  rw [Bool.eq_iff_iff]; simp; rw [← UInt8.toNat_inj, ← UInt8.toNat_inj]; omega
theorem pos_at {l : List UInt8} {i : Nat} (h : bt l i ≠ 0) : i < l.length := by
  rcases Nat.lt_or_ge i l.length with h2 | h2
  · exact h2
  · exact absurd (bt_far h2) h
theorem one_at (l : List UInt8) (i : Nat) (n : UInt8) (hn : n ≠ 0) : (decide (i < l.length) && [n].contains (l.getD i 0)) = decide (bt l i = n.toNat) := by
  rw [in_one, Bool.eq_iff_iff]
  simp only [Bool.and_eq_true, decide_eq_true_eq]
  refine ⟨fun h => h.2, fun h => ⟨pos_at (fun h2 => hn ?_), h⟩⟩
  rw [h2] at h; exact UInt8.toNat_inj.1 (by simpa using h.symm)
theorem two_at (l : List UInt8) (i : Nat) (m n : UInt8) (hm : m ≠ 0) (hn : n ≠ 0) : (decide (i < l.length) && [m, n].contains (l.getD i 0)) = decide (bt l i = m.toNat ∨ bt l i = n.toNat) := by
  rw [in_two, Bool.eq_iff_iff]
  simp only [Bool.and_eq_true, decide_eq_true_eq]
  refine ⟨fun h => h.2, fun h => ⟨pos_at (fun h2 => ?_), h⟩⟩
  rw [h2] at h
  rcases h with h | h
  · exact hm (UInt8.toNat_inj.1 (by simpa using h.symm))
  · exact hn (UInt8.toNat_inj.1 (by simpa using h.symm))
def SplitPost (w : World) (l : List UInt8) (e : Ending) (w' : World) : Prop :=
  ∃ (a : Bool) (b c : ByteArray) (d : Bool) (f : ByteArray), e = .returned (.tuple #[.agg #[.bool a, .string b, .string c, .bool d, .string f], .bool (isB l)]) ∧
    (isB l = true → a = decide (bt l 0 = 45) ∧ b = txt ((l.take (q1 l)).drop (q0 l)) ∧ c = txt ((l.take (q3 l)).drop (q2 l)) ∧ d = decide (q4 l < q5 l ∧ bt l (q4 l - 1) = 45) ∧ f = txt ((l.take (q5 l)).drop (q4 l))) ∧ ∃ o o' : Obj, w' = (w.alloc o).alloc o'
theorem below_two (w : World) (o o' : Obj) : Below w.heap.size w ((w.alloc o).alloc o') := ((Below.refl _ _).alloc (Nat.le_refl _) _).alloc (by simp) _
set_option maxHeartbeats 4000000 in
set_option maxRecDepth 100000 in
theorem split_any {l : List UInt8} {s : ByteArray} (w : World) (hs : s = txt l) (hm : l.length ≤ 1000000) :
    Calls Tryz.prog 97 #[.string s] w (SplitPost w l) := by
  have hsz : s.size = l.length := by rw [hs, txt_size]
  obtain ⟨o1, o2, o3, o4, o5, o6, o7, o8⟩ := q_order (l := l)
  have z1 : q0 l ≤ l.length := by omega
  have z2 : q1 l ≤ l.length := by omega
  have z3 : q2 l ≤ l.length := by omega
  have z4 : q3 l ≤ l.length := by omega
  have z5 : q4 l ≤ l.length := by omega
  -- the texts
  obtain ⟨A, hA⟩ : ∃ A, A = decide (bt l 0 = 45) := ⟨_, rfl⟩
  obtain ⟨x1, hx1⟩ : ∃ x, x = txt ((l.drop 0).take (if A then 1 else 0)) := ⟨_, rfl⟩
  obtain ⟨y1, hy1⟩ : ∃ y, y = txt (l.drop (q0 l)) := ⟨_, rfl⟩
  obtain ⟨x2, hx2⟩ : ∃ x, x = txt ((l.take (q1 l)).drop (q0 l)) := ⟨_, rfl⟩
  obtain ⟨y2, hy2⟩ : ∃ y, y = txt (l.drop (q1 l)) := ⟨_, rfl⟩
  obtain ⟨x3, hx3⟩ : ∃ x, x = txt ((l.drop (q1 l)).take (if dot l then 1 else 0)) := ⟨_, rfl⟩
  obtain ⟨y3, hy3⟩ : ∃ y, y = txt (l.drop (q2 l)) := ⟨_, rfl⟩
  obtain ⟨x4, hx4⟩ : ∃ x, x = txt ((l.take (q3 l)).drop (q2 l)) := ⟨_, rfl⟩
  obtain ⟨y4, hy4⟩ : ∃ y, y = txt (l.drop (q3 l)) := ⟨_, rfl⟩
  obtain ⟨x5, hx5⟩ : ∃ x, x = txt ((l.drop (q3 l)).take (if exq l then 1 else 0)) := ⟨_, rfl⟩
  obtain ⟨y5, hy5⟩ : ∃ y, y = txt (l.drop (if exq l then q3 l + 1 else q3 l)) := ⟨_, rfl⟩
  obtain ⟨x6, hx6⟩ : ∃ x, x = txt ((l.drop (q3 l + 1)).take (if sgn l then 1 else 0)) := ⟨_, rfl⟩
  obtain ⟨y6, hy6⟩ : ∃ y, y = txt (l.drop (q4 l)) := ⟨_, rfl⟩
  obtain ⟨x7, hx7⟩ : ∃ x, x = txt ((l.take (q5 l)).drop (q4 l)) := ⟨_, rfl⟩
  obtain ⟨y7, hy7⟩ : ∃ y, y = txt (l.drop (q5 l)) := ⟨_, rfl⟩
  obtain ⟨D, hD⟩ : ∃ D, D = decide (q4 l < q5 l ∧ bt l (q4 l - 1) = 45) := ⟨_, rfl⟩
  have eA : (decide (0 < l.length) && [(45 : UInt8)].contains (l.getD 0 0)) = decide (bt l 0 = 45) := one_at l 0 45 (by decide)
  have T1 := Lib.hid (fun (w : World) (o : Obj) => take_sign (l := l) (t := s) (x := x1) (y := y1) (wn := ⟨#[45]⟩) [45] 0 A w o rfl hs hm (by rw [hA, eA]) hx1 (by
    rw [hy1]; congr 2; unfold q0
    by_cases h : bt l 0 = 45
    · rw [if_pos h, if_pos (by rw [hA]; simp [h])]
    · rw [if_neg h, if_neg (by rw [hA]; simp [h])]))
  have T2 := Lib.hid (fun (w : World) (o : Obj) => take_run (l := l) (t := y1) (x := x2) (y := y2) (q0 l) s.size (q1 l) w o hy1 z1 hm hsz rfl hx2 hy2)
  have T3 := Lib.hid (fun (w : World) (o : Obj) => take_sign (l := l) (t := y2) (x := x3) (y := y3) (wn := ⟨#[46]⟩) [46] (q1 l) (dot l) w o rfl hy2 hm (by rw [one_at l _ 46 (by decide)]; rfl) hx3 (by rw [hy3]; rfl))
  have T4 := Lib.hid (fun (hd : dot l = true) (w : World) (o : Obj) => take_run (l := l) (t := y3) (x := x4) (y := y4) (q2 l) s.size (q3 l) w o hy3 z3 hm hsz (by unfold q3; rw [if_pos hd]) hx4 hy4)
  have T5 := Lib.hid (fun (w : World) (o : Obj) => take_sign (l := l) (t := y4) (x := x5) (y := y5) (wn := ⟨#[101, 69]⟩) [101, 69] (q3 l) (exq l) w o rfl hy4 hm (by rw [two_at l _ 101 69 (by decide) (by decide)]; rfl) hx5 hy5)
  have T6 := Lib.hid (fun (he : exq l = true) (w : World) (o : Obj) => take_sign (l := l) (t := y5) (x := x6) (y := y6) (wn := ⟨#[43, 45]⟩) [43, 45] (q3 l + 1) (sgn l) w o rfl (by rw [hy5, if_pos he]) hm (by rw [two_at l _ 43 45 (by decide) (by decide)]; rfl) hx6 (by rw [hy6]; unfold q4; rw [if_pos he]))
  have T7 := Lib.hid (fun (he : exq l = true) (w : World) (o : Obj) => take_run (l := l) (t := y6) (x := x7) (y := y7) (q4 l) s.size (q5 l) w o hy6 z5 hm hsz (by unfold q5; rw [if_pos he]) hx7 hy7)
  -- which are empty
  have v1 : x1.toList.isEmpty = !A := by rw [hx1]; exact sign_empty (fun h => by rw [hA] at h; exact pos_at (by have := of_decide_eq_true h; omega))
  have v2 : x2.toList.isEmpty = decide (q1 l = q0 l) := by rw [hx2]; exact mid_empty l o1 z2
  have v3 : x3.toList.isEmpty = !dot l := by rw [hx3]; exact sign_empty (fun h => by unfold dot at h; exact pos_at (by have := of_decide_eq_true h; omega))
  have v4 : x4.toList.isEmpty = decide (q3 l = q2 l) := by rw [hx4]; exact mid_empty l o3 z4
  have v5 : x5.toList.isEmpty = !exq l := by rw [hx5]; exact sign_empty (fun h => by unfold exq at h; exact pos_at (by have := of_decide_eq_true h; omega))
  have v7 : x7.toList.isEmpty = decide (q5 l = q4 l) := by rw [hx7]; exact mid_empty l o5 o6
  have v8 : y7.toList.isEmpty = decide (q5 l = l.length) := by rw [hy7]; exact drop_empty l o6
  have V6 : exq l = true → q5 l ≠ q4 l → (x6.toList == [45]) = D := by
    intro he hne
    have e4 : q4 l = if sgn l = true then q3 l + 1 + 1 else q3 l + 1 := by unfold q4; rw [if_pos he]
    rw [hx6, txt_list, hD]
    cases hsg : sgn l
    · rw [hsg] at e4
      have hq : q4 l - 1 = q3 l := by rw [e4]; simp
      rw [hq]
      unfold exq at he
      have he' := of_decide_eq_true he
      rw [show decide (q4 l < q5 l ∧ bt l (q3 l) = 45) = false by simp; omega]
      rfl
    · rw [hsg] at e4
      have hq : q4 l - 1 = q3 l + 1 := by rw [e4]; simp
      rw [hq]
      unfold sgn at hsg
      have hp : q3 l + 1 < l.length := pos_at (by have := of_decide_eq_true hsg; omega)
      rw [show (l.drop (q3 l + 1)).take (if true = true then 1 else 0) = [l.getD (q3 l + 1) 0] by
        rw [if_pos rfl, List.drop_eq_getElem_cons hp]; show [l[q3 l + 1]] = _; simp [hp]]
      rw [leq, show decide (q4 l < q5 l ∧ bt l (q3 l + 1) = 45) = decide (bt l (q3 l + 1) = 45) by congr 1; simp; omega]
      congr 1
      unfold bt
      rw [List.cons.injEq, ← UInt8.toNat_inj]; simp; omega
  have s2 : x2.size = q1 l - q0 l := by rw [hx2, txt_size]; simp; omega
  have b2 : q1 l ≠ q0 l → bt ((l.take (q1 l)).drop (q0 l)) 0 = bt l (q0 l) := fun h => by rw [bt_drop, Nat.add_zero, bt_take l (by omega)]
  have HX2 := Lib.hid hx2
  have n4 : dot l = false → x4 = ⟨#[]⟩ ∧ y4 = y3 ∧ y3 = y2 := fun h => by
    have e2 : q2 l = q1 l := by unfold q2; rw [h]; rfl
    have e3 : q3 l = q1 l := by unfold q3; rw [h]; rfl
    exact ⟨by rw [hx4, e2, e3, mid_nil], by rw [hy4, hy3, e2, e3], by rw [hy3, hy2, e2]⟩
  have n7 : exq l = false → x7 = ⟨#[]⟩ ∧ y7 = y5 ∧ D = false := fun h => by
    have e4 : q4 l = q3 l := by unfold q4; rw [h]; rfl
    have e5 : q5 l = q3 l := by unfold q5; rw [h]; rfl
    exact ⟨by rw [hx7, e4, e5, mid_nil], by rw [hy7, hy5, e5, h]; rfl, by rw [hD, e4, e5]; simp⟩
  have HE := Lib.hid (show isB l = true → A = decide (bt l 0 = 45) ∧ x2 = txt ((l.take (q1 l)).drop (q0 l)) ∧ x4 = txt ((l.take (q3 l)).drop (q2 l)) ∧ D = decide (q4 l < q5 l ∧ bt l (q4 l - 1) = 45) ∧ x7 = txt ((l.take (q5 l)).drop (q4 l)) from fun _ => ⟨hA, hx2, hx4, hD, hx7⟩)
  have HB := Lib.hid (show isB l = (!bad1 l && (!dot l || decide (q3 l ≠ q2 l)) && (!exq l || decide (q5 l ≠ q4 l)) && decide (q5 l = l.length)) from rfl)
  have hbad : bad1 l = decide (q1 l = q0 l ∨ bt l (q0 l) = 48 ∧ q0 l + 1 < q1 l) := rfl
  have HZ := Lib.hid hsz
  have HV2 := Lib.hid v2
  have HV6 := Lib.hid V6
  have HV4 := Lib.hid v4
  have HV5 := Lib.hid v5
  have HV7 := Lib.hid v7
  have HV8 := Lib.hid v8
  have HV3 := Lib.hid v3
  have HV1 := Lib.hid v1
  have N4 := Lib.hid n4
  have N7 := Lib.hid n7
  have HS2 := Lib.hid s2
  have HB2 := Lib.hid b2
  have HBAD := Lib.hid hbad
  have O1 := Lib.hid o1
  have O6 := Lib.hid o6
  have hs1 : s.size ≤ 1000000 := by omega
  have Z2 := Lib.hid z2
  clear hs hm hsz hA hx1 hy1 hx2 hy2 hx3 hy3 hx4 hy4 hx5 hy5 hx6 hy6 hx7 hy7 hD eA v1 v2 v3 v4 v5 v7 v8 V6 s2 b2 n4 n7 hbad o1 o2 o3 o4 o5 o6 o7 o8 z1 z2 z3 z4 z5
  go_enter Tryz.func97, Tryz.ntmps97
  go_wp2_with fail
  refine (T1.out _ _).mono ?_
  rintro e w1 ⟨rfl, rfl⟩
  go_wp2_with fail
  refine (T2.out _ _).mono ?_
  rintro e w1 ⟨rfl, rfl⟩
  rw [HV1.out]
  go_upto_region 5 with fail
  go_cut [31] (fun x wx => x = .bool (bad1 l) ∧ wx = (w.alloc (tx y2)).alloc (wrt A x2 ⟨#[]⟩ false ⟨#[]⟩))
  case first =>
    by_cases g1 : q1 l = q0 l
    · have E := Lib.hid (show bad1 l = true by rw [HBAD.out]; simp [g1])
      have g2 : x2.toList.isEmpty = true := by rw [HV2.out]; simp [g1]
      clear g1
      go_wp2_with fail
      go_meet
      exact ⟨by rw [E.out], rfl⟩
    · have g2 : x2.toList.isEmpty = false := by rw [HV2.out]; simp [g1]
      have g3 : 0 < x2.size := by have := HS2.out; have := O1.out; omega
      have hx := txt_at HX2.out (k := 0)
      rw [HB2.out g1] at hx
      by_cases g4 : bt l (q0 l) = 48
      · by_cases g5 : 1 < x2.size
        · have E := Lib.hid (show bad1 l = true by rw [HBAD.out]; have := HS2.out; simp [g4]; omega)
          clear g1
          go_wp2_with fail
          go_meet
          exact ⟨by rw [E.out]; simp; omega, rfl⟩
        · have E := Lib.hid (show bad1 l = false by rw [HBAD.out]; have := HS2.out; simp [g4, g1]; omega)
          clear g1
          go_wp2_with fail
          go_meet
          exact ⟨by rw [E.out]; simp; omega, rfl⟩
      · have E := Lib.hid (show bad1 l = false by rw [HBAD.out]; simp [g4, g1])
        clear g1
        go_wp2_with fail
        go_meet
        exact ⟨by rw [E.out], rfl⟩
  case rest =>
    obtain ⟨rfl, rfl⟩ := hcut
    clear HBAD HB2 HX2 T1 T2 HV1 HV2 HS2
    by_cases hbad : bad1 l = true
    · have E : isB l = false := by rw [HB.out, hbad]; rfl
      rw [hbad]
      clear hbad
      go_wp2_with fail
      refine bodyPost_ret (v := .tuple #[.agg #[.bool false, .string ⟨#[]⟩, .string ⟨#[]⟩, .bool false, .string ⟨#[]⟩], .bool false]) (by simp [results, Tryz.results97, go_sem]) rfl ?_
      exact ⟨_, _, _, _, _, by rw [E], fun h => by rw [E] at h; (cases h), _, _, rfl⟩
    · have hbad : bad1 l = false := by simpa using hbad
      rw [hbad]
      have HB1 := Lib.hid hbad
      clear hbad
      go_wp2_with fail
      refine (T3.out _ _).mono ?_
      rintro e w1 ⟨rfl, rfl⟩
      go_upto_if 35 with fail
      rw [HV3.out]
      go_cut [5] (fun x wx => x = .int .i64 s.size ∧ (dot l = true → q3 l ≠ q2 l) ∧ wx = (w.alloc (tx y4)).alloc (wrt A x2 x4 false ⟨#[]⟩))
      case first =>
        by_cases hd : dot l = true
        · have HD := Lib.hid hd
          rw [hd]
          clear hd
          by_cases g : q3 l = q2 l
          · have E : isB l = false := by rw [HB.out, HB1.out, HD.out]; simp [g]
            have g1 : x4.toList.isEmpty = true := by rw [HV4.out]; simp [g]
            clear g
            go_wp2_with fail
            refine (T4.out HD.out _ _).mono ?_
            rintro e w1 ⟨rfl, rfl⟩
            go_wp2_with fail
            refine bodyPost_ret (v := .tuple #[.agg #[.bool false, .string ⟨#[]⟩, .string ⟨#[]⟩, .bool false, .string ⟨#[]⟩], .bool false]) (by simp [results, Tryz.results97, go_sem]) rfl ?_
            exact ⟨_, _, _, _, _, by rw [E], fun h => by rw [E] at h; (cases h), _, _, rfl⟩
          · have g1 : x4.toList.isEmpty = false := by rw [HV4.out]; simp [g]
            have HG := Lib.hid g
            clear g
            go_wp2_with fail
            refine (T4.out HD.out _ _).mono ?_
            rintro e w1 ⟨rfl, rfl⟩
            go_wp2_with fail
            go_meet
            exact ⟨rfl, fun _ => HG.out, rfl⟩
        · have hd : dot l = false := by simpa using hd
          have HD := Lib.hid hd
          have E4 := Lib.hid (N4.out hd)
          rw [hd]
          clear hd
          go_wp2_with fail
          go_meet
          exact ⟨rfl, fun h => by rw [HD.out] at h; (cases h), by rw [E4.out.1, E4.out.2.1, E4.out.2.2]⟩
      case rest =>
        obtain ⟨rfl, hdg, rfl⟩ := hcut
        have HDG := Lib.hid hdg
        clear hdg T3 T4 HV3 HV4 N4
        go_wp2_with fail
        refine (T5.out _ _).mono ?_
        rintro e w1 ⟨rfl, rfl⟩
        go_upto_if 46 with fail
        rw [HV5.out]
        go_cut [5] (fun x wx => x = .int .i64 s.size ∧ (exq l = true → q5 l ≠ q4 l) ∧ wx = (w.alloc (tx y7)).alloc (wrt A x2 x4 D x7))
        case first =>
          by_cases hd : exq l = true
          · have HD := Lib.hid hd
            rw [hd]
            clear hd
            by_cases g : q5 l = q4 l
            · have E : isB l = false := by rw [HB.out, HB1.out, HD.out]; simp [g]
              have g1 : x7.toList.isEmpty = true := by rw [HV7.out]; simp [g]
              clear g
              go_wp2_with fail
              refine (T6.out HD.out _ _).mono ?_
              rintro e w1 ⟨rfl, rfl⟩
              go_wp2_with fail
              refine (T7.out HD.out _ _).mono ?_
              rintro e w1 ⟨rfl, rfl⟩
              go_wp2_with fail
              refine bodyPost_ret (v := .tuple #[.agg #[.bool false, .string ⟨#[]⟩, .string ⟨#[]⟩, .bool false, .string ⟨#[]⟩], .bool false]) (by simp [results, Tryz.results97, go_sem]) rfl ?_
              exact ⟨_, _, _, _, _, by rw [E], fun h => by rw [E] at h; (cases h), _, _, rfl⟩
            · have g1 : x7.toList.isEmpty = false := by rw [HV7.out]; simp [g]
              have g6 := HV6.out HD.out g
              have HG := Lib.hid g
              clear g
              go_wp2_with fail
              refine (T6.out HD.out _ _).mono ?_
              rintro e w1 ⟨rfl, rfl⟩
              go_wp2_with fail
              refine (T7.out HD.out _ _).mono ?_
              rintro e w1 ⟨rfl, rfl⟩
              go_wp2_with fail
              go_meet
              exact ⟨rfl, fun _ => HG.out, rfl⟩
          · have hd : exq l = false := by simpa using hd
            have HD := Lib.hid hd
            have E7 := Lib.hid (N7.out hd)
            rw [hd]
            clear hd
            go_wp2_with fail
            go_meet
            exact ⟨rfl, fun h => by rw [HD.out] at h; (cases h), by rw [E7.out.1, E7.out.2.1, E7.out.2.2]⟩
        case rest =>
          obtain ⟨rfl, heg, rfl⟩ := hcut
          have HEG := Lib.hid heg
          clear heg T5 T6 T7 HV5 HV6 HV7 N7
          by_cases g : q5 l = l.length
          · have E : isB l = true := by
              rw [HB.out, HB1.out]
              have h1 := HDG.out
              have h2 := HEG.out
              cases hd : dot l <;> cases he : exq l <;> simp_all
            have g1 : y7.toList.isEmpty = true := by rw [HV8.out]; simp [g]
            clear g
            go_wp2_with fail
            refine bodyPost_ret (v := .tuple #[.agg #[.bool A, .string x2, .string x4, .bool D, .string x7], .bool true]) (by simp [results, Tryz.results97, go_sem]) rfl ?_
            exact ⟨_, _, _, _, _, by rw [E], HE.out, _, _, rfl⟩
          · have E : isB l = false := by rw [HB.out]; simp [g]
            have g1 : y7.toList.isEmpty = false := by rw [HV8.out]; simp [g]
            clear g
            go_wp2_with fail
            refine bodyPost_ret (v := .tuple #[.agg #[.bool false, .string ⟨#[]⟩, .string ⟨#[]⟩, .bool false, .string ⟨#[]⟩], .bool false]) (by simp [results, Tryz.results97, go_sem]) rfl ?_
            exact ⟨_, _, _, _, _, by rw [E], fun h => by rw [E] at h; (cases h), _, _, rfl⟩
end Go.Proofs.YtdclhepjoifpiaaGreatDoor.De
/- The program's own written exponent, walked. -/
namespace Go.Proofs.YtdclhepjoifpiaaGreatDoor.De
open Go.RowKit

/-- The written exponent of numerals, and a minus ahead of them. -/
def exR (P : List UInt8) (d : Bool) : Int × Bool := match powA P P.length 0 0 with
  | none => (0, false)
  | some n => (if d = true then -n else n, true)
theorem powA_mid (l : List UInt8) (i e : Nat) (he : e ≤ l.length) : ∀ (k : Nat) (n : Int), i + k ≤ e → powA ((l.take e).drop i) (e - i) k n = powA l e (i + k) n := by
  intro k n hk
  by_cases h : i + k < e
  · have hb : bt ((l.take e).drop i) k = bt l (i + k) := by rw [bt_drop, bt_take l h]
    by_cases g : 10 * n + (bt l (i + k) - 48) > 1000000000
    · rw [powA_big h g, powA_big (by omega) (by rw [hb]; exact g)]
    · rw [powA_on h g, powA_on (by omega) (by rw [hb]; exact g), hb]
      exact powA_mid l i e he (k + 1) _ (by omega)
  · rw [powA_end h, powA_end (by omega)]
termination_by k => e - (i + k)
theorem exR_is {l : List UInt8} : exR ((l.take (q5 l)).drop (q4 l)) (decide (q4 l < q5 l ∧ bt l (q4 l - 1) = 45)) = powR l (q4 l) (q5 l) := by
  obtain ⟨_, _, _, _, o5, o6, _, _⟩ := q_order (l := l)
  have hl : ((l.take (q5 l)).drop (q4 l)).length = q5 l - q4 l := by simp; omega
  unfold exR powR
  rw [hl, powA_mid l (q4 l) (q5 l) o6 0 0 (by omega), Nat.add_zero]
  cases powA l (q5 l) (q4 l) 0 with
  | none => rfl
  | some n => simp only [decide_eq_true_eq]
abbrev wv (a : Bool) (b c : ByteArray) (d : Bool) (f : ByteArray) : Value := .agg #[.bool a, .string b, .string c, .bool d, .string f]
theorem ret_ib2 {a b : Int} {p q : Bool} (h : (a, p) = (b, q)) : Ending.returned (.tuple #[.int .i64 a, .bool p]) = .returned (.tuple #[.int .i64 b, .bool q]) := by cases h; rfl
set_option maxHeartbeats 1000000 in
theorem expo_any {P : List UInt8} {a d : Bool} {b c f : ByteArray} (w : World) (hf : f = txt P) (hP : ∀ k, k < P.length → nmr (bt P k) = true) (hm : P.length ≤ 1000000) :
    Calls Tryz.prog 98 #[wv a b c d f] w fun e w' => e = .returned (.tuple #[.int .i64 (exR P d).1, .bool (exR P d).2]) ∧ w' = w.alloc (wrt a b c d f) := by
  have HZ := Lib.hid (show f.size = P.length by rw [hf, txt_size])
  have HS := Lib.hid hf
  have HN := Lib.hid hP
  have hsz : f.size ≤ 1000000 := by have := HZ.out; omega
  clear hf hP hm
  go_enter Tryz.func98, Tryz.ntmps98
  go_wp2_with fail
  go_loop [2, 8] (fun m j => ∃ (n : Int) (k : Nat), k ≤ f.size ∧ 0 ≤ n ∧ n ≤ 1000000000 ∧ m = .int .i64 n ∧ j = .int .i64 k ∧ powA P P.length 0 0 = powA P P.length k n) (fun _ j => f.size - (intOf j).toNat)
  case atStart => exact ⟨0, 0, Nat.zero_le _, by omega, by omega, rfl, rfl, rfl⟩
  case round =>
    obtain ⟨n, k, hk, hn1, hn2, rfl, rfl, hr⟩ := hrel
    have HR := Lib.hid hr
    clear hr
    by_cases hlt : k < f.size
    · have hx := txt_at HS.out (k := k)
      have hnm := HN.out k (by have := HZ.out; omega)
      have h48 : 48 ≤ bt P k ∧ bt P k ≤ 57 := by simpa [nmr] using hnm
      clear hnm
      by_cases hbig : 10 * n + (bt P k - 48) > 1000000000
      · have E := Lib.hid (show exR P d = (0, false) by unfold exR; rw [HR.out, powA_big (by have := HZ.out; omega) hbig])
        go_wp2_with fail
        refine bodyPost_ret (v := .tuple #[.int .i64 0, .bool false]) (by simp [results, Tryz.results98, go_sem]) rfl ?_
        exact ⟨ret_ib2 (by rw [E.out]), rfl⟩
      · have E := Lib.hid (powA_on (l := P) (e := P.length) (by have := HZ.out; omega) hbig)
        go_wp2_with fail
        go_round
        case rel => exact ⟨10 * n + (bt P k - 48), k + 1, by omega, by omega, by omega, by go_num, by go_num, by rw [HR.out, E.out]⟩
        case measure => simp [intOf]; omega
    · have E := Lib.hid (show exR P d = (if d = true then -n else n, true) by unfold exR; rw [HR.out, powA_end (by have := HZ.out; omega)])
      cases d
      · go_wp2_with fail
        refine bodyPost_ret (v := .tuple #[.int .i64 n, .bool true]) (by simp [results, Tryz.results98, go_sem]) rfl ?_
        exact ⟨ret_ib2 (by rw [E.out]; rfl), rfl⟩
      · go_wp2_with fail
        refine bodyPost_ret (v := .tuple #[.int .i64 (-n), .bool true]) (by simp [results, Tryz.results98, go_sem]) rfl ?_
        exact ⟨ret_ib2 (by rw [E.out]; rfl), rfl⟩
end Go.Proofs.YtdclhepjoifpiaaGreatDoor.De
/- Lists: less. -/
namespace Go.Proofs.YtdclhepjoifpiaaGreatDoor.De
open Go.RowKit

/-- From place i on: which numerals come first? -/
def ltA (d e : List UInt8) (i : Nat) : Bool :=
  if i < d.length ∧ i < e.length then (if bt d i = bt e i then ltA d e (i + 1) else decide (bt d i < bt e i)) else decide (d.length < e.length)
termination_by d.length - i
theorem ltA_on {d e : List UInt8} {i : Nat} (h1 : i < d.length) (h2 : i < e.length) (h : bt d i = bt e i) : ltA d e i = ltA d e (i + 1) := by rw [ltA, if_pos ⟨h1, h2⟩, if_pos h]
theorem ltA_off {d e : List UInt8} {i : Nat} (h1 : i < d.length) (h2 : i < e.length) (h : ¬ bt d i = bt e i) : ltA d e i = decide (bt d i < bt e i) := by rw [ltA, if_pos ⟨h1, h2⟩, if_neg h]
theorem ltA_end {d e : List UInt8} {i : Nat} (h : ¬ (i < d.length ∧ i < e.length)) : ltA d e i = decide (d.length < e.length) := by rw [ltA, if_neg h]
/-- Which of two sizes is less: numerals and exponents. -/
def ltM (d : List UInt8) (x : Int) (e : List UInt8) (y : Int) : Bool :=
  if x + d.length = y + e.length then ltA d e 0 else decide (x + d.length < y + e.length)
end Go.Proofs.YtdclhepjoifpiaaGreatDoor.De
/- Normal forms, as lists: what is printed is read again as itself. -/
namespace Go.Proofs.YtdclhepjoifpiaaGreatDoor.De
open Go.RowKit

def nb (x : UInt8) : Bool := nmr (x.toNat : Int)
theorem bt_app_lt {a : List UInt8} (b : List UInt8) {k : Nat} (h : k < a.length) : bt (a ++ b) k = bt a k := by simp [bt, List.getElem?_append, h]
theorem bt_app_ge (a b : List UInt8) {k : Nat} (h : a.length ≤ k) : bt (a ++ b) k = bt b (k - a.length) := by simp [bt, List.getElem?_append, Nat.not_lt.2 h]
theorem bt_app (a b : List UInt8) : bt (a ++ b) a.length = bt b 0 := by rw [bt_app_ge _ _ (Nat.le_refl _), Nat.sub_self]
theorem bt_cons (x : UInt8) (b : List UInt8) : bt (x :: b) 0 = (x.toNat : Int) := by simp [bt]
theorem nmr_no {c : Int} (h : c < 48 ∨ 57 < c) : nmr c = false := by simp [nmr]; omega
theorem nmr_zero : nmr 0 = false := rfl
theorem runE_app (T : List UInt8) : ∀ (a c : List UInt8), (∀ x ∈ T, nb x = true) → nmr (bt c 0) = false → runE (a ++ (T ++ c)) a.length = a.length + T.length := by
  induction T with
  | nil => intro a c _ hc; rw [List.nil_append, runE_end (by rw [bt_app, hc]; simp)]; rfl
  | cons x T ih =>
    intro a c hT hc
    have hx : nmr (bt (a ++ (x :: T ++ c)) a.length) = true := by rw [bt_app, List.cons_append, bt_cons]; exact hT x (by simp)
    rw [runE_on (by simp) hx]
    have := ih (a ++ [x]) c (fun y hy => hT y (by simp [hy])) hc
    rw [show a ++ [x] ++ (T ++ c) = a ++ (x :: T ++ c) by simp, List.length_append] at this
    rw [show a.length + 1 = a.length + [x].length from rfl, this]; simp; omega
/-- What numerals tell. -/
def val : List UInt8 → Int → Int
  | [], n => n
  | x :: D, n => val D (10 * n + ((x.toNat : Int) - 48))
theorem val_app (D E : List UInt8) : ∀ n, val (D ++ E) n = val E (val D n) := by
  induction D with
  | nil => intro n; rfl
  | cons x D ih => intro n; exact ih _
theorem nb_range {x : UInt8} (h : nb x = true) : 48 ≤ (x.toNat : Int) ∧ (x.toNat : Int) ≤ 57 := by simpa [nb, nmr] using h
theorem val_ge (D : List UInt8) : ∀ n : Int, (∀ x ∈ D, nb x = true) → 0 ≤ n → n ≤ val D n := by
  induction D with
  | nil => intro n _ _; exact Int.le_refl _
  | cons x D ih =>
    intro n hD hn
    have hx := nb_range (hD x (by simp))
    have := ih (10 * n + ((x.toNat : Int) - 48)) (fun y hy => hD y (by simp [hy])) (by omega)
    show n ≤ val D (10 * n + ((x.toNat : Int) - 48))
    omega
theorem powA_val (D : List UInt8) : ∀ (a : List UInt8) (n : Int), (∀ x ∈ D, nb x = true) → 0 ≤ n → val D n ≤ 1000000000 → powA (a ++ D) (a.length + D.length) a.length n = some (val D n) := by
  induction D with
  | nil => intro a n _ _ _; rw [powA_end (by simp)]; rfl
  | cons x D ih =>
    intro a n hD hn hv
    have hx := nb_range (hD x (by simp))
    have hv' : val D (10 * n + ((x.toNat : Int) - 48)) ≤ 1000000000 := hv
    have hge := val_ge D (10 * n + ((x.toNat : Int) - 48)) (fun y hy => hD y (by simp [hy])) (by omega)
    have hb : bt (a ++ x :: D) a.length = (x.toNat : Int) := by rw [bt_app, bt_cons]
    rw [powA_on (by simp) (by rw [hb]; omega), hb]
    have := ih (a ++ [x]) (10 * n + ((x.toNat : Int) - 48)) (fun y hy => hD y (by simp [hy])) (by omega) hv'
    rw [show a ++ [x] ++ D = a ++ x :: D by simp] at this
    rw [show a.length + 1 = (a ++ [x]).length by simp, show a.length + (x :: D).length = (a ++ [x]).length + D.length by simp; omega, this]; rfl
theorem u8_digit (n : Nat) (h : n < 10) : ((UInt8.ofNat (48 + n)).toNat : Int) = 48 + n := by
  have : (48 + n) % 256 = 48 + n := Nat.mod_eq_of_lt (by omega)
  simp; omega
theorem itoN_spec (n : Nat) : (∀ x ∈ itoN n, nb x = true) ∧ val (itoN n) 0 = n ∧ itoN n ≠ [] := by
  induction n using Nat.strongRecOn with
  | ind n ih =>
    by_cases h : n < 10
    · rw [itoN_lt h]
      have e := u8_digit n h
      refine ⟨fun x hx => ?_, ?_, by simp⟩
      · obtain rfl : x = UInt8.ofNat (48 + n) := by simpa using hx
        unfold nb; rw [e]; simp [nmr]; omega
      · simp only [val]; rw [e]; omega
    · rw [itoN_ge h]
      obtain ⟨a1, a2, a3⟩ := ih (n / 10) (by omega)
      obtain ⟨b1, b2, b3⟩ := ih (n % 10) (by omega)
      refine ⟨fun x hx => ?_, ?_, by simp [a3]⟩
      · rcases List.mem_append.1 hx with h1 | h1
        · exact a1 x h1
        · exact b1 x h1
      · rw [val_app, a2, itoN_lt (by omega)]
        simp only [val]; rw [u8_digit _ (by omega)]; omega
end Go.Proofs.YtdclhepjoifpiaaGreatDoor.De
/- A normal form read again. -/
namespace Go.Proofs.YtdclhepjoifpiaaGreatDoor.De
open Go.RowKit

def sg (m : Bool) : List UInt8 := if m = true then [45] else []
def mk (m : Bool) (T : List UInt8) (N : Int) : List UInt8 := sg m ++ T ++ [101] ++ itoL N
theorem itoL_sg (N : Int) : itoL N = sg (decide (N < 0)) ++ itoN N.natAbs := by
  unfold itoL sg
  by_cases h : N < 0
  · rw [if_pos h, if_pos (by simp [h]), show (-N).toNat = N.natAbs by omega]; rfl
  · rw [if_neg h, if_neg (by simp [h]), show N.toNat = N.natAbs by omega]; rfl
theorem bt_head {T : List UInt8} (h : ∀ x ∈ T, nb x = true) (hne : T ≠ []) : 48 ≤ bt T 0 ∧ bt T 0 ≤ 57 := by
  cases T with
  | nil => exact absurd rfl hne
  | cons x T => rw [bt_cons]; exact nb_range (h x (by simp))
structure Parse (l : List UInt8) (m : Bool) (T : List UInt8) (N : Int) : Prop where
  e0 : q0 l = (sg m).length
  e1 : q1 l = (sg m).length + T.length
  e2 : q2 l = q1 l
  e3 : q3 l = q1 l
  is : isB l = true
  pow : powR l (q4 l) (q5 l) = (N, true)
  neg : (bt l 0 = 45) ↔ m = true
theorem mk_parse (m : Bool) (T : List UInt8) (N : Int) (hT : ∀ x ∈ T, nb x = true) (hne : T ≠ []) (hh : bt T 0 ≠ 48) (hN1 : -1000000000 ≤ N) (hN2 : N ≤ 1000000000) : Parse (mk m T N) m T N := by
  obtain ⟨d1, d2, d3⟩ := itoN_spec N.natAbs
  have hTh := bt_head hT hne
  have hDh := bt_head d1 d3
  have hTl : 0 < T.length := List.length_pos_iff.2 hne
  have hDl : 0 < (itoN N.natAbs).length := List.length_pos_iff.2 d3
  obtain ⟨l, hl⟩ : ∃ l, l = mk m T N := ⟨_, rfl⟩
  rw [← hl]
  have f1 : l = sg m ++ (T ++ ([101] ++ itoL N)) := by rw [hl]; simp [mk]
  have f2 : l = (sg m ++ T) ++ ([101] ++ itoL N) := by rw [hl]; simp [mk]
  have f3 : l = (sg m ++ T ++ [101]) ++ itoL N := by rw [hl]; simp [mk]
  have f4 : l = (sg m ++ T ++ [101] ++ sg (decide (N < 0))) ++ (itoN N.natAbs ++ []) := by rw [hl, mk, itoL_sg]; simp
  have b0 : bt l (sg m).length = bt T 0 := by
    rw [f1, bt_app, bt_app_lt _ hTl]
  have hneg : (bt l 0 = 45) ↔ m = true := by
    cases m
    · have : bt l 0 = bt T 0 := b0
      rw [this]; simp; omega
    · rw [f1]; simp [sg, bt]
  have e0 : q0 l = (sg m).length := by
    unfold q0
    cases m
    · rw [if_neg (fun h => by simpa using hneg.1 h)]; rfl
    · rw [if_pos (hneg.2 rfl)]; rfl
  have h101 : bt ([101] ++ itoL N) 0 = 101 := bt_cons 101 _
  have e1 : q1 l = (sg m).length + T.length := by
    unfold q1; rw [e0, f1]; exact runE_app T _ _ hT (by rw [h101]; rfl)
  have b1 : bt l (q1 l) = 101 := by rw [e1, ← List.length_append]; conv => lhs; rw [f2]
                                    rw [bt_app, h101]
  have hbad : bad1 l = false := by
    unfold bad1; rw [e0, b0, e1]; simp; constructor
    · omega
    · intro h; exact absurd h hh
  have hdot : dot l = false := by unfold dot; rw [b1]; rfl
  have e2 : q2 l = q1 l := by unfold q2; rw [hdot]; rfl
  have e3 : q3 l = q1 l := by unfold q3; rw [hdot]; rfl
  have hexq : exq l = true := by unfold exq; rw [e3, b1]; rfl
  have b2 : bt l (q1 l + 1) = bt (itoL N) 0 := by
    rw [e1, show (sg m).length + T.length + 1 = (sg m ++ T ++ [101]).length by simp; omega]; conv => lhs; rw [f3]
    rw [bt_app]
  have hsgn : sgn l = decide (N < 0) := by
    unfold sgn; rw [e3, b2]
    unfold itoL; split
    · rename_i h; rw [bt_cons]; simp [h]
    · rename_i h
      rw [show N.toNat = N.natAbs by omega]
      simp [h]; omega
  have e4 : q4 l = (sg m ++ T ++ [101] ++ sg (decide (N < 0))).length := by
    unfold q4; rw [hexq, hsgn, e3, e1]
    by_cases h : N < 0 <;> simp [h, sg] <;> omega
  have e5 : q5 l = q4 l + (itoN N.natAbs).length := by
    unfold q5; rw [hexq, e4]; simp only [if_true]; conv => lhs; rw [f4]
    exact runE_app _ _ _ d1 rfl
  have hlen : q5 l = l.length := by rw [e5, e4]; conv => rhs; rw [f4]
                                    simp; omega
  have his : isB l = true := by
    unfold isB; rw [hbad, hdot, hlen, hexq]
    have : l.length ≠ q4 l := by rw [← hlen, e5]; omega
    simp [this]
  have hpow : powR l (q4 l) (q5 l) = (N, true) := by
    have hp : powA l (q5 l) (q4 l) 0 = some (val (itoN N.natAbs) 0) := by
      rw [e5, e4]; conv => lhs; rw [f4, List.append_nil]
      exact powA_val _ _ 0 d1 (by omega) (by rw [d2]; omega)
    unfold powR
    rw [hp, d2]
    simp only []
    have hlt : q4 l < q5 l := by omega
    by_cases h : N < 0
    · have : bt l (q4 l - 1) = 45 := by
        have e : q4 l - 1 = (sg m ++ T ++ [101]).length := by rw [e4]; simp [h, sg]
        rw [e, f3, bt_app, itoL_sg]; simp [h, sg, bt]
      rw [if_pos ⟨hlt, this⟩]; congr 1; omega
    · have : bt l (q4 l - 1) = 101 := by
        have e : q4 l - 1 = (sg m ++ T).length := by rw [e4]; simp [h, sg]
        rw [e, f2, bt_app, h101]
      rw [if_neg (fun h => by omega)]; congr 1; omega
  exact ⟨e0, e1, e2, e3, his, hpow, hneg⟩
/-- What is a normal form's numerals. -/
structure Fine (T : List UInt8) : Prop where
  nums : ∀ x ∈ T, nb x = true
  some : T ≠ []
  first : bt T 0 ≠ 48
  last : bt T (T.length - 1) ≠ 48
theorem rd_mk (m : Bool) {T : List UInt8} (N : Int) (hT : Fine T) (hN1 : -1000000000 ≤ N) (hN2 : N ≤ 1000000000) :
    rd (mk m T N) = (mk m T N, 0) ∧ norm (mk m T N) = true ∧ mk m T N ≠ [48] ∧ ptM (mk m T N) = m ∧ ptD (mk m T N) = T ∧ ptX (mk m T N) = N := by
  have P := mk_parse m T N hT.nums hT.some hT.first hN1 hN2
  have hTl : 0 < T.length := List.length_pos_iff.2 hT.some
  have hcut : ((mk m T N).take (q1 (mk m T N))).drop (q0 (mk m T N)) = T := by
    rw [P.e0, P.e1, ← List.length_append, show mk m T N = (sg m ++ T) ++ ([101] ++ itoL N) by simp [mk], List.take_left, List.drop_left]
  have hD : rdD (mk m T N) = T := by
    unfold rdD; rw [hcut, P.e2, P.e3]; simp
  have hR : trimR (rdD (mk m T N)) = T := by rw [hD]; exact trimR_end (fun h => hT.last h.2)
  have hT' : rdT (mk m T N) = T := by unfold rdT; rw [hR]; exact trimL_end (fun h => hT.first h.2)
  have hN : rdN (mk m T N) = N := by unfold rdN; rw [hR, hD, P.pow, P.e2, P.e3]; simp
  have h48 : mk m T N ≠ [48] := by
    intro h
    have := congrArg List.length h
    simp [mk] at this
    have := List.length_pos_iff.2 (itoN_spec N.natAbs).2.2
    have e := itoL_sg N
    have := congrArg List.length e
    simp at this; omega
  have hr : rd (mk m T N) = (mk m T N, 0) := by
    rw [rd_ok P.is (by rw [P.pow]) (by rw [hT']; exact hT.some) (by rw [hN]; omega), hT', hN]
    have e : (if bt (mk m T N) 0 = 45 then [(45 : UInt8)] else []) = sg m := by
      unfold sg
      by_cases h : m = true
      · rw [if_pos (P.neg.2 h), if_pos h]
      · rw [if_neg (fun h2 => h (P.neg.1 h2)), if_neg h]
    rw [e]; rfl
  have hn : norm (mk m T N) = true := by unfold norm; rw [hr]; simp
  refine ⟨hr, hn, h48, ?_, ?_, ?_⟩
  · unfold ptM; rw [hn]
    cases m
    · simp; intro _ h; exact absurd (P.neg.1 h) (by simp)
    · simp [h48, P.neg.2 rfl]
  · unfold ptD; rw [if_neg (by rw [hn]; simp), if_neg h48, hcut]
  · unfold ptX; rw [if_neg (fun h => h.elim (by rw [hn]; simp) h48), P.pow]
theorem nb_of_runE {l : List UInt8} {i : Nat} : ∀ x ∈ (l.take (runE l i)).drop i, nb x = true := by
  intro x hx
  obtain ⟨k, hk, rfl⟩ := List.mem_iff_getElem.1 hx
  simp at hk
  have := runE_nmr l i (i + k) (by omega) (by omega)
  unfold nb
  simpa [bt, show i + k < l.length by omega] using this
theorem rdD_nb (l : List UInt8) : ∀ x ∈ rdD l, nb x = true := by
  intro x hx
  unfold rdD at hx
  rcases List.mem_append.1 hx with h | h
  · exact nb_of_runE x h
  · unfold q3 at h; split at h
    · exact nb_of_runE x h
    · have : q1 l ≤ q2 l := (q_order (l := l)).2.1
      have e : (l.take (q1 l)).drop (q2 l) = [] := List.drop_eq_nil_of_le (by simp; omega)
      rw [e] at h; exact absurd h (by simp)
theorem trimR_spec (d : List UInt8) : (∀ x ∈ trimR d, x ∈ d) ∧ (trimR d ≠ [] → bt (trimR d) ((trimR d).length - 1) ≠ 48) := by
  by_cases h : 0 < d.length ∧ bt d (d.length - 1) = 48
  · rw [trimR_on h.1 h.2]
    have := trimR_spec (d.take (d.length - 1))
    exact ⟨fun x hx => List.mem_of_mem_take (this.1 x hx), this.2⟩
  · rw [trimR_end h]
    exact ⟨fun x hx => hx, fun hne h2 => h ⟨List.length_pos_iff.2 hne, h2⟩⟩
termination_by d.length
decreasing_by simp; omega
theorem trimL_spec (d : List UInt8) : (∀ x ∈ trimL d, x ∈ d) ∧ (trimL d ≠ [] → bt (trimL d) 0 ≠ 48 ∧ bt (trimL d) ((trimL d).length - 1) = bt d (d.length - 1)) := by
  by_cases h : 0 < d.length ∧ bt d 0 = 48
  · rw [trimL_on h.1 h.2]
    have := trimL_spec (d.drop 1)
    refine ⟨fun x hx => List.mem_of_mem_drop (this.1 x hx), fun hne => ⟨(this.2 hne).1, ?_⟩⟩
    rw [(this.2 hne).2, bt_drop]
    have h2 : 0 < (d.drop 1).length := by
      rcases Nat.eq_zero_or_pos (d.drop 1).length with h3 | h3
      · have e := List.length_eq_zero_iff.1 h3
        have := trimL_len (d.drop 1)
        exact absurd (List.length_eq_zero_iff.1 (by omega)) hne
      · exact h3
    congr 1; simp at h2 ⊢; omega
  · rw [trimL_end h]
    exact ⟨fun x hx => hx, fun hne => ⟨fun h2 => h ⟨List.length_pos_iff.2 hne, h2⟩, rfl⟩⟩
termination_by d.length
decreasing_by simp; omega
theorem rdT_fine {l : List UInt8} (h : rdT l ≠ []) : Fine (rdT l) := by
  have hL := trimL_spec (trimR (rdD l))
  have hR := trimR_spec (rdD l)
  have h2 : trimR (rdD l) ≠ [] := by
    intro e
    unfold rdT at h; rw [e] at h
    exact h (trimL_end (by simp))
  exact ⟨fun x hx => rdD_nb l x (hR.1 x (hL.1 x hx)), h, (hL.2 h).1, by unfold rdT; rw [(hL.2 h).2]; exact hR.2 h2⟩
/-- What Read's text is where there is one. -/
theorem rd_shape {l : List UInt8} (h : (rd l).2 = 0) : (rd l).1 = [48] ∨ ∃ m T N, (rd l).1 = mk m T N ∧ Fine T ∧ -1000000000 ≤ N ∧ N ≤ 1000000000 := by
  cases h1 : isB l
  · rw [rd_syntax h1] at h; simp at h
  · cases h2 : (powR l (q4 l) (q5 l)).2
    · rw [rd_exp h1 h2] at h; simp at h
    · by_cases h3 : rdT l = []
      · left; rw [rd_zero h1 h2 h3]
      · by_cases h4 : rdN l > 1000000000 ∨ rdN l < -1000000000
        · rw [rd_far h1 h2 h3 h4] at h; simp at h
        · right
          refine ⟨decide (bt l 0 = 45), rdT l, rdN l, ?_, rdT_fine h3, by omega, by omega⟩
          rw [rd_ok h1 h2 h3 h4]
          simp [mk, sg]
end Go.Proofs.YtdclhepjoifpiaaGreatDoor.De
/- The order of normal forms, as lists. -/
namespace Go.Proofs.YtdclhepjoifpiaaGreatDoor.De
open Go.RowKit

def lexL : List UInt8 → List UInt8 → Bool
  | [], [] => false
  | [], _ :: _ => true
  | _ :: _, [] => false
  | a :: s, b :: t => if a = b then lexL s t else decide (a.toNat < b.toNat)
theorem lexL_irr (d : List UInt8) : lexL d d = false := by
  induction d with
  | nil => rfl
  | cons a s ih => simp [lexL, ih]
theorem u8_ne {a b : UInt8} (h : a ≠ b) : a.toNat ≠ b.toNat := fun e => h (UInt8.toNat_inj.1 e)
theorem lexL_asym : ∀ d e : List UInt8, lexL d e = true → lexL e d = false
  | [], [], h => by cases h
  | [], _ :: _, _ => rfl
  | _ :: _, [], h => by cases h
  | a :: s, b :: t, h => by
    by_cases e : a = b
    · subst e; simp [lexL] at h ⊢; exact lexL_asym s t h
    · simp [lexL, e] at h; simp [lexL, Ne.symm e]; omega
theorem lexL_tot : ∀ d e : List UInt8, d ≠ e → lexL d e = true ∨ lexL e d = true
  | [], [], h => absurd rfl h
  | [], _ :: _, _ => Or.inl rfl
  | _ :: _, [], _ => Or.inr rfl
  | a :: s, b :: t, h => by
    by_cases e : a = b
    · subst e; simp [lexL]; exact lexL_tot s t (fun h2 => h (by rw [h2]))
    · have := u8_ne e; simp [lexL, e, Ne.symm e]; omega
theorem lexL_tra : ∀ d e f : List UInt8, lexL d e = true → lexL e f = true → lexL d f = true
  | _, [], [], _, h => by cases h
  | [], [], _ :: _, h, _ => by cases h
  | _ :: _, [], _ :: _, h, _ => by cases h
  | [], _ :: _, [], _, h => by cases h
  | [], _ :: _, _ :: _, _, _ => rfl
  | _ :: _, _ :: _, [], _, h => by cases h
  | a :: s, b :: t, c :: u, h1, h2 => by
    by_cases e : a = b
    · subst e
      by_cases e2 : a = c
      · subst e2; simp [lexL] at *; exact lexL_tra s t u h1 h2
      · simp [lexL, e2] at h2 ⊢; exact h2
    · by_cases e2 : b = c
      · subst e2; simp [lexL, e] at h1 ⊢; exact h1
      · have e3 : a ≠ c := by
          intro e3; subst e3; simp [lexL, e, e2] at h1 h2; omega
        simp [lexL, e, e2] at h1 h2; simp [lexL, e3]; omega
theorem ltA_lex (d e : List UInt8) (i : Nat) (h1 : i ≤ d.length) (h2 : i ≤ e.length) : ltA d e i = lexL (d.drop i) (e.drop i) := by
  by_cases g1 : i < d.length
  · by_cases g2 : i < e.length
    · have hd : d.drop i = d[i] :: d.drop (i + 1) := List.drop_eq_getElem_cons g1
      have he : e.drop i = e[i] :: e.drop (i + 1) := List.drop_eq_getElem_cons g2
      have bd : bt d i = (d[i].toNat : Int) := by simp [bt, g1]
      have be : bt e i = (e[i].toNat : Int) := by simp [bt, g2]
      rw [hd, he]
      by_cases g : d[i] = e[i]
      · rw [ltA_on g1 g2 (by rw [bd, be, g]), ltA_lex d e (i + 1) g1 g2]; simp [lexL, g]
      · have hne := u8_ne g
        rw [ltA_off g1 g2 (by rw [bd, be]; omega), bd, be]; simp [lexL, g]
    · rw [ltA_end (by omega), List.drop_eq_nil_of_le (Nat.not_lt.1 g2), List.drop_eq_getElem_cons g1]; simp [lexL]; omega
  · rw [ltA_end (by omega), List.drop_eq_nil_of_le (Nat.not_lt.1 g1)]
    by_cases g2 : i < e.length
    · rw [List.drop_eq_getElem_cons g2]; simp [lexL]; omega
    · rw [List.drop_eq_nil_of_le (Nat.not_lt.1 g2)]; simp [lexL]; omega
termination_by d.length - i
theorem ltM_iff (d : List UInt8) (x : Int) (e : List UInt8) (y : Int) : ltM d x e y = true ↔ (x + d.length < y + e.length ∨ (x + d.length = y + e.length ∧ lexL d e = true)) := by
  unfold ltM
  split
  · rename_i h; rw [ltA_lex d e 0 (Nat.zero_le _) (Nat.zero_le _)]; simp only [List.drop_zero]
    exact ⟨fun h2 => Or.inr ⟨h, h2⟩, fun h2 => h2.elim (fun h3 => by omega) (fun h3 => h3.2)⟩
  · rename_i h; rw [decide_eq_true_eq]
    exact ⟨Or.inl, fun h2 => h2.elim id (fun h3 => absurd h3.1 h)⟩
theorem ltM_asym {d e : List UInt8} {x y : Int} (h : ltM d x e y = true) : ltM e y d x = false := by
  rw [ltM_iff] at h
  rw [Bool.eq_false_iff]
  intro h2
  rw [ltM_iff] at h2
  rcases h with h | ⟨h, hl⟩
  · rcases h2 with h2 | ⟨h2, _⟩ <;> omega
  · rcases h2 with h2 | ⟨h2, hl2⟩
    · omega
    · rw [lexL_asym _ _ hl] at hl2; cases hl2
theorem ltM_tot {d e : List UInt8} {x y : Int} (h : ¬ (d = e ∧ x = y)) : ltM d x e y = true ∨ ltM e y d x = true := by
  rw [ltM_iff, ltM_iff]
  by_cases h1 : x + d.length = y + e.length
  · have hne : d ≠ e := fun e1 => h ⟨e1, by subst e1; omega⟩
    rcases lexL_tot d e hne with h2 | h2
    · exact Or.inl (Or.inr ⟨h1, h2⟩)
    · exact Or.inr (Or.inr ⟨h1.symm, h2⟩)
  · omega
theorem ltM_tra {d e f : List UInt8} {x y z : Int} (h1 : ltM d x e y = true) (h2 : ltM e y f z = true) : ltM d x f z = true := by
  rw [ltM_iff] at *
  rcases h1 with h1 | ⟨h1, l1⟩ <;> rcases h2 with h2 | ⟨h2, l2⟩
  · left; omega
  · left; omega
  · left; omega
  · right; exact ⟨by omega, lexL_tra _ _ _ l1 l2⟩
theorem rd_nought : rd [48] = ([48], 0) := by
  have n48 : ∀ x ∈ ([48] : List UInt8), nb x = true := by intro x hx; rw [List.mem_singleton.1 hx]; rfl
  have e0 : q0 [48] = 0 := by simp [q0, bt]
  have e1 : q1 [48] = 1 := by unfold q1; rw [e0]; exact runE_app [48] [] [] n48 rfl
  have b1 : bt [48] 1 = 0 := rfl
  have hb : bad1 [48] = false := by unfold bad1; rw [e0, e1]; simp
  have hd : dot [48] = false := by unfold dot; rw [e1, b1]; rfl
  have e2 : q2 [48] = 1 := by unfold q2; rw [hd, e1]; rfl
  have e3 : q3 [48] = 1 := by unfold q3; rw [hd, e1]; rfl
  have hx : exq [48] = false := by unfold exq; rw [e3, b1]; rfl
  have e4 : q4 [48] = 1 := by unfold q4; rw [hx, e3]; rfl
  have e5 : q5 [48] = 1 := by unfold q5; rw [hx, e3]; rfl
  have his : isB [48] = true := by unfold isB; rw [hb, hd, hx, e5]; rfl
  have hp : powR [48] (q4 [48]) (q5 [48]) = (0, true) := by rw [e4, e5]; unfold powR; rw [powA_end (by omega)]; simp
  have hD : rdD [48] = [48] := by unfold rdD; rw [e0, e1, e2, e3]; rfl
  have hT : rdT [48] = [] := by
    unfold rdT; rw [hD, trimR_on (by simp) rfl]
    rw [show ([48] : List UInt8).take (([48] : List UInt8).length - 1) = [] from rfl, trimR_end (by simp), trimL_end (by simp)]
  exact rd_zero his (by rw [hp]) hT
theorem norm_nought : norm [48] = true := by unfold norm; rw [rd_nought]; rfl
theorem norm_shape {l : List UInt8} (h : norm l = true) : l = [48] ∨ ∃ m T N, l = mk m T N ∧ Fine T ∧ -1000000000 ≤ N ∧ N ≤ 1000000000 := by
  unfold norm at h
  simp at h
  have := rd_shape h.1
  rw [h.2] at this
  exact this
/-- Read's text is its own normal form. -/
theorem norm_rd {l : List UInt8} (h : (rd l).2 = 0) : norm (rd l).1 = true := by
  rcases rd_shape h with e | ⟨m, T, N, e, hT, h1, h2⟩
  · rw [e]; exact norm_nought
  · rw [e]; exact (rd_mk m N hT h1 h2).2.1
theorem Fine.ne {T : List UInt8} (h : Fine T) : T ≠ [48] := fun e => h.first (by rw [e]; rfl)
theorem norm_unlike {l : List UInt8} (h : norm l = true) : ptD l = [48] ↔ l = [48] := by
  rcases norm_shape h with e | ⟨m, T, N, e, hT, h1, h2⟩
  · subst e; unfold ptD; simp [norm_nought]
  · have R := rd_mk m N hT h1 h2
    rw [← e] at R
    exact ⟨fun h3 => absurd (R.2.2.2.2.1 ▸ h3) hT.ne, fun h3 => absurd h3 R.2.2.1⟩
/-- The parts tell the text. -/
theorem norm_inj {a b : List UInt8} (ha : norm a = true) (hb : norm b = true) (hM : ptM a = ptM b) (hD : ptD a = ptD b) (hX : ptX a = ptX b) : a = b := by
  rcases norm_shape ha with e | ⟨m, T, N, e, hT, h1, h2⟩
  · have := (norm_unlike ha).2 e
    rw [hD] at this
    rw [e, (norm_unlike hb).1 this]
  · have R := rd_mk m N hT h1 h2
    rw [← e] at R
    rcases norm_shape hb with e' | ⟨m', T', N', e', hT', h1', h2'⟩
    · have := (norm_unlike hb).2 e'
      rw [← hD] at this
      exact absurd ((norm_unlike ha).1 this) R.2.2.1
    · have R' := rd_mk m' N' hT' h1' h2'
      rw [← e'] at R'
      have m1 := R.2.2.2.1.symm.trans (hM.trans R'.2.2.2.1)
      have m2 := R.2.2.2.2.1.symm.trans (hD.trans R'.2.2.2.2.1)
      have m3 := R.2.2.2.2.2.symm.trans (hX.trans R'.2.2.2.2.2)
      rw [e, e', m1, m2, m3]
end Go.Proofs.YtdclhepjoifpiaaGreatDoor.De
/- The program's own normal form in parts, walked. -/
namespace Go.Proofs.YtdclhepjoifpiaaGreatDoor.De
open Go.RowKit

theorem trimL_B (d : List UInt8) : trimL d = Lib.trimLeftB d 48 := by
  unfold Lib.trimLeftB
  cases d with
  | nil => rw [trimL_end (by simp)]; rfl
  | cons x r =>
    by_cases h : x = 48
    · subst h
      rw [trimL_on (by simp) (by rw [bt_cons]; rfl), List.drop_succ_cons, List.drop_zero, trimL_B r, List.dropWhile_cons, if_pos (by simp)]; rfl
    · rw [trimL_end, List.dropWhile_cons, if_neg (by simp [h])]
      rw [bt_cons]
      intro h2
      exact h (UInt8.toNat_inj.1 (by have := h2.2; simpa using (by omega : x.toNat = 48)))
theorem trimR_B' : ∀ (n : Nat) (d : List UInt8), d.length = n → trimR d = Lib.trimRightB d 48 := by
  intro n
  induction n with
  | zero => intro d hd; obtain rfl := List.length_eq_zero_iff.1 hd; rw [trimR_end (by simp)]; rfl
  | succ n ih =>
    intro d hd
    rcases List.eq_nil_or_concat d with rfl | ⟨r, x, rfl⟩
    · simp at hd
    · rw [List.concat_eq_append] at hd ⊢
      have hr : r.length = n := by simpa using hd
      have hb : bt (r ++ [x]) ((r ++ [x]).length - 1) = (x.toNat : Int) := by
        rw [show (r ++ [x]).length - 1 = r.length by simp, bt_app, bt_cons]
      unfold Lib.trimRightB
      by_cases h : x = 48
      · subst h
        rw [trimR_on (by simp) (by rw [hb]; rfl), show (r ++ [(48 : UInt8)]).take ((r ++ [(48 : UInt8)]).length - 1) = r by simp, ih r hr]
        unfold Lib.trimRightB
        rw [List.reverse_append, List.reverse_singleton, List.singleton_append, List.dropWhile_cons, if_pos (by simp)]
      · rw [trimR_end, List.reverse_append, List.reverse_singleton, List.singleton_append, List.dropWhile_cons, if_neg (by simp [h])]
        · simp
        · rw [hb]
          intro h2
          exact h (UInt8.toNat_inj.1 (by have := h2.2; simpa using (by omega : x.toNat = 48)))
theorem trimR_B (d : List UInt8) : trimR d = Lib.trimRightB d 48 := trimR_B' d.length d rfl
theorem trimL_nil : ∀ {d : List UInt8}, trimL d = [] → ∀ x ∈ d, x = 48
  | [], _, x, hx => by cases hx
  | y :: r, h, x, hx => by
    by_cases hy : y = 48
    · subst hy
      rw [trimL_on (d := 48 :: r) (by simp) (by rw [bt_cons]; rfl), List.drop_succ_cons, List.drop_zero] at h
      rcases List.mem_cons.1 hx with h1 | h1
      · exact h1
      · exact trimL_nil h x h1
    · rw [trimL_end] at h
      · cases h
      · rw [bt_cons]
        intro h2
        exact hy (UInt8.toNat_inj.1 (by have := h2.2; simpa using (by omega : y.toNat = 48)))
theorem kept_nil {d : List UInt8} : trimL (trimR d) = [] ↔ trimR d = [] := by
  refine ⟨fun h => ?_, fun h => by rw [h]; exact trimL_end (by simp)⟩
  have h2 := trimL_nil h
  by_cases h3 : trimR d = []
  · exact h3
  · exfalso
    have h4 := (trimR_spec d).2 h3
    have hl : 0 < (trimR d).length := List.length_pos_iff.2 h3
    have h5 := h2 ((trimR d)[(trimR d).length - 1]) (List.getElem_mem _)
    apply h4
    unfold bt
    rw [List.getD_eq_getElem?_getD, List.getElem?_eq_getElem (by omega), Option.getD_some, h5]; rfl
abbrev fv (m : Bool) (d : ByteArray) (x : Int) : Value := .agg #[.bool m, .string d, .int .i64 x]
abbrev fo (m : Bool) (d : ByteArray) (x : Int) : Obj := .cells #[.bool m, .string d, .int .i64 x] 142
/-- The normal form in parts, of the written parts and what the exponent is. -/
def fmM (K : List UInt8) (a : Bool) : Bool := if K = [] then false else a
def fmD (K : List UInt8) : List UInt8 := if K = [] then [48] else trimL K
def fmX (B C K : List UInt8) (e : Int) : Int := if K = [] then 0 else e - C.length + ((B ++ C).length : Int) - K.length
/-- The world behind it: a draw where there are numerals left. -/
def fmW (w : World) (o o' : Obj) (K : List UInt8) : World := if K = [] then (w.alloc o).alloc o' else ((w.alloc o).alloc o').drew
theorem fmW_nil {w : World} {o o' : Obj} {K : List UInt8} (h : K = []) : fmW w o o' K = (w.alloc o).alloc o' := if_pos h
theorem fmW_some {w : World} {o o' : Obj} {K : List UInt8} (h : K ≠ []) : fmW w o o' K = ((w.alloc o).alloc o').drew := if_neg h
theorem trimRight_is {d : List UInt8} {s t : ByteArray} (hs : s = txt d) (ht : t = txt (trimR d)) (hm : d.length ≤ 2000000) (w : World) :
    Calls Tryz.prog 106 #[.string s, .string ⟨#[48]⟩] w fun e w' => e = .returned (.string t) ∧ w = w' := by
  refine (Tryz.strings_TrimRight_one s 48 (by decide) w (by rw [hs, txt_size]; omega)).mono ?_
  rintro e w' ⟨rfl, rfl⟩
  exact ⟨by rw [ht, trimR_B, hs]; rfl, rfl⟩
theorem trimLeft_is {d : List UInt8} {s t : ByteArray} (hs : s = txt d) (ht : t = txt (trimL d)) (w : World) :
    Calls Tryz.prog 107 #[.string s, .string ⟨#[48]⟩] w fun e w' => e = .returned (.string t) ∧ w' = w := by
  refine (Tryz.strings_TrimLeft_one s 48 (by decide) w).mono ?_
  rintro e w' ⟨rfl, rfl⟩
  exact ⟨by rw [ht, trimL_B, hs]; rfl, rfl⟩
set_option maxHeartbeats 2000000 in
theorem form_any {B C : List UInt8} {a d : Bool} {b c f : ByteArray} (x : Int) (w : World) (hb : b = txt B) (hc : c = txt C) (hB : B.length ≤ 1000000) (hC : C.length ≤ 1000000) (hx1 : -1000000000 ≤ x) (hx2 : x ≤ 1000000000) :
    Calls Tryz.prog 99 #[wv a b c d f, .int .i64 x] w fun e w' => e = .returned (fv (fmM (trimR (B ++ C)) a) (txt (fmD (trimR (B ++ C)))) (fmX B C (trimR (B ++ C)) x)) ∧ ∃ (o o' : Obj), w' = fmW w o o' (trimR (B ++ C)) := by
  have hdl : (B ++ C).length ≤ 2000000 := by simp; omega
  obtain ⟨D, hD⟩ : ∃ D, D = txt (B ++ C) := ⟨_, rfl⟩
  obtain ⟨K, hK⟩ : ∃ K, K = trimR (B ++ C) := ⟨_, rfl⟩
  obtain ⟨k, hk⟩ : ∃ k, k = txt K := ⟨_, rfl⟩
  obtain ⟨t, ht⟩ : ∃ t, t = txt (trimL K) := ⟨_, rfl⟩
  have TR := Lib.hid (fun w => trimRight_is (s := D) (t := k) hD (by rw [hk, hK]) hdl w)
  have TL := Lib.hid (fun w => trimLeft_is (s := k) (t := t) hk ht w)
  have hbc : b ++ c = D := by rw [hb, hc, hD, txt_app]
  have hke : k.toList.isEmpty = K.isEmpty := by rw [hk, txt_list]
  have hk0 : k.size ≤ 2000000 := by rw [hk, txt_size, hK]; have := trimR_len (B ++ C); omega
  have hc0 : c.size ≤ 1000000 := by rw [hc, txt_size]; omega
  have hb0 : b.size ≤ 1000000 := by rw [hb, txt_size]; omega
  have hd0 : D.size ≤ 2000000 := by rw [hD, txt_size]; omega
  have HX := Lib.hid (show K ≠ [] → fmX B C K x = x - c.size + D.size - k.size by intro h; unfold fmX; rw [if_neg h, hc, hD, hk, txt_size, txt_size, txt_size])
  rw [← hK]
  have HT := Lib.hid ht
  have HBC := Lib.hid hbc
  have HKE := Lib.hid hke
  clear hb hc hD hk ht hbc hke hB hC hdl hK
  go_enter Tryz.func99, Tryz.ntmps99
  go_upto_region 2 with fail
  rw [HBC.out]
  go_wp2_with fail
  refine (TR.out _).mono ?_
  rintro e w1 ⟨rfl, rfl⟩
  by_cases hn : K = []
  · have HN := Lib.hid hn
    have he : k.toList.isEmpty = true := by rw [HKE.out, hn]; rfl
    have E1 := Lib.hid (show fmM K a = false by unfold fmM; rw [if_pos hn])
    have E2 := Lib.hid (show fmD K = [48] by unfold fmD; rw [if_pos hn])
    have E3 := Lib.hid (show fmX B C K x = 0 by unfold fmX; rw [if_pos hn])
    clear hn
    go_wp2_with fail
    refine bodyPost_ret (v := fv false ⟨#[48]⟩ 0) (by simp [results, Tryz.results99, go_sem]) rfl ?_
    exact ⟨by rw [E1.out, E2.out, E3.out]; rfl, _, _, (fmW_nil HN.out).symm⟩
  · have HN := Lib.hid hn
    have he : k.toList.isEmpty = false := by rw [HKE.out]; simpa using hn
    have E1 := Lib.hid (show fmM K a = a by unfold fmM; rw [if_neg hn])
    have E2 := Lib.hid (show txt (fmD K) = t by unfold fmD; rw [if_neg hn, HT.out])
    have E3 := Lib.hid (HX.out hn)
    have HW := Lib.hid (show IntKind.i64.wrap (IntKind.i64.wrap (IntKind.i64.wrap (x - c.size) + D.size) - k.size) = x - c.size + D.size - k.size by
      rw [IntWalk.i64_in (x - c.size) (by omega), IntWalk.i64_in (x - c.size + D.size) (by omega), IntWalk.i64_in _ (by omega)])
    clear hn
    go_upto_region 5 with fail
    go_region_with (go_at_call 107; refine (TL.out _).mono ?_; rintro e w2 ⟨rfl, rfl⟩)
    all_goals go_wp2_with fail
    all_goals refine bodyPost_ret (v := fv a t (IntKind.i64.wrap (IntKind.i64.wrap (IntKind.i64.wrap (x - c.size) + D.size) - k.size))) (by simp [results, Tryz.results99, go_sem]) rfl ?_
    all_goals exact ⟨by rw [E1.out, E2.out, E3.out, HW.out], _, _, (fmW_some HN.out).symm⟩
end Go.Proofs.YtdclhepjoifpiaaGreatDoor.De
/- The program's own reading of a text into a normal form in parts, walked. -/
namespace Go.Proofs.YtdclhepjoifpiaaGreatDoor.De
open Go.RowKit

/-- The parts that a text's normal form has; of a text without one: nothing. -/
def frM (l : List UInt8) : Bool := if (rd l).2 = 0 then fmM (trimR (rdD l)) (decide (bt l 0 = 45)) else false
def frD (l : List UInt8) : List UInt8 := if (rd l).2 = 0 then fmD (trimR (rdD l)) else []
def frX (l : List UInt8) : Int := if (rd l).2 = 0 then (if trimR (rdD l) = [] then 0 else rdN l) else 0
theorem fr_none {l : List UInt8} (h : (rd l).2 ≠ 0) : frM l = false ∧ frD l = [] ∧ frX l = 0 := ⟨if_neg h, if_neg h, if_neg h⟩
theorem frD_len (l : List UInt8) : (frD l).length ≤ 2 * l.length + 1 := by
  unfold frD fmD; split
  · split
    · simp
    · have := trimL_len (trimR (rdD l)); have := trimR_len (rdD l); have := rdD_len l; omega
  · simp
theorem rdN_far {l : List UInt8} (h1 : -1000000000 ≤ (powR l (q4 l) (q5 l)).1) (h2 : (powR l (q4 l) (q5 l)).1 ≤ 1000000000) (hm : l.length ≤ 1000000) : -2000000000 ≤ rdN l ∧ rdN l ≤ 3000000000 := by
  obtain ⟨o1, o2, o3, o4, o5, o6, _, _⟩ := q_order (l := l)
  have := trimR_len (rdD l)
  have := rdD_len l
  unfold rdN; omega
theorem frX_range (l : List UInt8) : -1000000000 ≤ frX l ∧ frX l ≤ 1000000000 := by
  unfold frX
  split
  · rename_i h
    split
    · omega
    · rename_i h2
      cases hB : isB l
      · rw [rd_syntax hB] at h; simp at h
      · cases hp : (powR l (q4 l) (q5 l)).2
        · rw [rd_exp hB hp] at h; simp at h
        · have hT : rdT l ≠ [] := fun e => h2 (kept_nil.1 e)
          by_cases h4 : rdN l > 1000000000 ∨ rdN l < -1000000000
          · rw [rd_far hB hp hT h4] at h; simp at h
          · omega
  · omega
theorem ret_fc {m m' : Bool} {d d' : ByteArray} {x x' c c' : Int} (h1 : m = m') (h2 : d = d') (h3 : x = x') (h4 : c = c') : Ending.returned (.tuple #[fv m d x, .int .i64 c]) = .returned (.tuple #[fv m' d' x', .int .i64 c']) := by rw [h1, h2, h3, h4]
set_option maxHeartbeats 2000000 in
theorem rd2_any {l : List UInt8} {s : ByteArray} (w : World) (hs : s = txt l) (hm : l.length ≤ 1000000) :
    Calls Tryz.prog 89 #[.string s] w fun e w' => e = .returned (.tuple #[fv (frM l) (txt (frD l)) (frX l), .int .i64 (rd l).2]) ∧ Below w.heap.size w w' := by
  have SP := Lib.hid (fun w => split_any (l := l) w hs hm)
  obtain ⟨o1, o2, o3, o4, o5, o6, o7, o8⟩ := q_order (l := l)
  have ⟨r1, r2⟩ := powR_range l (q4 l) (q5 l) o8
  have hfar := rdN_far r1 r2 hm
  have EX := Lib.hid (fun (a d : Bool) (b c f : ByteArray) (hf : f = txt ((l.take (q5 l)).drop (q4 l))) (hd : d = decide (q4 l < q5 l ∧ bt l (q4 l - 1) = 45)) w => by
    have h := expo_any (P := (l.take (q5 l)).drop (q4 l)) (a := a) (d := d) (b := b) (c := c) (f := f) w hf (by
      intro k hk
      simp at hk
      rw [bt_drop, bt_take l (by omega)]
      exact o8 _ (by omega) (by omega)) (by simp; omega)
    rw [hd, exR_is, ← hd] at h
    exact h)
  have FM := Lib.hid (fun (a d : Bool) (b c f : ByteArray) (hb : b = txt ((l.take (q1 l)).drop (q0 l))) (hc : c = txt ((l.take (q3 l)).drop (q2 l))) w =>
    form_any (B := (l.take (q1 l)).drop (q0 l)) (C := (l.take (q3 l)).drop (q2 l)) (a := a) (d := d) (b := b) (c := c) (f := f) (powR l (q4 l) (q5 l)).1 w hb hc (by simp; omega) (by simp; omega) r1 r2)
  have hfx : fmX ((l.take (q1 l)).drop (q0 l)) ((l.take (q3 l)).drop (q2 l)) (trimR (rdD l)) (powR l (q4 l) (q5 l)).1 = if trimR (rdD l) = [] then 0 else rdN l := by
    unfold fmX; split
    · rfl
    · unfold rdN
      show _ - (((l.take (q3 l)).drop (q2 l)).length : Int) + ((rdD l).length : Int) - _ = _
      rw [show ((l.take (q3 l)).drop (q2 l)).length = q3 l - q2 l by simp; omega]; omega
  have HFX := Lib.hid hfx
  clear hs hm o1 o2 o3 o4 o5 o6 o7 o8 hfx
  go_enter Tryz.func89, Tryz.ntmps89
  go_wp2_with fail
  refine (SP.out _).mono ?_
  rintro e w1 ⟨a, b, c, d, f, rfl, hp, o1, o2, rfl⟩
  have HP := Lib.hid hp
  clear hp
  by_cases hB : isB l = true
  · have HB := Lib.hid hB
    obtain ⟨ha, hb, hc, hd, hf⟩ := HP.out hB
    have EX2 := Lib.hid (EX.out a d b c f hf hd)
    have FM2 := Lib.hid (FM.out a d b c f hb hc)
    have HA := Lib.hid ha
    rw [hB]
    clear ha hb hc hd hf hB EX HP SP
    obtain ⟨pn, hpn⟩ : ∃ x, (powR l (q4 l) (q5 l)).1 = x := ⟨_, rfl⟩
    obtain ⟨pb, hpb⟩ : ∃ x, (powR l (q4 l) (q5 l)).2 = x := ⟨_, rfl⟩
    rw [hpn] at EX2 FM2 HFX
    rw [hpb] at EX2
    have HPB := Lib.hid hpb
    clear hpn hpb r1 r2
    rw [show (l.take (q1 l)).drop (q0 l) ++ (l.take (q3 l)).drop (q2 l) = rdD l from rfl, HFX.out] at FM2
    obtain ⟨K, hK⟩ : ∃ K, trimR (rdD l) = K := ⟨_, rfl⟩
    rw [hK] at FM2
    have HK := Lib.hid hK
    obtain ⟨M, hM⟩ : ∃ M, fmM K a = M := ⟨_, rfl⟩
    obtain ⟨T, hT⟩ : ∃ T, txt (fmD K) = T := ⟨_, rfl⟩
    obtain ⟨X, hX⟩ : ∃ X, (if K = [] then 0 else rdN l) = X := ⟨_, rfl⟩
    rw [hM, hT, hX] at FM2
    have hX1 : -2000000000 ≤ X := by rw [← hX]; split <;> omega
    have hX2 : X ≤ 3000000000 := by rw [← hX]; split <;> omega
    have HM := Lib.hid hM
    have HT := Lib.hid hT
    have HX := Lib.hid hX
    clear hK hM hT hX HFX hfar FM
    go_wp2_with fail
    refine (EX2.out _).mono ?_
    rintro e w2 ⟨rfl, rfl⟩
    cases pb
    · have E := Lib.hid (rd_exp HB.out HPB.out)
      have F := Lib.hid (fr_none (l := l) (by rw [E.out]; simp))
      go_wp2_with fail
      refine bodyPost_ret (v := .tuple #[fv false ⟨#[]⟩ 0, .int .i64 7]) (by simp [results, Tryz.results89, go_sem]) rfl ?_
      exact ⟨ret_fc F.out.1.symm (by rw [F.out.2.1]; rfl) F.out.2.2.symm (by rw [E.out]), (((((Below.refl _ _).alloc (Nat.le_refl _) _).alloc (by simp) _).alloc (by simp; omega) _).alloc (by simp; omega) _).alloc (by simp; omega) _⟩
    · by_cases hK : K = []
      · have hT : rdT l = [] := kept_nil.2 (by rw [HK.out, hK])
        have E := Lib.hid (rd_zero HB.out HPB.out hT)
        have F1 := Lib.hid (show frM l = M by unfold frM; rw [E.out, if_pos rfl, HK.out, ← HM.out, HA.out])
        have F2 := Lib.hid (show txt (frD l) = T by unfold frD; rw [E.out, if_pos rfl, HK.out, ← HT.out])
        have hX : X = 0 := by rw [← HX.out, if_pos hK]
        have F3 := Lib.hid (show frX l = X by unfold frX; rw [E.out, if_pos rfl, HK.out, HX.out])
        have HKN := Lib.hid hK
        subst hX
        clear hK hT
        go_wp2_with fail
        refine (FM2.out _).mono ?_
        rintro e w3 ⟨rfl, o3, o4, hw⟩
        rw [fmW_nil HKN.out] at hw
        subst hw
        go_wp2_with fail
        refine bodyPost_ret (v := .tuple #[fv M T 0, .int .i64 0]) (by simp [results, Tryz.results89, go_sem]) rfl ?_
        exact ⟨ret_fc F1.out.symm F2.out.symm F3.out.symm (by rw [E.out]), ((((((((Below.refl _ _).alloc (Nat.le_refl _) _).alloc (by simp) _).alloc (by simp; omega) _).alloc (by simp; omega) _).alloc (by simp; omega) _).alloc (by simp; omega) _).alloc (by simp; omega) _).alloc (by simp; omega) _⟩
      · have hT : rdT l ≠ [] := fun h => hK (by rw [← HK.out]; exact kept_nil.1 h)
        have hXN : X = rdN l := by rw [← HX.out, if_neg hK]
        have HXN := Lib.hid hXN
        have HT2 := Lib.hid hT
        have HKN := Lib.hid hK
        clear hK hT hXN
        go_wp2_with fail
        refine (FM2.out _).mono ?_
        rintro e w3 ⟨rfl, o3, o4, hw⟩
        rw [fmW_some HKN.out] at hw
        subst hw
        by_cases g1 : X > 1000000000
        · have E := Lib.hid (rd_far HB.out HPB.out HT2.out (Or.inl (by rw [← HXN.out]; exact g1)))
          have F := Lib.hid (fr_none (l := l) (by rw [E.out]; simp))
          go_wp2_with fail
          refine bodyPost_ret (v := .tuple #[fv false ⟨#[]⟩ 0, .int .i64 7]) (by simp [results, Tryz.results89, go_sem]) rfl ?_
          exact ⟨ret_fc F.out.1.symm (by rw [F.out.2.1]; rfl) F.out.2.2.symm (by rw [E.out]), belowDrewN (((((((((Below.refl _ _).alloc (Nat.le_refl _) _).alloc (by simp) _).alloc (by simp; omega) _).alloc (by simp; omega) _).alloc (by simp; omega) _).alloc (by simp; omega) _).alloc (by simp; omega) _).alloc (by simp; omega) _) 1⟩
        · by_cases g2 : X < -1000000000
          · have E := Lib.hid (rd_far HB.out HPB.out HT2.out (Or.inr (by rw [← HXN.out]; exact g2)))
            have F := Lib.hid (fr_none (l := l) (by rw [E.out]; simp))
            go_wp2_with fail
            refine bodyPost_ret (v := .tuple #[fv false ⟨#[]⟩ 0, .int .i64 7]) (by simp [results, Tryz.results89, go_sem]) rfl ?_
            exact ⟨ret_fc F.out.1.symm (by rw [F.out.2.1]; rfl) F.out.2.2.symm (by rw [E.out]), belowDrewN (((((((((Below.refl _ _).alloc (Nat.le_refl _) _).alloc (by simp) _).alloc (by simp; omega) _).alloc (by simp; omega) _).alloc (by simp; omega) _).alloc (by simp; omega) _).alloc (by simp; omega) _).alloc (by simp; omega) _) 1⟩
          · have E := Lib.hid (rd_ok HB.out HPB.out HT2.out (by rw [← HXN.out]; omega))
            have F1 := Lib.hid (show frM l = M by unfold frM; rw [E.out, if_pos rfl, HK.out, ← HM.out, HA.out])
            have F2 := Lib.hid (show txt (frD l) = T by unfold frD; rw [E.out, if_pos rfl, HK.out, ← HT.out])
            have F3 := Lib.hid (show frX l = X by unfold frX; rw [E.out, if_pos rfl, HK.out, HX.out])
            go_wp2_with fail
            refine bodyPost_ret (v := .tuple #[fv M T X, .int .i64 0]) (by simp [results, Tryz.results89, go_sem]) rfl ?_
            exact ⟨ret_fc F1.out.symm F2.out.symm F3.out.symm (by rw [E.out]), belowDrewN (((((((((Below.refl _ _).alloc (Nat.le_refl _) _).alloc (by simp) _).alloc (by simp; omega) _).alloc (by simp; omega) _).alloc (by simp; omega) _).alloc (by simp; omega) _).alloc (by simp; omega) _).alloc (by simp; omega) _) 1⟩
  · have hB : isB l = false := by simpa using hB
    have E := Lib.hid (rd_syntax hB)
    have F := Lib.hid (fr_none (l := l) (by rw [rd_syntax hB]; simp))
    rw [hB]
    clear hB
    go_wp2_with fail
    refine bodyPost_ret (v := .tuple #[fv false ⟨#[]⟩ 0, .int .i64 3]) (by simp [results, Tryz.results89, go_sem]) rfl ?_
    exact ⟨ret_fc F.out.1.symm (by rw [F.out.2.1]; rfl) F.out.2.2.symm (by rw [E.out]), ((((Below.refl _ _).alloc (Nat.le_refl _) _).alloc (by simp) _).alloc (by simp; omega) _).alloc (by simp; omega) _⟩
end Go.Proofs.YtdclhepjoifpiaaGreatDoor.De
/- The program's own normal form as a text, walked. -/
namespace Go.Proofs.YtdclhepjoifpiaaGreatDoor.De
open Go.RowKit

/-- The library's table of powers lies as its text lays it. -/
def Tab (w : World) : Prop := Lib.TabIs Tryz.prog w "internal/strconv.uint64pow10" .u64 Lib.pow10Tab
theorem gPow : Tryz.prog.globalNamed "internal/strconv.uint64pow10" = some 2 := by kernel_rfl
theorem Tab.on {w w' : World} (h : Tab w) (hb : Below w.heap.size w w') : Tab w' := by
  unfold Tab Lib.TabIs World.var? at h ⊢
  rw [gPow] at h ⊢
  simp only [Option.bind_some] at h ⊢
  have hlt : 2 < w.heap.size := by
    rcases Nat.lt_or_ge 2 w.heap.size with h' | h'
    · exact h'
    · rw [Array.getElem?_eq_none h'] at h; cases h
  rw [hb.block _ hlt]
  exact h
theorem itoN_dec (n : Nat) : itoN n = Lib.decDigits n := by
  induction n using Nat.strongRecOn with
  | ind n ih =>
    rw [itoN, Lib.decDigits]
    by_cases h : n < 10
    · rw [if_pos h, dif_pos h]
    · rw [if_neg h, dif_neg h, ih (n / 10) (by omega)]
theorem itoL_itoa (n : Int) : itoL n = Lib.itoa n := by
  unfold itoL Lib.itoa
  rw [itoN_dec, itoN_dec]
  by_cases h : n < 0
  · rw [if_pos h, if_pos h, show (-n).toNat = n.natAbs by omega]
  · rw [if_neg h, if_neg h]
theorem itoa_is {n : Int} {x : ByteArray} (hx : x = txt (itoL n)) (h0 : -9223372036854775808 ≤ n) (h1 : n ≤ 9223372036854775807) (w : World) (ht : Tab w) :
    Calls Tryz.prog 101 #[.int .i64 n] w fun e w' => e = .returned (.string x) ∧ Below w.heap.size w w' := by
  refine (Tryz.strconv_Itoa n h0 h1 w ht).mono ?_
  rintro e w' ⟨rfl, k, os, rfl⟩
  exact ⟨by rw [hx, itoL_itoa]; rfl, ⟨rfl, rfl, rfl, by simp [Sort.grow], fun j hj => Sort.heap_grow_old _ _ hj⟩⟩
/-- Is it nought's normal form? -/
def ngt (m : Bool) (D : List UInt8) (x : Int) : Bool := decide (m = false ∧ D = [48] ∧ x = 0)
theorem nought_any {D : List UInt8} {m : Bool} {d : ByteArray} (x : Int) (w : World) (hd : d = txt D) :
    Calls Tryz.prog 100 #[fv m d x] w fun e w' => e = .returned (.bool (ngt m D x)) ∧ w' = w.alloc (fo m d x) := by
  go_enter Tryz.func100, Tryz.ntmps100
  go_wp2_with fail
  all_goals (go_ret; simp_all [ngt, txt_list])
theorem nought_is {D : List UInt8} {m : Bool} {d : ByteArray} {x : Int} (q : Bool) (w : World) (hd : d = txt D) (hq : q = ngt m D x) :
    Calls Tryz.prog 100 #[fv m d x] w fun e w' => e = .returned (.bool q) ∧ w' = w.alloc (fo m d x) := by subst hq; exact nought_any x w hd
/-- The normal form as a text. -/
def fmt (m : Bool) (D : List UInt8) (x : Int) : List UInt8 := if ngt m D x = true then [48] else mk m D x
structure TS (w : World) (d : ByteArray) (x : Int) (wr : World) : Prop where
  below : Below w.heap.size w wr
  more : w.heap.size < wr.heap.size
  c1 : wr.cell? ⟨w.heap.size, 1, none⟩ = some (.string d)
  c2 : wr.cell? ⟨w.heap.size, 2, none⟩ = some (.int .i64 x)
theorem TS.on {w : World} {d : ByteArray} {x : Int} {wr w' : World} (h : TS w d x wr) (hb : Below wr.heap.size wr w') : TS w d x w' :=
  ⟨h.below.trans (hb.mono h.below.size), Nat.lt_of_lt_of_le h.more hb.size, (hb.cell (by exact h.more)).trans h.c1, (hb.cell (by exact h.more)).trans h.c2⟩
theorem TS.drew {w : World} {d : ByteArray} {x : Int} {wr : World} (h : TS w d x wr) : TS w d x wr.drew := h.on ((Below.refl _ _).drew)
set_option maxRecDepth 100000 in
set_option maxHeartbeats 2000000 in
theorem text_any {D : List UInt8} {m : Bool} {d : ByteArray} (x : Int) (w : World) (ht : Tab w) (hd : d = txt D) (hD : D.length ≤ 3000000) (h1 : -1000000000 ≤ x) (h2 : x ≤ 1000000000) :
    Calls Tryz.prog 90 #[fv m d x] w fun e w' => e = .returned (.string (txt (fmt m D x))) ∧ Below w.heap.size w w' := by
  obtain ⟨q, hq⟩ : ∃ q, q = ngt m D x := ⟨_, rfl⟩
  have NG := Lib.hid (fun w => nought_is (d := d) q w hd hq)
  obtain ⟨t, htx⟩ : ∃ t, t = txt (itoL x) := ⟨_, rfl⟩
  obtain ⟨g, hg⟩ : ∃ g, g = txt (sg m) := ⟨_, rfl⟩
  have IT := Lib.hid (fun w => itoa_is htx (by omega) (by omega) w)
  have htl : t.size ≤ 1000000003 := by rw [htx, txt_size]; exact itoL_len h1 h2
  have hdl : d.size ≤ 3000000 := by rw [hd, txt_size]; omega
  have hgl : g.size ≤ 1 := by rw [hg, txt_size]; cases m <;> simp [sg]
  obtain ⟨y1, hy1⟩ : ∃ y, g ++ d = y := ⟨_, rfl⟩
  obtain ⟨y2, hy2⟩ : ∃ y, y1 ++ ⟨#[101]⟩ = y := ⟨_, rfl⟩
  obtain ⟨y3, hy3⟩ : ∃ y, y2 ++ t = y := ⟨_, rfl⟩
  have z1 : y1.size ≤ 3000001 := by rw [← hy1, ByteArray.size_append]; omega
  have z2 : y2.size ≤ 3000002 := by rw [← hy2, ByteArray.size_append]; show y1.size + 1 ≤ _; omega
  have n1 : ¬ (9223372036854775807 < g.size + d.size) := by omega
  have n2 : ¬ (9223372036854775807 < y1.size + 1) := by omega
  have n2' : ¬ (9223372036854775807 < y1.size + ByteArray.size ⟨#[101]⟩) := by show ¬ (9223372036854775807 < y1.size + 1); omega
  have n3 : ¬ (9223372036854775807 < y2.size + t.size) := by omega
  have HF := Lib.hid (show q = false → txt (fmt m D x) = y3 by
    intro h
    unfold fmt
    rw [← hq, h, if_neg (by simp)]
    unfold mk
    rw [← txt_app, ← txt_app, ← txt_app, ← hd, ← htx, ← hg, ← hy3, ← hy2, ← hy1]
    rfl)
  have HQ := Lib.hid (show q = true → fmt m D x = [48] by intro h; unfold fmt; rw [← hq, h, if_pos rfl])
  have HG0 := Lib.hid (show m = false → g = ⟨#[]⟩ by intro h; rw [hg, h]; rfl)
  have HG1 := Lib.hid (show m = true → g = ⟨#[45]⟩ by intro h; rw [hg, h]; rfl)
  have HT := Lib.hid ht
  have HY1 := Lib.hid hy1
  have HY2 := Lib.hid hy2
  have HY3 := Lib.hid hy3
  clear hd hq htx hg ht hD h1 h2 hy1 hy2 hy3
  go_enter Tryz.func90, Tryz.ntmps90
  go_wp2_with fail
  refine (NG.out _).mono ?_
  rintro e w1 ⟨rfl, rfl⟩
  cases q
  · have HF2 := Lib.hid (HF.out rfl)
    clear HF HQ NG
    obtain ⟨W, hW⟩ : ∃ W, W = (w.alloc (fo m d x)).alloc (fo m d x) := ⟨_, rfl⟩
    have hb : Below w.heap.size w W := by rw [hW]; exact ((Below.refl _ _).alloc (Nat.le_refl _) _).alloc (by simp) _
    have hc0 : W.cell? ⟨w.heap.size, 0, none⟩ = some (.bool m) := by rw [hW]; simp [go_sem]
    have hc1 : W.cell? ⟨w.heap.size, 1, none⟩ = some (.string d) := by rw [hW]; simp [go_sem]
    have hc2 : W.cell? ⟨w.heap.size, 2, none⟩ = some (.int .i64 x) := by rw [hW]; simp [go_sem]
    have hlt : w.heap.size < W.heap.size := by rw [hW]; simp; omega
    rw [← hW]
    clear hW
    have hS : TS w d x W := ⟨hb, hlt, hc1, hc2⟩
    have HS := Lib.hid hS
    clear hS hb hlt
    go_upto_if 7 with fail
    go_cut [3] (fun v wx => v = .string g ∧ W = wx)
    case first =>
      cases m
      · have E := Lib.hid (HG0.out rfl)
        go_wp2_with fail
        go_meet
        exact ⟨by rw [E.out], rfl⟩
      · have E := Lib.hid (HG1.out rfl)
        go_wp2_with fail
        go_meet
        exact ⟨by rw [E.out], rfl⟩
    case rest =>
      obtain ⟨rfl, rfl⟩ := hcut
      have hy1 := HY1.out
      have hy2 := HY2.out
      have hy3 := HY3.out
      have hS := HS.out
      go_upto_region 6 with fail
      go_region_held3 (fun wx => TS w d x wx ∧ wx.cell? ⟨w.heap.size, 1, none⟩ = some (.string d) ∧ wx.cell? ⟨w.heap.size, 2, none⟩ = some (.int .i64 x))
        (((try go_split_ands); refine (fun h => ⟨h, h.c1, h.c2⟩) ?_; first | assumption | exact TS.drew (by assumption) | (refine TS.on ?_ hb; assumption)))
        (((try go_split_ands); go_at_call 101; refine (IT.out _ (HT.out.on (TS.below (by assumption)))).mono ?_; rintro e w1 ⟨rfl, hb⟩))
      rename_i hS2
      go_wp2_with fail
      go_ret
      exact ⟨ret_str HF2.out.symm, hS2.1.below⟩
  · have HQ2 := Lib.hid (HQ.out rfl)
    clear HF HQ
    go_wp2_with fail
    go_ret
    exact ⟨ret_str (by rw [HQ2.out]; rfl), ((Below.refl _ _).alloc (Nat.le_refl _) _).alloc (by simp) _⟩
end Go.Proofs.YtdclhepjoifpiaaGreatDoor.De
/- The program's own Read of a decimal, walked. -/
namespace Go.Proofs.YtdclhepjoifpiaaGreatDoor.De
open Go.RowKit

theorem fr_rd {l : List UInt8} (h : (rd l).2 = 0) : (trimR (rdD l) = [] ∧ (rd l).1 = [48] ∧ frM l = false ∧ frD l = [48] ∧ frX l = 0) ∨ (trimR (rdD l) ≠ [] ∧ Fine (rdT l) ∧ frM l = decide (bt l 0 = 45) ∧ frD l = rdT l ∧ frX l = rdN l ∧ (rd l).1 = mk (decide (bt l 0 = 45)) (rdT l) (rdN l)) := by
  have hB : isB l = true := by
    cases hB : isB l
    · rw [rd_syntax hB] at h; simp at h
    · rfl
  have hp : (powR l (q4 l) (q5 l)).2 = true := by
    cases hp : (powR l (q4 l) (q5 l)).2
    · rw [rd_exp hB hp] at h; simp at h
    · rfl
  by_cases hK : trimR (rdD l) = []
  · have hT : rdT l = [] := kept_nil.2 hK
    refine Or.inl ⟨hK, by rw [rd_zero hB hp hT], ?_, ?_, ?_⟩
    · unfold frM fmM; rw [if_pos h, if_pos hK]
    · unfold frD fmD; rw [if_pos h, if_pos hK]
    · unfold frX; rw [if_pos h, if_pos hK]
  · have hT : rdT l ≠ [] := fun e => hK (kept_nil.1 e)
    refine Or.inr ⟨hK, rdT_fine hT, ?_, ?_, ?_, ?_⟩
    · unfold frM fmM; rw [if_pos h, if_neg hK]
    · unfold frD fmD; rw [if_pos h, if_neg hK]; rfl
    · unfold frX; rw [if_pos h, if_neg hK]
    · by_cases h4 : rdN l > 1000000000 ∨ rdN l < -1000000000
      · rw [rd_far hB hp hT h4] at h; simp at h
      · rw [rd_ok hB hp hT h4]; simp [mk, sg]
theorem fine_ngt {m : Bool} {T : List UInt8} {N : Int} (h : Fine T) : ngt m T N = false := by
  unfold ngt; exact decide_eq_false (fun h2 => h.ne h2.2.1)
theorem fmt_rd {l : List UInt8} (h : (rd l).2 = 0) : fmt (frM l) (frD l) (frX l) = (rd l).1 := by
  rcases fr_rd h with ⟨_, e, e1, e2, e3⟩ | ⟨_, hF, e1, e2, e3, e⟩
  · rw [e1, e2, e3, e]; rfl
  · rw [e1, e2, e3, e]; unfold fmt; rw [fine_ngt hF, if_neg (by simp)]
theorem rd2_is {l : List UInt8} {s : ByteArray} (hs : s = txt l) (hm : l.length ≤ 1000000) {M : Bool} {T : ByteArray} {X c : Int} (h1 : M = frM l) (h2 : T = txt (frD l)) (h3 : X = frX l) (h4 : c = (rd l).2) (w : World) :
    Calls Tryz.prog 89 #[.string s] w fun e w' => e = .returned (.tuple #[fv M T X, .int .i64 c]) ∧ Below w.heap.size w w' := by
  subst h1; subst h2; subst h3; subst h4; exact rd2_any w hs hm
theorem text_is {D : List UInt8} {m : Bool} {d y : ByteArray} {x : Int} (w : World) (ht : Tab w) (hd : d = txt D) (hD : D.length ≤ 3000000) (h1 : -1000000000 ≤ x) (h2 : x ≤ 1000000000) (hy : y = txt (fmt m D x)) :
    Calls Tryz.prog 90 #[fv m d x] w fun e w' => e = .returned (.string y) ∧ Below w.heap.size w w' := by subst hy; exact text_any x w ht hd hD h1 h2
theorem rd_none {l : List UInt8} (h : (rd l).2 ≠ 0) : (rd l).1 = [] := by
  unfold rd at *
  split
  · rfl
  · rename_i h1; rw [if_neg h1] at h
    split
    · rfl
    · rename_i h2; rw [if_neg h2] at h
      split
      · rename_i h3; rw [if_pos h3] at h; exact absurd rfl h
      · rename_i h3; rw [if_neg h3] at h
        split
        · rfl
        · rename_i h4; rw [if_neg h4] at h; exact absurd rfl h
set_option maxHeartbeats 1000000 in
theorem dread_any {l : List UInt8} {s : ByteArray} (w : World) (ht : Tab w) (hs : s = txt l) (hm : l.length ≤ 1000000) :
    Calls Tryz.prog 73 #[.string s] w fun e w' => e = .returned (.tuple #[.string (txt (rd l).1), .int .i64 (rd l).2]) ∧ Below w.heap.size w w' := by
  obtain ⟨M, hM⟩ : ∃ M, M = frM l := ⟨_, rfl⟩
  obtain ⟨T, hT⟩ : ∃ T, T = txt (frD l) := ⟨_, rfl⟩
  obtain ⟨X, hX⟩ : ∃ X, X = frX l := ⟨_, rfl⟩
  obtain ⟨c, hc⟩ : ∃ c, c = (rd l).2 := ⟨_, rfl⟩
  obtain ⟨y, hy⟩ : ∃ y, y = txt (fmt (frM l) (frD l) (frX l)) := ⟨_, rfl⟩
  have RD := Lib.hid (fun w => rd2_is hs hm hM hT hX hc w)
  have hfx := frX_range l
  have TX := Lib.hid (fun w ht => text_is (m := M) (x := X) (y := y) w ht hT (by have := frD_len l; omega) (by rw [hX]; omega) (by rw [hX]; omega) (by rw [hy, hM, hX]))
  have HC := Lib.hid hc
  have HY := Lib.hid (show c = 0 → y = txt (rd l).1 by intro h; rw [hy, fmt_rd (by rw [← hc, h])])
  have HN := Lib.hid (show c ≠ 0 → (rd l).1 = [] by intro h; exact rd_none (by rw [← hc]; exact h))
  have HT := Lib.hid ht
  clear hM hT hX hc hy hs hm ht hfx
  go_enter Tryz.func73, Tryz.ntmps73
  go_wp2_with fail
  refine (RD.out _).mono ?_
  rintro e w1 ⟨rfl, hb1⟩
  have HB := Lib.hid (hb1.alloc hb1.size (fo M T X))
  clear hb1
  by_cases h0 : c = 0
  · subst h0
    have E := Lib.hid (HY.out rfl)
    have E2 := Lib.hid HC.out
    go_wp2_with fail
    refine (TX.out _ (HT.out.on HB.out)).mono ?_
    rintro e w2 ⟨rfl, hb2⟩
    have HB2 := Lib.hid (HB.out.trans (hb2.mono HB.out.size))
    clear hb2
    go_wp2_with fail
    go_ret2
    exact ⟨ret_sc E.out E2.out, HB2.out⟩
  · have E := Lib.hid (HN.out h0)
    have h0' : (c != 0) = true := by simpa using h0
    clear h0
    go_wp2_with fail
    go_ret2
    exact ⟨ret_sc (by rw [E.out]; rfl) HC.out, HB.out⟩
end Go.Proofs.YtdclhepjoifpiaaGreatDoor.De
