/- The program's own closure that takes a text's beginning, walked. -/
import Derived.Test.YthjlnafmpcppfaaGreatDoorRun
import Derived.Test.YthjlnafmpcppfaaGreatDoorShelf
import Derived.OneCell
import Derived.Lib.IndexLaws
namespace Go.Proofs.YthjlnafmpcppfaaGreatDoor
open Go.RowKit

/-- How many of the bytes from place k on are among W, up to place m. -/
def tk (W : List UInt8) (m : Nat) (r : List UInt8) (k : Nat) : Nat := if k < r.length ∧ k < m ∧ W.contains (r.getD k 0) = true then tk W m r (k + 1) else k
termination_by r.length - k
theorem tk_on {W r : List UInt8} {m k : Nat} (h1 : k < r.length) (h2 : k < m) (h3 : W.contains (r.getD k 0) = true) : tk W m r k = tk W m r (k + 1) := by rw [tk, if_pos ⟨h1, h2, h3⟩]
theorem tk_end {W r : List UInt8} {m k : Nat} (h : ¬ (k < r.length ∧ k < m ∧ W.contains (r.getD k 0) = true)) : tk W m r k = k := by rw [tk, if_neg h]
theorem ix_in {W : List UInt8} {c : UInt8} (h : W.contains c = true) : 0 ≤ Lib.indexByte W c := by
  have h1 := Lib.indexByte_ge W c
  rcases Int.lt_or_le (Lib.indexByte W c) 0 with h2 | h2
  · have := Lib.indexByte_none (l := W) (c := c) (by omega)
    obtain ⟨i, hi, e⟩ := List.mem_iff_getElem.1 (List.contains_iff_mem.1 h)
    exact absurd (by rw [List.getElem?_eq_getElem hi, e]) (this i)
  · exact h2
theorem ix_out {W : List UInt8} {c : UInt8} (h : W.contains c = false) : Lib.indexByte W c = -1 := by
  have h1 := Lib.indexByte_ge W c
  rcases Int.lt_or_le (Lib.indexByte W c) 0 with h2 | h2
  · omega
  · obtain ⟨o, ho⟩ : ∃ o : Nat, Lib.indexByte W c = o := ⟨(Lib.indexByte W c).toNat, by omega⟩
    have := (Lib.indexByte_some ho).1
    have hm : c ∈ W := List.mem_of_getElem? this
    rw [← List.contains_iff_mem] at hm
    rw [h] at hm; cases hm
theorem getD_bt {r : List UInt8} {k : Nat} : (bt r k).toNat.toUInt8 = r.getD k 0 := by
  unfold bt; simp
theorem indexByte_is {W : List UInt8} {s : ByteArray} {c y : Int} (hs : s = txt W) (hy : y = Lib.indexByte W c.toNat.toUInt8) (w : World) :
    Calls Tryz.prog 71 #[.string s, .int .u8 c] w fun e w' => e = .returned (.int .i64 y) ∧ w = w' := by
  subst hs; subst hy
  refine (Tryz.strings_IndexByte (txt W) c w).mono ?_
  rintro e w' ⟨rfl, rfl⟩
  exact ⟨rfl, rfl⟩

set_option maxHeartbeats 1000000 in
theorem take_any {W r : List UInt8} {wn t : ByteArray} (m b : Nat) (w : World) (hW : wn = txt W) (ht : t = txt r) (hb : w.heap[b]? = some (.cells #[.string t] 9 (0, 0))) (hr : r.length ≤ 1000000) (hm : m ≤ 1000000) :
    Calls Tryz.prog 70 #[.string wn, .int .i64 m, .pointer (some ⟨b, 0, none⟩)] w fun e w' => e = .returned (.string (txt (r.take (tk W m r 0)))) ∧ w' = w.setCell ⟨b, 0, none⟩ (.string (txt (r.drop (tk W m r 0)))) := by
  have HZ := Lib.hid (show t.size = r.length by rw [ht, txt_size])
  have HS := Lib.hid ht
  have HW := Lib.hid hW
  have hsz : t.size ≤ 1000000 := by have := HZ.out; omega
  have hc := cell_of_one hb
  have hf := free_of_one hb
  clear ht hW hb hr
  go_enter Tryz.func70, Tryz.ntmps70
  go_wp2
  go_loop [6] (fun j => ∃ k : Nat, k ≤ t.size ∧ j = .int .i64 k ∧ tk W m r 0 = tk W m r k) (fun j => t.size - (intOf j).toNat)
  case atStart => exact ⟨0, Nat.zero_le _, rfl, rfl⟩
  case round =>
    obtain ⟨k, hk, rfl, hkr⟩ := hrel
    have HR := Lib.hid hkr
    clear hkr
    have fin : ¬ (k < r.length ∧ k < m ∧ W.contains (r.getD k 0) = true) → txt (r.take (tk W m r 0)) = t.extract 0 k ∧ txt (r.drop (tk W m r 0)) = t.extract k t.size := by
      intro h
      rw [HR.out, tk_end h, HS.out]
      refine ⟨by rw [txt_cut]; rfl, ?_⟩
      rw [txt_cut, txt_size, List.take_length]
    have FIN := Lib.hid fin
    clear fin
    by_cases h1 : k < t.size
    · have hx := txt_at HS.out (k := k)
      by_cases h2 : k < m
      · by_cases h3 : W.contains (r.getD k 0) = true
        · have E := Lib.hid (tk_on (m := m) (by have := HZ.out; omega) h2 h3)
          obtain ⟨y, hy⟩ : ∃ y, y = Lib.indexByte W (bt r k).toNat.toUInt8 := ⟨_, rfl⟩
          have hy0 : 0 ≤ y := by rw [hy, getD_bt]; exact ix_in h3
          have HY := Lib.hid hy
          clear hy h3 FIN
          go_wp2_with (go_at_call 71; refine (indexByte_is HW.out HY.out _).mono ?_; rintro e w' ⟨rfl, rfl⟩)
          go_round
          case rel => exact ⟨k + 1, by omega, by go_num, by rw [HR.out, E.out]⟩
          case measure => simp [intOf]; omega
        · have h3 : W.contains (r.getD k 0) = false := by simpa using h3
          have F := Lib.hid (FIN.out (by rw [h3]; simp))
          obtain ⟨y, hy⟩ : ∃ y, y = Lib.indexByte W (bt r k).toNat.toUInt8 := ⟨_, rfl⟩
          have hy0 : y = -1 := by rw [hy, getD_bt]; exact ix_out h3
          subst hy0
          have HY := Lib.hid hy
          clear hy h3 FIN
          go_wp2_with (go_at_call 71; refine (indexByte_is HW.out HY.out _).mono ?_; rintro e w' ⟨rfl, rfl⟩)
          go_ret
          exact ⟨by rw [F.out.1]; rfl, by rw [F.out.2]⟩
      · have F := Lib.hid (FIN.out (by omega))
        clear FIN
        go_wp2
        go_ret
        exact ⟨by rw [F.out.1]; rfl, by rw [F.out.2]⟩
    · have F := Lib.hid (FIN.out (by have := HZ.out; omega))
      clear FIN
      go_wp2
      go_ret
      exact ⟨by rw [F.out.1]; rfl, by rw [F.out.2]⟩
end Go.Proofs.YthjlnafmpcppfaaGreatDoor
