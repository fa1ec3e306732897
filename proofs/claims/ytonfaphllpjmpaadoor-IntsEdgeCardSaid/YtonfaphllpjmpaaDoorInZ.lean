/- The laws of Read and Cmp, walked. -/
import Derived.Test.YtonfaphllpjmpaaDoorInW
namespace Go.Proofs.YtonfaphllpjmpaaDoor
open Go.RowKit

theorem rd_len {l t : List UInt8} (h : In.rd l = .ok t) : t.length ≤ 65 := by
  obtain ⟨v, hv, rfl⟩ := In.rd_ok h
  have h1 := hv.1
  have h2 := hv.2
  have hd : ∀ n : Nat, n ≤ 9223372036854775808 → (In.dN 10 n).length ≤ 21 := fun n hn => by
    have := dN_len100 (n := n) (i := 10) (by omega)
    omega
  unfold In.nfI
  split
  · have := hd (-v).toNat (by omega); simp; omega
  · have := hd v.toNat (by omega); omega
set_option maxHeartbeats 4000000 in
set_option maxRecDepth 100000 in
theorem lread_any (s : ByteArray) (w : World) (hT : Tab w) : Calls Tryd.prog 3 #[.string s] w fun e w' => e = .returned (.bool true) ∧ Below w.heap.size w w' := by
  have LV := Lib.hid lives_any
  have HT := Lib.hid hT
  clear hT
  by_cases hz : 500 < s.size
  · have hz' : (500 : Int) < s.size := by omega
    go_enter Tryd.func3, Tryd.ntmps3
    go_wp2_with fail
    refine (LV.out _ HT.out).mono ?_
    rintro e w1 ⟨rfl, hb⟩
    have HB := Lib.hid hb
    clear hb
    go_wp2_with fail
    go_ret
    exact ⟨rfl, HB.out⟩
  · have hz' : ¬ (500 : Int) < s.size := by omega
    obtain ⟨R, hR⟩ : ∃ R, R = In.rd s.data.toList := ⟨_, rfl⟩
    have hl : s.data.toList.length ≤ 100000 := by rw [as_len]; omega
    have HC := Lib.hid (fun w h => pread_is w (as_txt s) hl hR h)
    have HD := Lib.hid (fun w => iread_any w (as_txt s) hl hR)
    have HB0 := Lib.hid (Below.refl w.heap.size w)
    clear hl hR hz
    go_enter Tryd.func3, Tryd.ntmps3
    go_wp2_with fail
    refine (HC.out _ HT.out).mono ?_
    rintro e w1 ⟨rfl, hb⟩
    have HB1 := Lib.hid (below_tr HB0.out hb)
    clear hb HC
    cases R
    all_goals
      rw [irv]
      rw [irv] at HD
      go_wp2_with fail
      refine (HD.out _).mono ?_
      rintro e w2 ⟨rfl, hb⟩
      have HB2 := Lib.hid (below_tr HB1.out hb)
      clear hb
      go_wp2_with fail
      refine (LV.out _ (HT.out.below HB2.out)).mono ?_
      rintro e w3 ⟨rfl, hb⟩
      have HB3 := Lib.hid (below_tr HB2.out hb)
      clear hb
      go_wp2_with fail
      go_ret
      exact ⟨rfl, HB3.out⟩
/-- The text that a reading gives. -/
def tx : In.R → List UInt8
  | .ok t => t
  | _ => []
theorem tx_len {l : List UInt8} : (tx (In.rd l)).length ≤ 65 := by
  cases h : In.rd l with
  | ok t => exact rd_len h
  | syn => simp [tx]
  | big => simp [tx]
theorem irv_tx (R : In.R) : ∃ c, irv R = .tuple #[.string (txt (tx R)), .int .i64 c] := by
  cases R
  all_goals exact ⟨_, rfl⟩
set_option maxHeartbeats 4000000 in
set_option maxRecDepth 100000 in
theorem lcmp_any (s t : ByteArray) (w : World) (hT : Tab w) : Calls Tryd.prog 4 #[.string s, .string t] w fun e w' => e = .returned (.bool true) ∧ Below w.heap.size w w' := by
  have LV := Lib.hid lives_any
  have HT := Lib.hid hT
  clear hT
  by_cases hz : 500 < s.size
  · have hz' : (500 : Int) < s.size := by omega
    go_enter Tryd.func4, Tryd.ntmps4
    go_wp2_with fail
    refine (LV.out _ HT.out).mono ?_
    rintro e w1 ⟨rfl, hb⟩
    have HB := Lib.hid hb
    clear hb
    go_wp2_with fail
    go_ret
    exact ⟨rfl, HB.out⟩
  · have hz' : ¬ (500 : Int) < s.size := by omega
    by_cases hy : 500 < t.size
    · have hy' : (500 : Int) < t.size := by omega
      go_enter Tryd.func4, Tryd.ntmps4
      go_wp2_with fail
      refine (LV.out _ HT.out).mono ?_
      rintro e w1 ⟨rfl, hb⟩
      have HB := Lib.hid hb
      clear hb
      go_wp2_with fail
      go_ret
      exact ⟨rfl, HB.out⟩
    · have hy' : ¬ (500 : Int) < t.size := by omega
      obtain ⟨R, hR⟩ : ∃ R, R = In.rd s.data.toList := ⟨_, rfl⟩
      obtain ⟨Q, hQ⟩ : ∃ R, R = In.rd t.data.toList := ⟨_, rfl⟩
      have hl : s.data.toList.length ≤ 100000 := by rw [as_len]; omega
      have hm : t.data.toList.length ≤ 100000 := by rw [as_len]; omega
      obtain ⟨X, hX⟩ : ∃ X, X = txt (tx R) := ⟨_, rfl⟩
      obtain ⟨Y, hY⟩ : ∃ Y, Y = txt (tx Q) := ⟨_, rfl⟩
      obtain ⟨p, hp⟩ : ∃ p, p = In.cm s.data.toList t.data.toList := ⟨_, rfl⟩
      obtain ⟨q, hq⟩ : ∃ q, q = In.cm (tx R) (tx Q) := ⟨_, rfl⟩
      have lX : (tx R).length ≤ 100000 := by have := tx_len (l := s.data.toList); rw [hR]; omega
      have lY : (tx Q).length ≤ 100000 := by have := tx_len (l := t.data.toList); rw [hQ]; omega
      obtain ⟨cR, hcR⟩ := irv_tx R
      obtain ⟨cQ, hcQ⟩ := irv_tx Q
      rw [← hX] at hcR
      rw [← hY] at hcQ
      have D1 := Lib.hid (fun w => iread_any w (as_txt s) hl hR)
      have D2 := Lib.hid (fun w => iread_any w (as_txt t) hm hQ)
      rw [hcR] at D1
      rw [hcQ] at D2
      have P1 := Lib.hid (fun w h => pcmp_is w (as_txt s) (as_txt t) hl hm hp h)
      have P2 := Lib.hid (fun w h => pcmp_is w hX hY lX lY hq h)
      have I1 := Lib.hid (fun w => icmp_any w (as_txt s) (as_txt t) hl hm hp)
      have I2 := Lib.hid (fun w => icmp_any w hX hY lX lY hq)
      have HB0 := Lib.hid (Below.refl w.heap.size w)
      clear hl hm hR hQ hX hY hp hq lX lY hcR hcQ hz hy
      go_enter Tryd.func4, Tryd.ntmps4
      go_wp2_with fail
      refine (D1.out _).mono ?_
      rintro e w1 ⟨rfl, hb⟩
      have HB1 := Lib.hid (below_tr HB0.out hb)
      clear hb
      go_wp2_with fail
      refine (D2.out _).mono ?_
      rintro e w2 ⟨rfl, hb⟩
      have HB2 := Lib.hid (below_tr HB1.out hb)
      clear hb
      go_wp2_with fail
      refine (P1.out _ (HT.out.below HB2.out)).mono ?_
      rintro e w3 ⟨rfl, hb⟩
      have HB3 := Lib.hid (below_tr HB2.out hb)
      clear hb
      go_wp2_with fail
      refine (I1.out _).mono ?_
      rintro e w4 ⟨rfl, hb⟩
      have HB4 := Lib.hid (below_tr HB3.out hb)
      clear hb
      go_wp2_with fail
      refine (P2.out _ (HT.out.below HB4.out)).mono ?_
      rintro e w5 ⟨rfl, hb⟩
      have HB5 := Lib.hid (below_tr HB4.out hb)
      clear hb
      go_wp2_with fail
      refine (I2.out _).mono ?_
      rintro e w6 ⟨rfl, hb⟩
      have HB6 := Lib.hid (below_tr HB5.out hb)
      clear hb
      go_wp2_with fail
      refine (LV.out _ (HT.out.below HB6.out)).mono ?_
      rintro e w7 ⟨rfl, hb⟩
      have HB7 := Lib.hid (below_tr HB6.out hb)
      clear hb
      go_wp2_with fail
      go_ret
      exact ⟨rfl, HB7.out⟩
end Go.Proofs.YtonfaphllpjmpaaDoor
