/- How many bytes the rune has that bytes begin with, as the document's answer goes about it: byte by byte behind the first one, then the four firsts that bound the second one. -/
import Derived.Test.YtdclhepjoifpiaaGreatDoorAr
import Derived.LoopTactic
import Derived.Outline
namespace Go.Proofs.YtdclhepjoifpiaaGreatDoor.U8
open Go.RowKit

theorem lohi (c x : Int) (h : wth x (lo1 c) (hi1 c) = true) : wth x 128 191 = true := by
  have := wth_true h
  simp only [wth, Bool.and_eq_true, decide_eq_true_eq]
  unfold lo1 hi1 at this
  repeat' split at this
  all_goals omega
/-- The second byte is one that the first one does not let stand. -/
def spc (c x : Int) : Prop := c = 224 ∧ x < 160 ∨ c = 237 ∧ 159 < x ∨ c = 240 ∧ x < 144 ∨ c = 244 ∧ 143 < x
theorem lohi_spc {c x : Int} (h : wth x 128 191 = true) : wth x (lo1 c) (hi1 c) = true ↔ ¬ spc c x := by
  have := wth_true h
  unfold spc lo1 hi1 wth
  simp only [Bool.and_eq_true, decide_eq_true_eq]
  repeat' split
  all_goals omega
theorem lng_fail {l : List UInt8} {m k : Nat} (h : bhd (bt l 0) = m) (h1 : 1 ≤ k) (hk : k ≤ m) (hf : l.length ≤ k ∨ wth (bt l k) 128 191 = false) : lng l = 0 := by
  by_cases hs : l.length ≤ m
  · exact lng_short hs h
  have hf' : wth (bt l k) 128 191 = false := by rcases hf with h | h
                                                · omega
                                                · exact h
  rcases bhd_cases (bt l 0) with g | g | g | g | g
  · omega
  · omega
  · obtain rfl : m = 1 := by omega
    obtain rfl : k = 1 := by omega
    rw [lng_1 (by omega) g, if_neg]
    intro e
    rw [lohi _ _ e] at hf'; cases hf'
  · obtain rfl : m = 2 := by omega
    rw [lng_2 (by omega) g, if_neg]
    rintro ⟨e1, e2⟩
    have hkk : k = 1 ∨ k = 2 := by omega
    rcases hkk with rfl | rfl
    · rw [lohi _ _ e1] at hf'; cases hf'
    · rw [e2] at hf'; cases hf'
  · obtain rfl : m = 3 := by omega
    rw [lng_3 (by omega) g, if_neg]
    rintro ⟨e1, e2, e3⟩
    have hkk : k = 1 ∨ k = 2 ∨ k = 3 := by omega
    rcases hkk with rfl | rfl | rfl
    · rw [lohi _ _ e1] at hf'; cases hf'
    · rw [e2] at hf'; cases hf'
    · rw [e3] at hf'; cases hf'
/-- The bytes from 1 to below k are there, and within 80 and BF. -/
def CRel (l : List UInt8) (k : Nat) : Prop := ∀ j, 1 ≤ j → j < k → j < l.length ∧ wth (bt l j) 128 191 = true
theorem CRel.one (l : List UInt8) : CRel l 1 := fun j h1 h2 => absurd h2 (by omega)
theorem CRel.next {l : List UInt8} {k : Nat} (h : CRel l k) (h1 : k < l.length) (h2 : wth (bt l k) 128 191 = true) : CRel l (k + 1) := fun j a b => by
  rcases Nat.lt_or_ge j k with e | e
  · exact h j a e
  · obtain rfl : j = k := by omega
    exact ⟨h1, h2⟩
theorem lng_bad {l : List UInt8} {m : Nat} (h : bhd (bt l 0) = m) (h1 : 1 ≤ m) (hC : CRel l (m + 1)) (hs : spc (bt l 0) (bt l 1)) : lng l = 0 := by
  have c1 := hC 1 (by omega) (by omega)
  have cm := hC m (by omega) (by omega)
  have hn : ¬ wth (bt l 1) (lo1 (bt l 0)) (hi1 (bt l 0)) = true := fun e => (lohi_spc c1.2).1 e hs
  rcases bhd_cases (bt l 0) with g | g | g | g | g
  · omega
  · omega
  · obtain rfl : m = 1 := by omega
    rw [lng_1 (by omega) g, if_neg hn]
  · obtain rfl : m = 2 := by omega
    rw [lng_2 (by omega) g, if_neg (fun e => hn e.1)]
  · obtain rfl : m = 3 := by omega
    rw [lng_3 (by omega) g, if_neg (fun e => hn e.1)]
theorem lng_good {l : List UInt8} {m : Nat} (h : bhd (bt l 0) = m) (h1 : 1 ≤ m) (hC : CRel l (m + 1)) (hs : ¬ spc (bt l 0) (bt l 1)) : lng l = m + 1 := by
  have c1 := hC 1 (by omega) (by omega)
  have cm := hC m (by omega) (by omega)
  have hn : wth (bt l 1) (lo1 (bt l 0)) (hi1 (bt l 0)) = true := (lohi_spc c1.2).2 hs
  rcases bhd_cases (bt l 0) with g | g | g | g | g
  · omega
  · omega
  · obtain rfl : m = 1 := by omega
    rw [lng_1 (by omega) g, if_pos hn]
  · obtain rfl : m = 2 := by omega
    rw [lng_2 (by omega) g, if_pos ⟨hn, (hC 2 (by omega) (by omega)).2⟩]
  · obtain rfl : m = 3 := by omega
    rw [lng_3 (by omega) g, if_pos ⟨hn, (hC 2 (by omega) (by omega)).2, (hC 3 (by omega) (by omega)).2⟩]
theorem bhd_range {c : Int} (h0 : 0 ≤ c) (h1 : c ≤ 255) : (bhd c = 0 ∧ c ≤ 127) ∨ (bhd c = 1 ∧ 194 ≤ c ∧ c ≤ 223) ∨ (bhd c = 2 ∧ 224 ≤ c ∧ c ≤ 239) ∨ (bhd c = 3 ∧ 240 ≤ c ∧ c ≤ 244) ∨ (bhd c = -1 ∧ 128 ≤ c ∧ c ≤ 193) ∨ (bhd c = -1 ∧ 245 ≤ c) := by
  unfold bhd wth
  repeat' split
  all_goals simp at *
  all_goals omega
end Go.Proofs.YtdclhepjoifpiaaGreatDoor.U8
/- How many bytes the rune has that bytes begin with: the document's answer, walked. -/
namespace Go.Proofs.YtdclhepjoifpiaaGreatDoor.U8
open Go.RowKit

section
variable (l : List UInt8) (b off n c0 : Nat) (c : Int) (w : World) (hn : n = l.length) (hcs : ∀ k, k < l.length → w.cell? ⟨b, off + k, none⟩ = some (.int .u8 (bt l k))) (hl : 0 < l.length) (hm : n ≤ maxLen) (hc : c = bt l 0)
include hn hcs hl hc
theorem rlong_0 (h : bhd (bt l 0) = 0) (h1 : c ≤ 127) :
    Calls Tryz.prog 31 #[.slice (some ⟨b, off, none⟩) n c0] w fun e w' => e = .returned (.int .i64 (lng l)) ∧ w = w' := by
  have c1 : w.cell? ⟨b, off, none⟩ = some (.int .u8 c) := by rw [hc]; exact hcs 0 hl
  have E := Lib.hid (lng_0 hl h)
  have hp : (0 : Int) < n := by omega
  have h0 : 0 ≤ c := by rw [hc]; exact bt_lo l 0
  clear hcs hc h hn
  go_enter Tryz.func31, Tryz.ntmps31
  go_wp2
  go_loop [5] (fun i => i = .int .i64 1) (fun _ => 0)
  case atStart => exact rfl
  case round =>
    subst hrel
    go_wp2
    go_ret
    exact ⟨ret_int (by rw [E.out]; rfl), rfl⟩
theorem rlong_none (h : bhd (bt l 0) = -1) (h1 : 128 ≤ c ∧ c ≤ 193 ∨ 245 ≤ c) :
    Calls Tryz.prog 31 #[.slice (some ⟨b, off, none⟩) n c0] w fun e w' => e = .returned (.int .i64 (lng l)) ∧ w = w' := by
  have c1 : w.cell? ⟨b, off, none⟩ = some (.int .u8 c) := by rw [hc]; exact hcs 0 hl
  have E := Lib.hid (lng_none h)
  have hp : (0 : Int) < n := by omega
  have h0 : c ≤ 255 := by rw [hc]; exact bt_hi l 0
  clear hcs hc h hn
  rcases h1 with ⟨h2, h3⟩ | h2
  · go_enter Tryz.func31, Tryz.ntmps31
    go_wp2
    go_ret
    exact ⟨ret_int (by rw [E.out]; rfl), rfl⟩
  · go_enter Tryz.func31, Tryz.ntmps31
    go_wp2
    go_ret
    exact ⟨ret_int (by rw [E.out]; rfl), rfl⟩
include hm
set_option maxHeartbeats 1000000 in
set_option maxRecDepth 100000 in
theorem rlong_1 (h : bhd (bt l 0) = 1) (h1 : 194 ≤ c) (h2 : c ≤ 223) (hx : True) :
    Calls Tryz.prog 31 #[.slice (some ⟨b, off, none⟩) n c0] w fun e w' => e = .returned (.int .i64 (lng l)) ∧ w = w' := by
  have k0 : w.cell? ⟨b, off, none⟩ = some (.int .u8 c) := by rw [hc]; exact hcs 0 hl
  have hp : (0 : Int) < n := by omega
  have Hn := Lib.hid hn
  have Hc := Lib.hid hcs
  have Hb := Lib.hid h
  have HC := Lib.hid hc
  have Hx := Lib.hid hx
  unfold maxLen at hm
  have q224 : (c == 224) = false := by simp; omega
  have q237 : (c == 237) = false := by simp; omega
  have q240 : (c == 240) = false := by simp; omega
  have q244 : (c == 244) = false := by simp; omega
  clear hcs hc h hn hl hx
  go_enter Tryz.func31, Tryz.ntmps31
  go_wp2
  go_loop [5] (fun i => ∃ k : Nat, 1 ≤ k ∧ k ≤ 2 ∧ i = .int .i64 k ∧ CRel l k) (fun i => 2 - (intOf i).toNat)
  case atStart => exact ⟨1, by omega, by omega, rfl, CRel.one l⟩
  case round =>
    obtain ⟨k, hk1, hk, rfl, hC⟩ := hrel
    have HK := Lib.hid hC
    clear hC
    by_cases hlt : k < 2
    · by_cases hkn : k < n
      · have kc := Hc.out k (by have := Hn.out; omega)
        have d0 := bt_lo l k
        have d1 := bt_hi l k
        by_cases g1 : bt l k < 128
        · have E := Lib.hid (lng_fail (m := 1) Hb.out hk1 (by omega) (.inr (by simp [wth]; omega)))
          go_wp2
          go_ret
          exact ⟨ret_int (by rw [E.out]; rfl), rfl⟩
        · by_cases g2 : 191 < bt l k
          · have E := Lib.hid (lng_fail (m := 1) Hb.out hk1 (by omega) (.inr (by simp [wth]; omega)))
            go_wp2
            go_ret
            exact ⟨ret_int (by rw [E.out]; rfl), rfl⟩
          · have R := HK.out.next (by have := Hn.out; omega) (by simp [wth]; omega)
            go_wp2
            go_round
            case rel => exact ⟨k + 1, by omega, by omega, by go_num, R⟩
            case measure => simp [intOf]; omega
      · have E := Lib.hid (lng_fail (m := 1) Hb.out hk1 (by omega) (.inl (by have := Hn.out; omega)))
        go_wp2
        go_ret
        exact ⟨ret_int (by rw [E.out]; rfl), rfl⟩
    · obtain rfl : k = 2 := by omega
      have E := Lib.hid (lng_good (m := 1) Hb.out (by omega) HK.out (by have := Hx.out; have := HC.out; unfold spc; omega))
      have h1l := (HK.out 1 (by omega) (by omega)).1
      have k1 := Hc.out 1 h1l
      have h1n : (1 : Int) < n := by have := Hn.out; omega
      go_wp2
      go_ret
      exact ⟨ret_int (by rw [E.out]; rfl), rfl⟩
set_option maxHeartbeats 1000000 in
set_option maxRecDepth 100000 in
theorem rlong_2a (h : bhd (bt l 0) = 2) (h1 : 224 ≤ c) (h2 : c ≤ 239) (hx : c = 224 ∧ bt l 1 < 160) :
    Calls Tryz.prog 31 #[.slice (some ⟨b, off, none⟩) n c0] w fun e w' => e = .returned (.int .i64 (lng l)) ∧ w = w' := by
  have k0 : w.cell? ⟨b, off, none⟩ = some (.int .u8 c) := by rw [hc]; exact hcs 0 hl
  have hp : (0 : Int) < n := by omega
  have Hn := Lib.hid hn
  have Hc := Lib.hid hcs
  have Hb := Lib.hid h
  have HC := Lib.hid hc
  have Hx := Lib.hid hx
  unfold maxLen at hm
  have hy := hx.2
  have q224 : (c == 224) = true := by simp; omega
  have q237 : (c == 237) = false := by simp; omega
  have q240 : (c == 240) = false := by simp; omega
  have q244 : (c == 244) = false := by simp; omega
  clear hcs hc h hn hl hx
  go_enter Tryz.func31, Tryz.ntmps31
  go_wp2
  go_loop [5] (fun i => ∃ k : Nat, 1 ≤ k ∧ k ≤ 3 ∧ i = .int .i64 k ∧ CRel l k) (fun i => 3 - (intOf i).toNat)
  case atStart => exact ⟨1, by omega, by omega, rfl, CRel.one l⟩
  case round =>
    obtain ⟨k, hk1, hk, rfl, hC⟩ := hrel
    have HK := Lib.hid hC
    clear hC
    by_cases hlt : k < 3
    · by_cases hkn : k < n
      · have kc := Hc.out k (by have := Hn.out; omega)
        have d0 := bt_lo l k
        have d1 := bt_hi l k
        by_cases g1 : bt l k < 128
        · have E := Lib.hid (lng_fail (m := 2) Hb.out hk1 (by omega) (.inr (by simp [wth]; omega)))
          go_wp2
          go_ret
          exact ⟨ret_int (by rw [E.out]; rfl), rfl⟩
        · by_cases g2 : 191 < bt l k
          · have E := Lib.hid (lng_fail (m := 2) Hb.out hk1 (by omega) (.inr (by simp [wth]; omega)))
            go_wp2
            go_ret
            exact ⟨ret_int (by rw [E.out]; rfl), rfl⟩
          · have R := HK.out.next (by have := Hn.out; omega) (by simp [wth]; omega)
            go_wp2
            go_round
            case rel => exact ⟨k + 1, by omega, by omega, by go_num, R⟩
            case measure => simp [intOf]; omega
      · have E := Lib.hid (lng_fail (m := 2) Hb.out hk1 (by omega) (.inl (by have := Hn.out; omega)))
        go_wp2
        go_ret
        exact ⟨ret_int (by rw [E.out]; rfl), rfl⟩
    · obtain rfl : k = 3 := by omega
      have E := Lib.hid (lng_bad (m := 2) Hb.out (by omega) HK.out (by have := Hx.out; have := HC.out; unfold spc; omega))
      have h1l := (HK.out 1 (by omega) (by omega)).1
      have k1 := Hc.out 1 h1l
      have h1n : (1 : Int) < n := by have := Hn.out; omega
      go_wp2
      go_ret
      exact ⟨ret_int (by rw [E.out]; rfl), rfl⟩
set_option maxHeartbeats 1000000 in
set_option maxRecDepth 100000 in
theorem rlong_2b (h : bhd (bt l 0) = 2) (h1 : 224 ≤ c) (h2 : c ≤ 239) (hx : c = 224 ∧ ¬ bt l 1 < 160) :
    Calls Tryz.prog 31 #[.slice (some ⟨b, off, none⟩) n c0] w fun e w' => e = .returned (.int .i64 (lng l)) ∧ w = w' := by
  have k0 : w.cell? ⟨b, off, none⟩ = some (.int .u8 c) := by rw [hc]; exact hcs 0 hl
  have hp : (0 : Int) < n := by omega
  have Hn := Lib.hid hn
  have Hc := Lib.hid hcs
  have Hb := Lib.hid h
  have HC := Lib.hid hc
  have Hx := Lib.hid hx
  unfold maxLen at hm
  have hy := hx.2
  have q224 : (c == 224) = true := by simp; omega
  have q237 : (c == 237) = false := by simp; omega
  have q240 : (c == 240) = false := by simp; omega
  have q244 : (c == 244) = false := by simp; omega
  clear hcs hc h hn hl hx
  go_enter Tryz.func31, Tryz.ntmps31
  go_wp2
  go_loop [5] (fun i => ∃ k : Nat, 1 ≤ k ∧ k ≤ 3 ∧ i = .int .i64 k ∧ CRel l k) (fun i => 3 - (intOf i).toNat)
  case atStart => exact ⟨1, by omega, by omega, rfl, CRel.one l⟩
  case round =>
    obtain ⟨k, hk1, hk, rfl, hC⟩ := hrel
    have HK := Lib.hid hC
    clear hC
    by_cases hlt : k < 3
    · by_cases hkn : k < n
      · have kc := Hc.out k (by have := Hn.out; omega)
        have d0 := bt_lo l k
        have d1 := bt_hi l k
        by_cases g1 : bt l k < 128
        · have E := Lib.hid (lng_fail (m := 2) Hb.out hk1 (by omega) (.inr (by simp [wth]; omega)))
          go_wp2
          go_ret
          exact ⟨ret_int (by rw [E.out]; rfl), rfl⟩
        · by_cases g2 : 191 < bt l k
          · have E := Lib.hid (lng_fail (m := 2) Hb.out hk1 (by omega) (.inr (by simp [wth]; omega)))
            go_wp2
            go_ret
            exact ⟨ret_int (by rw [E.out]; rfl), rfl⟩
          · have R := HK.out.next (by have := Hn.out; omega) (by simp [wth]; omega)
            go_wp2
            go_round
            case rel => exact ⟨k + 1, by omega, by omega, by go_num, R⟩
            case measure => simp [intOf]; omega
      · have E := Lib.hid (lng_fail (m := 2) Hb.out hk1 (by omega) (.inl (by have := Hn.out; omega)))
        go_wp2
        go_ret
        exact ⟨ret_int (by rw [E.out]; rfl), rfl⟩
    · obtain rfl : k = 3 := by omega
      have E := Lib.hid (lng_good (m := 2) Hb.out (by omega) HK.out (by have := Hx.out; have := HC.out; unfold spc; omega))
      have h1l := (HK.out 1 (by omega) (by omega)).1
      have k1 := Hc.out 1 h1l
      have h1n : (1 : Int) < n := by have := Hn.out; omega
      go_wp2
      go_ret
      exact ⟨ret_int (by rw [E.out]; rfl), rfl⟩
set_option maxHeartbeats 1000000 in
set_option maxRecDepth 100000 in
theorem rlong_2c (h : bhd (bt l 0) = 2) (h1 : 224 ≤ c) (h2 : c ≤ 239) (hx : c = 237 ∧ 159 < bt l 1) :
    Calls Tryz.prog 31 #[.slice (some ⟨b, off, none⟩) n c0] w fun e w' => e = .returned (.int .i64 (lng l)) ∧ w = w' := by
  have k0 : w.cell? ⟨b, off, none⟩ = some (.int .u8 c) := by rw [hc]; exact hcs 0 hl
  have hp : (0 : Int) < n := by omega
  have Hn := Lib.hid hn
  have Hc := Lib.hid hcs
  have Hb := Lib.hid h
  have HC := Lib.hid hc
  have Hx := Lib.hid hx
  unfold maxLen at hm
  have hy := hx.2
  have q224 : (c == 224) = false := by simp; omega
  have q237 : (c == 237) = true := by simp; omega
  have q240 : (c == 240) = false := by simp; omega
  have q244 : (c == 244) = false := by simp; omega
  clear hcs hc h hn hl hx
  go_enter Tryz.func31, Tryz.ntmps31
  go_wp2
  go_loop [5] (fun i => ∃ k : Nat, 1 ≤ k ∧ k ≤ 3 ∧ i = .int .i64 k ∧ CRel l k) (fun i => 3 - (intOf i).toNat)
  case atStart => exact ⟨1, by omega, by omega, rfl, CRel.one l⟩
  case round =>
    obtain ⟨k, hk1, hk, rfl, hC⟩ := hrel
    have HK := Lib.hid hC
    clear hC
    by_cases hlt : k < 3
    · by_cases hkn : k < n
      · have kc := Hc.out k (by have := Hn.out; omega)
        have d0 := bt_lo l k
        have d1 := bt_hi l k
        by_cases g1 : bt l k < 128
        · have E := Lib.hid (lng_fail (m := 2) Hb.out hk1 (by omega) (.inr (by simp [wth]; omega)))
          go_wp2
          go_ret
          exact ⟨ret_int (by rw [E.out]; rfl), rfl⟩
        · by_cases g2 : 191 < bt l k
          · have E := Lib.hid (lng_fail (m := 2) Hb.out hk1 (by omega) (.inr (by simp [wth]; omega)))
            go_wp2
            go_ret
            exact ⟨ret_int (by rw [E.out]; rfl), rfl⟩
          · have R := HK.out.next (by have := Hn.out; omega) (by simp [wth]; omega)
            go_wp2
            go_round
            case rel => exact ⟨k + 1, by omega, by omega, by go_num, R⟩
            case measure => simp [intOf]; omega
      · have E := Lib.hid (lng_fail (m := 2) Hb.out hk1 (by omega) (.inl (by have := Hn.out; omega)))
        go_wp2
        go_ret
        exact ⟨ret_int (by rw [E.out]; rfl), rfl⟩
    · obtain rfl : k = 3 := by omega
      have E := Lib.hid (lng_bad (m := 2) Hb.out (by omega) HK.out (by have := Hx.out; have := HC.out; unfold spc; omega))
      have h1l := (HK.out 1 (by omega) (by omega)).1
      have k1 := Hc.out 1 h1l
      have h1n : (1 : Int) < n := by have := Hn.out; omega
      go_wp2
      go_ret
      exact ⟨ret_int (by rw [E.out]; rfl), rfl⟩
set_option maxHeartbeats 1000000 in
set_option maxRecDepth 100000 in
theorem rlong_2d (h : bhd (bt l 0) = 2) (h1 : 224 ≤ c) (h2 : c ≤ 239) (hx : c = 237 ∧ ¬ 159 < bt l 1) :
    Calls Tryz.prog 31 #[.slice (some ⟨b, off, none⟩) n c0] w fun e w' => e = .returned (.int .i64 (lng l)) ∧ w = w' := by
  have k0 : w.cell? ⟨b, off, none⟩ = some (.int .u8 c) := by rw [hc]; exact hcs 0 hl
  have hp : (0 : Int) < n := by omega
  have Hn := Lib.hid hn
  have Hc := Lib.hid hcs
  have Hb := Lib.hid h
  have HC := Lib.hid hc
  have Hx := Lib.hid hx
  unfold maxLen at hm
  have hy := hx.2
  have q224 : (c == 224) = false := by simp; omega
  have q237 : (c == 237) = true := by simp; omega
  have q240 : (c == 240) = false := by simp; omega
  have q244 : (c == 244) = false := by simp; omega
  clear hcs hc h hn hl hx
  go_enter Tryz.func31, Tryz.ntmps31
  go_wp2
  go_loop [5] (fun i => ∃ k : Nat, 1 ≤ k ∧ k ≤ 3 ∧ i = .int .i64 k ∧ CRel l k) (fun i => 3 - (intOf i).toNat)
  case atStart => exact ⟨1, by omega, by omega, rfl, CRel.one l⟩
  case round =>
    obtain ⟨k, hk1, hk, rfl, hC⟩ := hrel
    have HK := Lib.hid hC
    clear hC
    by_cases hlt : k < 3
    · by_cases hkn : k < n
      · have kc := Hc.out k (by have := Hn.out; omega)
        have d0 := bt_lo l k
        have d1 := bt_hi l k
        by_cases g1 : bt l k < 128
        · have E := Lib.hid (lng_fail (m := 2) Hb.out hk1 (by omega) (.inr (by simp [wth]; omega)))
          go_wp2
          go_ret
          exact ⟨ret_int (by rw [E.out]; rfl), rfl⟩
        · by_cases g2 : 191 < bt l k
          · have E := Lib.hid (lng_fail (m := 2) Hb.out hk1 (by omega) (.inr (by simp [wth]; omega)))
            go_wp2
            go_ret
            exact ⟨ret_int (by rw [E.out]; rfl), rfl⟩
          · have R := HK.out.next (by have := Hn.out; omega) (by simp [wth]; omega)
            go_wp2
            go_round
            case rel => exact ⟨k + 1, by omega, by omega, by go_num, R⟩
            case measure => simp [intOf]; omega
      · have E := Lib.hid (lng_fail (m := 2) Hb.out hk1 (by omega) (.inl (by have := Hn.out; omega)))
        go_wp2
        go_ret
        exact ⟨ret_int (by rw [E.out]; rfl), rfl⟩
    · obtain rfl : k = 3 := by omega
      have E := Lib.hid (lng_good (m := 2) Hb.out (by omega) HK.out (by have := Hx.out; have := HC.out; unfold spc; omega))
      have h1l := (HK.out 1 (by omega) (by omega)).1
      have k1 := Hc.out 1 h1l
      have h1n : (1 : Int) < n := by have := Hn.out; omega
      go_wp2
      go_ret
      exact ⟨ret_int (by rw [E.out]; rfl), rfl⟩
set_option maxHeartbeats 1000000 in
set_option maxRecDepth 100000 in
theorem rlong_2e (h : bhd (bt l 0) = 2) (h1 : 224 ≤ c) (h2 : c ≤ 239) (hx : c ≠ 224 ∧ c ≠ 237) :
    Calls Tryz.prog 31 #[.slice (some ⟨b, off, none⟩) n c0] w fun e w' => e = .returned (.int .i64 (lng l)) ∧ w = w' := by
  have k0 : w.cell? ⟨b, off, none⟩ = some (.int .u8 c) := by rw [hc]; exact hcs 0 hl
  have hp : (0 : Int) < n := by omega
  have Hn := Lib.hid hn
  have Hc := Lib.hid hcs
  have Hb := Lib.hid h
  have HC := Lib.hid hc
  have Hx := Lib.hid hx
  unfold maxLen at hm
  have q224 : (c == 224) = false := by simp; omega
  have q237 : (c == 237) = false := by simp; omega
  have q240 : (c == 240) = false := by simp; omega
  have q244 : (c == 244) = false := by simp; omega
  clear hcs hc h hn hl hx
  go_enter Tryz.func31, Tryz.ntmps31
  go_wp2
  go_loop [5] (fun i => ∃ k : Nat, 1 ≤ k ∧ k ≤ 3 ∧ i = .int .i64 k ∧ CRel l k) (fun i => 3 - (intOf i).toNat)
  case atStart => exact ⟨1, by omega, by omega, rfl, CRel.one l⟩
  case round =>
    obtain ⟨k, hk1, hk, rfl, hC⟩ := hrel
    have HK := Lib.hid hC
    clear hC
    by_cases hlt : k < 3
    · by_cases hkn : k < n
      · have kc := Hc.out k (by have := Hn.out; omega)
        have d0 := bt_lo l k
        have d1 := bt_hi l k
        by_cases g1 : bt l k < 128
        · have E := Lib.hid (lng_fail (m := 2) Hb.out hk1 (by omega) (.inr (by simp [wth]; omega)))
          go_wp2
          go_ret
          exact ⟨ret_int (by rw [E.out]; rfl), rfl⟩
        · by_cases g2 : 191 < bt l k
          · have E := Lib.hid (lng_fail (m := 2) Hb.out hk1 (by omega) (.inr (by simp [wth]; omega)))
            go_wp2
            go_ret
            exact ⟨ret_int (by rw [E.out]; rfl), rfl⟩
          · have R := HK.out.next (by have := Hn.out; omega) (by simp [wth]; omega)
            go_wp2
            go_round
            case rel => exact ⟨k + 1, by omega, by omega, by go_num, R⟩
            case measure => simp [intOf]; omega
      · have E := Lib.hid (lng_fail (m := 2) Hb.out hk1 (by omega) (.inl (by have := Hn.out; omega)))
        go_wp2
        go_ret
        exact ⟨ret_int (by rw [E.out]; rfl), rfl⟩
    · obtain rfl : k = 3 := by omega
      have E := Lib.hid (lng_good (m := 2) Hb.out (by omega) HK.out (by have := Hx.out; have := HC.out; unfold spc; omega))
      have h1l := (HK.out 1 (by omega) (by omega)).1
      have k1 := Hc.out 1 h1l
      have h1n : (1 : Int) < n := by have := Hn.out; omega
      go_wp2
      go_ret
      exact ⟨ret_int (by rw [E.out]; rfl), rfl⟩
set_option maxHeartbeats 1000000 in
set_option maxRecDepth 100000 in
theorem rlong_3a (h : bhd (bt l 0) = 3) (h1 : 240 ≤ c) (h2 : c ≤ 244) (hx : c = 240 ∧ bt l 1 < 144) :
    Calls Tryz.prog 31 #[.slice (some ⟨b, off, none⟩) n c0] w fun e w' => e = .returned (.int .i64 (lng l)) ∧ w = w' := by
  have k0 : w.cell? ⟨b, off, none⟩ = some (.int .u8 c) := by rw [hc]; exact hcs 0 hl
  have hp : (0 : Int) < n := by omega
  have Hn := Lib.hid hn
  have Hc := Lib.hid hcs
  have Hb := Lib.hid h
  have HC := Lib.hid hc
  have Hx := Lib.hid hx
  unfold maxLen at hm
  have hy := hx.2
  have q224 : (c == 224) = false := by simp; omega
  have q237 : (c == 237) = false := by simp; omega
  have q240 : (c == 240) = true := by simp; omega
  have q244 : (c == 244) = false := by simp; omega
  clear hcs hc h hn hl hx
  go_enter Tryz.func31, Tryz.ntmps31
  go_wp2
  go_loop [5] (fun i => ∃ k : Nat, 1 ≤ k ∧ k ≤ 4 ∧ i = .int .i64 k ∧ CRel l k) (fun i => 4 - (intOf i).toNat)
  case atStart => exact ⟨1, by omega, by omega, rfl, CRel.one l⟩
  case round =>
    obtain ⟨k, hk1, hk, rfl, hC⟩ := hrel
    have HK := Lib.hid hC
    clear hC
    by_cases hlt : k < 4
    · by_cases hkn : k < n
      · have kc := Hc.out k (by have := Hn.out; omega)
        have d0 := bt_lo l k
        have d1 := bt_hi l k
        by_cases g1 : bt l k < 128
        · have E := Lib.hid (lng_fail (m := 3) Hb.out hk1 (by omega) (.inr (by simp [wth]; omega)))
          go_wp2
          go_ret
          exact ⟨ret_int (by rw [E.out]; rfl), rfl⟩
        · by_cases g2 : 191 < bt l k
          · have E := Lib.hid (lng_fail (m := 3) Hb.out hk1 (by omega) (.inr (by simp [wth]; omega)))
            go_wp2
            go_ret
            exact ⟨ret_int (by rw [E.out]; rfl), rfl⟩
          · have R := HK.out.next (by have := Hn.out; omega) (by simp [wth]; omega)
            go_wp2
            go_round
            case rel => exact ⟨k + 1, by omega, by omega, by go_num, R⟩
            case measure => simp [intOf]; omega
      · have E := Lib.hid (lng_fail (m := 3) Hb.out hk1 (by omega) (.inl (by have := Hn.out; omega)))
        go_wp2
        go_ret
        exact ⟨ret_int (by rw [E.out]; rfl), rfl⟩
    · obtain rfl : k = 4 := by omega
      have E := Lib.hid (lng_bad (m := 3) Hb.out (by omega) HK.out (by have := Hx.out; have := HC.out; unfold spc; omega))
      have h1l := (HK.out 1 (by omega) (by omega)).1
      have k1 := Hc.out 1 h1l
      have h1n : (1 : Int) < n := by have := Hn.out; omega
      go_wp2
      go_ret
      exact ⟨ret_int (by rw [E.out]; rfl), rfl⟩
set_option maxHeartbeats 1000000 in
set_option maxRecDepth 100000 in
theorem rlong_3b (h : bhd (bt l 0) = 3) (h1 : 240 ≤ c) (h2 : c ≤ 244) (hx : c = 240 ∧ ¬ bt l 1 < 144) :
    Calls Tryz.prog 31 #[.slice (some ⟨b, off, none⟩) n c0] w fun e w' => e = .returned (.int .i64 (lng l)) ∧ w = w' := by
  have k0 : w.cell? ⟨b, off, none⟩ = some (.int .u8 c) := by rw [hc]; exact hcs 0 hl
  have hp : (0 : Int) < n := by omega
  have Hn := Lib.hid hn
  have Hc := Lib.hid hcs
  have Hb := Lib.hid h
  have HC := Lib.hid hc
  have Hx := Lib.hid hx
  unfold maxLen at hm
  have hy := hx.2
  have q224 : (c == 224) = false := by simp; omega
  have q237 : (c == 237) = false := by simp; omega
  have q240 : (c == 240) = true := by simp; omega
  have q244 : (c == 244) = false := by simp; omega
  clear hcs hc h hn hl hx
  go_enter Tryz.func31, Tryz.ntmps31
  go_wp2
  go_loop [5] (fun i => ∃ k : Nat, 1 ≤ k ∧ k ≤ 4 ∧ i = .int .i64 k ∧ CRel l k) (fun i => 4 - (intOf i).toNat)
  case atStart => exact ⟨1, by omega, by omega, rfl, CRel.one l⟩
  case round =>
    obtain ⟨k, hk1, hk, rfl, hC⟩ := hrel
    have HK := Lib.hid hC
    clear hC
    by_cases hlt : k < 4
    · by_cases hkn : k < n
      · have kc := Hc.out k (by have := Hn.out; omega)
        have d0 := bt_lo l k
        have d1 := bt_hi l k
        by_cases g1 : bt l k < 128
        · have E := Lib.hid (lng_fail (m := 3) Hb.out hk1 (by omega) (.inr (by simp [wth]; omega)))
          go_wp2
          go_ret
          exact ⟨ret_int (by rw [E.out]; rfl), rfl⟩
        · by_cases g2 : 191 < bt l k
          · have E := Lib.hid (lng_fail (m := 3) Hb.out hk1 (by omega) (.inr (by simp [wth]; omega)))
            go_wp2
            go_ret
            exact ⟨ret_int (by rw [E.out]; rfl), rfl⟩
          · have R := HK.out.next (by have := Hn.out; omega) (by simp [wth]; omega)
            go_wp2
            go_round
            case rel => exact ⟨k + 1, by omega, by omega, by go_num, R⟩
            case measure => simp [intOf]; omega
      · have E := Lib.hid (lng_fail (m := 3) Hb.out hk1 (by omega) (.inl (by have := Hn.out; omega)))
        go_wp2
        go_ret
        exact ⟨ret_int (by rw [E.out]; rfl), rfl⟩
    · obtain rfl : k = 4 := by omega
      have E := Lib.hid (lng_good (m := 3) Hb.out (by omega) HK.out (by have := Hx.out; have := HC.out; unfold spc; omega))
      have h1l := (HK.out 1 (by omega) (by omega)).1
      have k1 := Hc.out 1 h1l
      have h1n : (1 : Int) < n := by have := Hn.out; omega
      go_wp2
      go_ret
      exact ⟨ret_int (by rw [E.out]; rfl), rfl⟩
set_option maxHeartbeats 1000000 in
set_option maxRecDepth 100000 in
theorem rlong_3c (h : bhd (bt l 0) = 3) (h1 : 240 ≤ c) (h2 : c ≤ 244) (hx : c = 244 ∧ 143 < bt l 1) :
    Calls Tryz.prog 31 #[.slice (some ⟨b, off, none⟩) n c0] w fun e w' => e = .returned (.int .i64 (lng l)) ∧ w = w' := by
  have k0 : w.cell? ⟨b, off, none⟩ = some (.int .u8 c) := by rw [hc]; exact hcs 0 hl
  have hp : (0 : Int) < n := by omega
  have Hn := Lib.hid hn
  have Hc := Lib.hid hcs
  have Hb := Lib.hid h
  have HC := Lib.hid hc
  have Hx := Lib.hid hx
  unfold maxLen at hm
  have hy := hx.2
  have q224 : (c == 224) = false := by simp; omega
  have q237 : (c == 237) = false := by simp; omega
  have q240 : (c == 240) = false := by simp; omega
  have q244 : (c == 244) = true := by simp; omega
  clear hcs hc h hn hl hx
  go_enter Tryz.func31, Tryz.ntmps31
  go_wp2
  go_loop [5] (fun i => ∃ k : Nat, 1 ≤ k ∧ k ≤ 4 ∧ i = .int .i64 k ∧ CRel l k) (fun i => 4 - (intOf i).toNat)
  case atStart => exact ⟨1, by omega, by omega, rfl, CRel.one l⟩
  case round =>
    obtain ⟨k, hk1, hk, rfl, hC⟩ := hrel
    have HK := Lib.hid hC
    clear hC
    by_cases hlt : k < 4
    · by_cases hkn : k < n
      · have kc := Hc.out k (by have := Hn.out; omega)
        have d0 := bt_lo l k
        have d1 := bt_hi l k
        by_cases g1 : bt l k < 128
        · have E := Lib.hid (lng_fail (m := 3) Hb.out hk1 (by omega) (.inr (by simp [wth]; omega)))
          go_wp2
          go_ret
          exact ⟨ret_int (by rw [E.out]; rfl), rfl⟩
        · by_cases g2 : 191 < bt l k
          · have E := Lib.hid (lng_fail (m := 3) Hb.out hk1 (by omega) (.inr (by simp [wth]; omega)))
            go_wp2
            go_ret
            exact ⟨ret_int (by rw [E.out]; rfl), rfl⟩
          · have R := HK.out.next (by have := Hn.out; omega) (by simp [wth]; omega)
            go_wp2
            go_round
            case rel => exact ⟨k + 1, by omega, by omega, by go_num, R⟩
            case measure => simp [intOf]; omega
      · have E := Lib.hid (lng_fail (m := 3) Hb.out hk1 (by omega) (.inl (by have := Hn.out; omega)))
        go_wp2
        go_ret
        exact ⟨ret_int (by rw [E.out]; rfl), rfl⟩
    · obtain rfl : k = 4 := by omega
      have E := Lib.hid (lng_bad (m := 3) Hb.out (by omega) HK.out (by have := Hx.out; have := HC.out; unfold spc; omega))
      have h1l := (HK.out 1 (by omega) (by omega)).1
      have k1 := Hc.out 1 h1l
      have h1n : (1 : Int) < n := by have := Hn.out; omega
      go_wp2
      go_ret
      exact ⟨ret_int (by rw [E.out]; rfl), rfl⟩
set_option maxHeartbeats 1000000 in
set_option maxRecDepth 100000 in
theorem rlong_3d (h : bhd (bt l 0) = 3) (h1 : 240 ≤ c) (h2 : c ≤ 244) (hx : c = 244 ∧ ¬ 143 < bt l 1) :
    Calls Tryz.prog 31 #[.slice (some ⟨b, off, none⟩) n c0] w fun e w' => e = .returned (.int .i64 (lng l)) ∧ w = w' := by
  have k0 : w.cell? ⟨b, off, none⟩ = some (.int .u8 c) := by rw [hc]; exact hcs 0 hl
  have hp : (0 : Int) < n := by omega
  have Hn := Lib.hid hn
  have Hc := Lib.hid hcs
  have Hb := Lib.hid h
  have HC := Lib.hid hc
  have Hx := Lib.hid hx
  unfold maxLen at hm
  have hy := hx.2
  have q224 : (c == 224) = false := by simp; omega
  have q237 : (c == 237) = false := by simp; omega
  have q240 : (c == 240) = false := by simp; omega
  have q244 : (c == 244) = true := by simp; omega
  clear hcs hc h hn hl hx
  go_enter Tryz.func31, Tryz.ntmps31
  go_wp2
  go_loop [5] (fun i => ∃ k : Nat, 1 ≤ k ∧ k ≤ 4 ∧ i = .int .i64 k ∧ CRel l k) (fun i => 4 - (intOf i).toNat)
  case atStart => exact ⟨1, by omega, by omega, rfl, CRel.one l⟩
  case round =>
    obtain ⟨k, hk1, hk, rfl, hC⟩ := hrel
    have HK := Lib.hid hC
    clear hC
    by_cases hlt : k < 4
    · by_cases hkn : k < n
      · have kc := Hc.out k (by have := Hn.out; omega)
        have d0 := bt_lo l k
        have d1 := bt_hi l k
        by_cases g1 : bt l k < 128
        · have E := Lib.hid (lng_fail (m := 3) Hb.out hk1 (by omega) (.inr (by simp [wth]; omega)))
          go_wp2
          go_ret
          exact ⟨ret_int (by rw [E.out]; rfl), rfl⟩
        · by_cases g2 : 191 < bt l k
          · have E := Lib.hid (lng_fail (m := 3) Hb.out hk1 (by omega) (.inr (by simp [wth]; omega)))
            go_wp2
            go_ret
            exact ⟨ret_int (by rw [E.out]; rfl), rfl⟩
          · have R := HK.out.next (by have := Hn.out; omega) (by simp [wth]; omega)
            go_wp2
            go_round
            case rel => exact ⟨k + 1, by omega, by omega, by go_num, R⟩
            case measure => simp [intOf]; omega
      · have E := Lib.hid (lng_fail (m := 3) Hb.out hk1 (by omega) (.inl (by have := Hn.out; omega)))
        go_wp2
        go_ret
        exact ⟨ret_int (by rw [E.out]; rfl), rfl⟩
    · obtain rfl : k = 4 := by omega
      have E := Lib.hid (lng_good (m := 3) Hb.out (by omega) HK.out (by have := Hx.out; have := HC.out; unfold spc; omega))
      have h1l := (HK.out 1 (by omega) (by omega)).1
      have k1 := Hc.out 1 h1l
      have h1n : (1 : Int) < n := by have := Hn.out; omega
      go_wp2
      go_ret
      exact ⟨ret_int (by rw [E.out]; rfl), rfl⟩
set_option maxHeartbeats 1000000 in
set_option maxRecDepth 100000 in
theorem rlong_3e (h : bhd (bt l 0) = 3) (h1 : 240 ≤ c) (h2 : c ≤ 244) (hx : c ≠ 240 ∧ c ≠ 244) :
    Calls Tryz.prog 31 #[.slice (some ⟨b, off, none⟩) n c0] w fun e w' => e = .returned (.int .i64 (lng l)) ∧ w = w' := by
  have k0 : w.cell? ⟨b, off, none⟩ = some (.int .u8 c) := by rw [hc]; exact hcs 0 hl
  have hp : (0 : Int) < n := by omega
  have Hn := Lib.hid hn
  have Hc := Lib.hid hcs
  have Hb := Lib.hid h
  have HC := Lib.hid hc
  have Hx := Lib.hid hx
  unfold maxLen at hm
  have q224 : (c == 224) = false := by simp; omega
  have q237 : (c == 237) = false := by simp; omega
  have q240 : (c == 240) = false := by simp; omega
  have q244 : (c == 244) = false := by simp; omega
  clear hcs hc h hn hl hx
  go_enter Tryz.func31, Tryz.ntmps31
  go_wp2
  go_loop [5] (fun i => ∃ k : Nat, 1 ≤ k ∧ k ≤ 4 ∧ i = .int .i64 k ∧ CRel l k) (fun i => 4 - (intOf i).toNat)
  case atStart => exact ⟨1, by omega, by omega, rfl, CRel.one l⟩
  case round =>
    obtain ⟨k, hk1, hk, rfl, hC⟩ := hrel
    have HK := Lib.hid hC
    clear hC
    by_cases hlt : k < 4
    · by_cases hkn : k < n
      · have kc := Hc.out k (by have := Hn.out; omega)
        have d0 := bt_lo l k
        have d1 := bt_hi l k
        by_cases g1 : bt l k < 128
        · have E := Lib.hid (lng_fail (m := 3) Hb.out hk1 (by omega) (.inr (by simp [wth]; omega)))
          go_wp2
          go_ret
          exact ⟨ret_int (by rw [E.out]; rfl), rfl⟩
        · by_cases g2 : 191 < bt l k
          · have E := Lib.hid (lng_fail (m := 3) Hb.out hk1 (by omega) (.inr (by simp [wth]; omega)))
            go_wp2
            go_ret
            exact ⟨ret_int (by rw [E.out]; rfl), rfl⟩
          · have R := HK.out.next (by have := Hn.out; omega) (by simp [wth]; omega)
            go_wp2
            go_round
            case rel => exact ⟨k + 1, by omega, by omega, by go_num, R⟩
            case measure => simp [intOf]; omega
      · have E := Lib.hid (lng_fail (m := 3) Hb.out hk1 (by omega) (.inl (by have := Hn.out; omega)))
        go_wp2
        go_ret
        exact ⟨ret_int (by rw [E.out]; rfl), rfl⟩
    · obtain rfl : k = 4 := by omega
      have E := Lib.hid (lng_good (m := 3) Hb.out (by omega) HK.out (by have := Hx.out; have := HC.out; unfold spc; omega))
      have h1l := (HK.out 1 (by omega) (by omega)).1
      have k1 := Hc.out 1 h1l
      have h1n : (1 : Int) < n := by have := Hn.out; omega
      go_wp2
      go_ret
      exact ⟨ret_int (by rw [E.out]; rfl), rfl⟩
end
theorem rlong_nil (A : Option Addr) (c : Nat) (w : World) : Calls Tryz.prog 31 #[.slice A 0 c] w fun e w' => e = .returned (.int .i64 0) ∧ w = w' := by
  go_enter Tryz.func31, Tryz.ntmps31
  go_wp2
  go_ret
  exact ⟨rfl, rfl⟩
/-- inarchref01.Long, of whatever bytes. -/
theorem rlong_any {l : List UInt8} {B : Nat} {A : Option Addr} (n c : Nat) {w : World} (hn : n = l.length) (hA : Byt w B A l) (hm : n ≤ maxLen) :
    Calls Tryz.prog 31 #[.slice A n c] w fun e w' => e = .returned (.int .i64 (lng l)) ∧ w = w' := by
  by_cases hl : 0 < l.length
  · obtain ⟨b, off, rfl, _, hc⟩ := hA.at_ hl
    have h0 := bt_lo l 0
    have h1 := bt_hi l 0
    rcases bhd_range h0 h1 with ⟨g, h⟩ | ⟨g, h, h'⟩ | ⟨g, h, h'⟩ | ⟨g, h, h'⟩ | ⟨g, h⟩ | ⟨g, h⟩
    · exact rlong_0 l b off n c _ w hn hc hl rfl g h
    · exact rlong_1 l b off n c _ w hn hc hl hm rfl g h h' trivial
    · by_cases a : bt l 0 = 224
      · by_cases d : bt l 1 < 160
        · exact rlong_2a l b off n c _ w hn hc hl hm rfl g h h' ⟨a, d⟩
        · exact rlong_2b l b off n c _ w hn hc hl hm rfl g h h' ⟨a, d⟩
      · by_cases a' : bt l 0 = 237
        · by_cases d : 159 < bt l 1
          · exact rlong_2c l b off n c _ w hn hc hl hm rfl g h h' ⟨a', d⟩
          · exact rlong_2d l b off n c _ w hn hc hl hm rfl g h h' ⟨a', d⟩
        · exact rlong_2e l b off n c _ w hn hc hl hm rfl g h h' ⟨a, a'⟩
    · by_cases a : bt l 0 = 240
      · by_cases d : bt l 1 < 144
        · exact rlong_3a l b off n c _ w hn hc hl hm rfl g h h' ⟨a, d⟩
        · exact rlong_3b l b off n c _ w hn hc hl hm rfl g h h' ⟨a, d⟩
      · by_cases a' : bt l 0 = 244
        · by_cases d : 143 < bt l 1
          · exact rlong_3c l b off n c _ w hn hc hl hm rfl g h h' ⟨a', d⟩
          · exact rlong_3d l b off n c _ w hn hc hl hm rfl g h h' ⟨a', d⟩
        · exact rlong_3e l b off n c _ w hn hc hl hm rfl g h h' ⟨a, a'⟩
    · exact rlong_none l b off n c _ w hn hc hl rfl g (.inl h)
    · exact rlong_none l b off n c _ w hn hc hl rfl g (.inr h)
  · obtain rfl : l = [] := List.eq_nil_of_length_eq_zero (by omega)
    obtain rfl : n = 0 := hn
    exact rlong_nil A c w
end Go.Proofs.YtdclhepjoifpiaaGreatDoor.U8
/- The document's answers on the first wrong byte, and on a byte's line and column, walked. -/
namespace Go.Proofs.YtdclhepjoifpiaaGreatDoor.U8
open Go.RowKit

theorem rlong_is {l : List UInt8} {B : Nat} {A : Option Addr} (m : Int) (n c : Nat) {w : World} (hn : n = l.length) (hA : Byt w B A l) (hm : n ≤ maxLen) (e : m = lng l) :
    Calls Tryz.prog 31 #[.slice A n c] w fun e w' => e = .returned (.int .i64 m) ∧ w = w' := e ▸ rlong_any n c hn hA hm

set_option maxHeartbeats 1000000 in
theorem rcheck_any {l : List UInt8} {B : Nat} {A : Option Addr} (n c : Nat) {w : World} (hn : n = l.length) (hnc : n ≤ c) (hA : Byt w B A l) (hm : c ≤ maxLen) :
    Calls Tryz.prog 22 #[.slice A n c] w fun e w' => e = .returned (.tuple #[.int .i64 (chkAt l), .bool (chkOk l)]) ∧ w = w' := by
  have hm' := hm
  unfold maxLen at hm
  have Hn := Lib.hid hn
  clear hn
  go_enter Tryz.func22, Tryz.ntmps22
  go_wp2
  go_loop [4] (fun i => ∃ k : Nat, k ≤ n ∧ i = .int .i64 k ∧ scn l = k + scn (l.drop k)) (fun i => n - (intOf i).toNat)
  case atStart => exact ⟨0, Nat.zero_le _, rfl, by simp⟩
  case round =>
    obtain ⟨k, hk, rfl, hs⟩ := hrel
    have HS := Lib.hid hs
    clear hs
    by_cases hlt : k < n
    · have hcut := hA.cut' (k := k) (by have := Hn.out; omega)
      obtain ⟨m, Hm⟩ : ∃ m, Hid (m = lng (l.drop k)) := ⟨_, rfl⟩
      have hmm : m ≤ n - k := by have := lng_le (l.drop k); have := Hm.out; have := Hn.out; simp at *; omega
      by_cases hz : m = 0
      · subst hz
        have HA := Lib.hid (at_wrong (k := k) HS.out (by have := Hn.out; omega) Hm.out.symm)
        go_wp2_with (go_at_call 31; refine (rlong_is 0 _ _ (by have := Hn.out; simp; omega) hcut (by unfold maxLen; omega) (by have := Hm.out; omega)).mono ?_; rintro e w' ⟨rfl, rfl⟩)
        go_ret2
        exact ⟨ret_ib HA.out.1.symm HA.out.2.symm, rfl⟩
      · have HA := Lib.hid (at_on (by have := Hn.out; omega) HS.out Hm.out hz)
        have hz' : ((m : Int) == 0) = false := by simp; omega
        go_wp2_with (go_at_call 31; refine (rlong_is (m : Int) _ _ (by have := Hn.out; simp; omega) hcut (by unfold maxLen; omega) (by have := Hm.out; omega)).mono ?_; rintro e w' ⟨rfl, rfl⟩)
        go_round
        case rel => exact ⟨k + m, by omega, by go_num, HA.out.2⟩
        case measure => simp [intOf]; omega
    · have HA := Lib.hid (at_end (k := k) (by have := Hn.out; omega) HS.out (by have := Hn.out; omega))
      go_wp2
      go_ret2
      exact ⟨ret_ib HA.out.1.symm HA.out.2.symm, rfl⟩
end Go.Proofs.YtdclhepjoifpiaaGreatDoor.U8
