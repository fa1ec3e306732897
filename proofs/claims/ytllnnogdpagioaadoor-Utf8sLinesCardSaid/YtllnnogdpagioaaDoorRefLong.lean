/- How many bytes the rune has that bytes begin with: the document's answer, walked. -/
import Derived.Test.YtllnnogdpagioaaDoorRefLongM
import Derived.LoopTactic
import Derived.Outline
namespace Go.Proofs.YtllnnogdpagioaaDoor
open Go.RowKit

section
variable (l : List UInt8) (b off n c0 : Nat) (c : Int) (w : World) (hn : n = l.length) (hcs : ∀ k, k < l.length → w.cell? ⟨b, off + k, none⟩ = some (.int .u8 (bt l k))) (hl : 0 < l.length) (hm : n ≤ maxLen) (hc : c = bt l 0)
include hn hcs hl hc
theorem rlong_0 (h : bhd (bt l 0) = 0) (h1 : c ≤ 127) :
    Calls Tryd.prog 27 #[.slice (some ⟨b, off, none⟩) n c0] w fun e w' => e = .returned (.int .i64 (lng l)) ∧ w = w' := by
  have c1 : w.cell? ⟨b, off, none⟩ = some (.int .u8 c) := by rw [hc]; exact hcs 0 hl
  have E := Lib.hid (lng_0 hl h)
  have hp : (0 : Int) < n := by omega
  have h0 : 0 ≤ c := by rw [hc]; exact bt_lo l 0
  clear hcs hc h hn
  go_enter Tryd.func27, Tryd.ntmps27
  go_wp2
  go_loop [5] (fun i => i = .int .i64 1) (fun _ => 0)
  case atStart => exact rfl
  case round =>
    subst hrel
    go_wp2
    go_ret
    exact ⟨ret_int (by rw [E.out]; rfl), rfl⟩
theorem rlong_none (h : bhd (bt l 0) = -1) (h1 : 128 ≤ c ∧ c ≤ 193 ∨ 245 ≤ c) :
    Calls Tryd.prog 27 #[.slice (some ⟨b, off, none⟩) n c0] w fun e w' => e = .returned (.int .i64 (lng l)) ∧ w = w' := by
  have c1 : w.cell? ⟨b, off, none⟩ = some (.int .u8 c) := by rw [hc]; exact hcs 0 hl
  have E := Lib.hid (lng_none h)
  have hp : (0 : Int) < n := by omega
  have h0 : c ≤ 255 := by rw [hc]; exact bt_hi l 0
  clear hcs hc h hn
  rcases h1 with ⟨h2, h3⟩ | h2
  · go_enter Tryd.func27, Tryd.ntmps27
    go_wp2
    go_ret
    exact ⟨ret_int (by rw [E.out]; rfl), rfl⟩
  · go_enter Tryd.func27, Tryd.ntmps27
    go_wp2
    go_ret
    exact ⟨ret_int (by rw [E.out]; rfl), rfl⟩
include hm
set_option maxHeartbeats 1000000 in
set_option maxRecDepth 100000 in
theorem rlong_1 (h : bhd (bt l 0) = 1) (h1 : 194 ≤ c) (h2 : c ≤ 223) (hx : True) :
    Calls Tryd.prog 27 #[.slice (some ⟨b, off, none⟩) n c0] w fun e w' => e = .returned (.int .i64 (lng l)) ∧ w = w' := by
  have k0 : w.cell? ⟨b, off, none⟩ = some (.int .u8 c) := by rw [hc]; exact hcs 0 hl
  have hp : (0 : Int) < n := by omega
  have Hn := Lib.hid hn
  have Hc := Lib.hid hcs
  have Hb := Lib.hid h
  have HC := Lib.hid hc
  have Hx := Lib.hid hx
  unfold maxLen at hm
  have q224 : (c == 224) = false := by simp; omega
  have q237 : (c == 237) = false := by simp; omega
  have q240 : (c == 240) = false := by simp; omega
  have q244 : (c == 244) = false := by simp; omega
  clear hcs hc h hn hl hx
  go_enter Tryd.func27, Tryd.ntmps27
  go_wp2
  go_loop [5] (fun i => ∃ k : Nat, 1 ≤ k ∧ k ≤ 2 ∧ i = .int .i64 k ∧ CRel l k) (fun i => 2 - (intOf i).toNat)
  case atStart => exact ⟨1, by omega, by omega, rfl, CRel.one l⟩
  case round =>
    obtain ⟨k, hk1, hk, rfl, hC⟩ := hrel
    have HK := Lib.hid hC
    clear hC
    by_cases hlt : k < 2
    · by_cases hkn : k < n
      · have kc := Hc.out k (by have := Hn.out; omega)
        have d0 := bt_lo l k
        have d1 := bt_hi l k
        by_cases g1 : bt l k < 128
        · have E := Lib.hid (lng_fail (m := 1) Hb.out hk1 (by omega) (.inr (by simp [wth]; omega)))
          go_wp2
          go_ret
          exact ⟨ret_int (by rw [E.out]; rfl), rfl⟩
        · by_cases g2 : 191 < bt l k
          · have E := Lib.hid (lng_fail (m := 1) Hb.out hk1 (by omega) (.inr (by simp [wth]; omega)))
            go_wp2
            go_ret
            exact ⟨ret_int (by rw [E.out]; rfl), rfl⟩
          · have R := HK.out.next (by have := Hn.out; omega) (by simp [wth]; omega)
            go_wp2
            go_round
            case rel => exact ⟨k + 1, by omega, by omega, by go_num, R⟩
            case measure => simp [intOf]; omega
      · have E := Lib.hid (lng_fail (m := 1) Hb.out hk1 (by omega) (.inl (by have := Hn.out; omega)))
        go_wp2
        go_ret
        exact ⟨ret_int (by rw [E.out]; rfl), rfl⟩
    · obtain rfl : k = 2 := by omega
      have E := Lib.hid (lng_good (m := 1) Hb.out (by omega) HK.out (by have := Hx.out; have := HC.out; unfold spc; omega))
      have h1l := (HK.out 1 (by omega) (by omega)).1
      have k1 := Hc.out 1 h1l
      have h1n : (1 : Int) < n := by have := Hn.out; omega
      go_wp2
      go_ret
      exact ⟨ret_int (by rw [E.out]; rfl), rfl⟩
set_option maxHeartbeats 1000000 in
set_option maxRecDepth 100000 in
theorem rlong_2a (h : bhd (bt l 0) = 2) (h1 : 224 ≤ c) (h2 : c ≤ 239) (hx : c = 224 ∧ bt l 1 < 160) :
    Calls Tryd.prog 27 #[.slice (some ⟨b, off, none⟩) n c0] w fun e w' => e = .returned (.int .i64 (lng l)) ∧ w = w' := by
  have k0 : w.cell? ⟨b, off, none⟩ = some (.int .u8 c) := by rw [hc]; exact hcs 0 hl
  have hp : (0 : Int) < n := by omega
  have Hn := Lib.hid hn
  have Hc := Lib.hid hcs
  have Hb := Lib.hid h
  have HC := Lib.hid hc
  have Hx := Lib.hid hx
  unfold maxLen at hm
  have hy := hx.2
  have q224 : (c == 224) = true := by simp; omega
  have q237 : (c == 237) = false := by simp; omega
  have q240 : (c == 240) = false := by simp; omega
  have q244 : (c == 244) = false := by simp; omega
  clear hcs hc h hn hl hx
  go_enter Tryd.func27, Tryd.ntmps27
  go_wp2
  go_loop [5] (fun i => ∃ k : Nat, 1 ≤ k ∧ k ≤ 3 ∧ i = .int .i64 k ∧ CRel l k) (fun i => 3 - (intOf i).toNat)
  case atStart => exact ⟨1, by omega, by omega, rfl, CRel.one l⟩
  case round =>
    obtain ⟨k, hk1, hk, rfl, hC⟩ := hrel
    have HK := Lib.hid hC
    clear hC
    by_cases hlt : k < 3
    · by_cases hkn : k < n
      · have kc := Hc.out k (by have := Hn.out; omega)
        have d0 := bt_lo l k
        have d1 := bt_hi l k
        by_cases g1 : bt l k < 128
        · have E := Lib.hid (lng_fail (m := 2) Hb.out hk1 (by omega) (.inr (by simp [wth]; omega)))
          go_wp2
          go_ret
          exact ⟨ret_int (by rw [E.out]; rfl), rfl⟩
        · by_cases g2 : 191 < bt l k
          · have E := Lib.hid (lng_fail (m := 2) Hb.out hk1 (by omega) (.inr (by simp [wth]; omega)))
            go_wp2
            go_ret
            exact ⟨ret_int (by rw [E.out]; rfl), rfl⟩
          · have R := HK.out.next (by have := Hn.out; omega) (by simp [wth]; omega)
            go_wp2
            go_round
            case rel => exact ⟨k + 1, by omega, by omega, by go_num, R⟩
            case measure => simp [intOf]; omega
      · have E := Lib.hid (lng_fail (m := 2) Hb.out hk1 (by omega) (.inl (by have := Hn.out; omega)))
        go_wp2
        go_ret
        exact ⟨ret_int (by rw [E.out]; rfl), rfl⟩
    · obtain rfl : k = 3 := by omega
      have E := Lib.hid (lng_bad (m := 2) Hb.out (by omega) HK.out (by have := Hx.out; have := HC.out; unfold spc; omega))
      have h1l := (HK.out 1 (by omega) (by omega)).1
      have k1 := Hc.out 1 h1l
      have h1n : (1 : Int) < n := by have := Hn.out; omega
      go_wp2
      go_ret
      exact ⟨ret_int (by rw [E.out]; rfl), rfl⟩
set_option maxHeartbeats 1000000 in
set_option maxRecDepth 100000 in
theorem rlong_2b (h : bhd (bt l 0) = 2) (h1 : 224 ≤ c) (h2 : c ≤ 239) (hx : c = 224 ∧ ¬ bt l 1 < 160) :
    Calls Tryd.prog 27 #[.slice (some ⟨b, off, none⟩) n c0] w fun e w' => e = .returned (.int .i64 (lng l)) ∧ w = w' := by
  have k0 : w.cell? ⟨b, off, none⟩ = some (.int .u8 c) := by rw [hc]; exact hcs 0 hl
  have hp : (0 : Int) < n := by omega
  have Hn := Lib.hid hn
  have Hc := Lib.hid hcs
  have Hb := Lib.hid h
  have HC := Lib.hid hc
  have Hx := Lib.hid hx
  unfold maxLen at hm
  have hy := hx.2
  have q224 : (c == 224) = true := by simp; omega
  have q237 : (c == 237) = false := by simp; omega
  have q240 : (c == 240) = false := by simp; omega
  have q244 : (c == 244) = false := by simp; omega
  clear hcs hc h hn hl hx
  go_enter Tryd.func27, Tryd.ntmps27
  go_wp2
  go_loop [5] (fun i => ∃ k : Nat, 1 ≤ k ∧ k ≤ 3 ∧ i = .int .i64 k ∧ CRel l k) (fun i => 3 - (intOf i).toNat)
  case atStart => exact ⟨1, by omega, by omega, rfl, CRel.one l⟩
  case round =>
    obtain ⟨k, hk1, hk, rfl, hC⟩ := hrel
    have HK := Lib.hid hC
    clear hC
    by_cases hlt : k < 3
    · by_cases hkn : k < n
      · have kc := Hc.out k (by have := Hn.out; omega)
        have d0 := bt_lo l k
        have d1 := bt_hi l k
        by_cases g1 : bt l k < 128
        · have E := Lib.hid (lng_fail (m := 2) Hb.out hk1 (by omega) (.inr (by simp [wth]; omega)))
          go_wp2
          go_ret
          exact ⟨ret_int (by rw [E.out]; rfl), rfl⟩
        · by_cases g2 : 191 < bt l k
          · have E := Lib.hid (lng_fail (m := 2) Hb.out hk1 (by omega) (.inr (by simp [wth]; omega)))
            go_wp2
            go_ret
            exact ⟨ret_int (by rw [E.out]; rfl), rfl⟩
          · have R := HK.out.next (by have := Hn.out; omega) (by simp [wth]; omega)
            go_wp2
            go_round
            case rel => exact ⟨k + 1, by omega, by omega, by go_num, R⟩
            case measure => simp [intOf]; omega
      · have E := Lib.hid (lng_fail (m := 2) Hb.out hk1 (by omega) (.inl (by have := Hn.out; omega)))
        go_wp2
        go_ret
        exact ⟨ret_int (by rw [E.out]; rfl), rfl⟩
    · obtain rfl : k = 3 := by omega
      have E := Lib.hid (lng_good (m := 2) Hb.out (by omega) HK.out (by have := Hx.out; have := HC.out; unfold spc; omega))
      have h1l := (HK.out 1 (by omega) (by omega)).1
      have k1 := Hc.out 1 h1l
      have h1n : (1 : Int) < n := by have := Hn.out; omega
      go_wp2
      go_ret
      exact ⟨ret_int (by rw [E.out]; rfl), rfl⟩
set_option maxHeartbeats 1000000 in
set_option maxRecDepth 100000 in
theorem rlong_2c (h : bhd (bt l 0) = 2) (h1 : 224 ≤ c) (h2 : c ≤ 239) (hx : c = 237 ∧ 159 < bt l 1) :
    Calls Tryd.prog 27 #[.slice (some ⟨b, off, none⟩) n c0] w fun e w' => e = .returned (.int .i64 (lng l)) ∧ w = w' := by
  have k0 : w.cell? ⟨b, off, none⟩ = some (.int .u8 c) := by rw [hc]; exact hcs 0 hl
  have hp : (0 : Int) < n := by omega
  have Hn := Lib.hid hn
  have Hc := Lib.hid hcs
  have Hb := Lib.hid h
  have HC := Lib.hid hc
  have Hx := Lib.hid hx
  unfold maxLen at hm
  have hy := hx.2
  have q224 : (c == 224) = false := by simp; omega
  have q237 : (c == 237) = true := by simp; omega
  have q240 : (c == 240) = false := by simp; omega
  have q244 : (c == 244) = false := by simp; omega
  clear hcs hc h hn hl hx
  go_enter Tryd.func27, Tryd.ntmps27
  go_wp2
  go_loop [5] (fun i => ∃ k : Nat, 1 ≤ k ∧ k ≤ 3 ∧ i = .int .i64 k ∧ CRel l k) (fun i => 3 - (intOf i).toNat)
  case atStart => exact ⟨1, by omega, by omega, rfl, CRel.one l⟩
  case round =>
    obtain ⟨k, hk1, hk, rfl, hC⟩ := hrel
    have HK := Lib.hid hC
    clear hC
    by_cases hlt : k < 3
    · by_cases hkn : k < n
      · have kc := Hc.out k (by have := Hn.out; omega)
        have d0 := bt_lo l k
        have d1 := bt_hi l k
        by_cases g1 : bt l k < 128
        · have E := Lib.hid (lng_fail (m := 2) Hb.out hk1 (by omega) (.inr (by simp [wth]; omega)))
          go_wp2
          go_ret
          exact ⟨ret_int (by rw [E.out]; rfl), rfl⟩
        · by_cases g2 : 191 < bt l k
          · have E := Lib.hid (lng_fail (m := 2) Hb.out hk1 (by omega) (.inr (by simp [wth]; omega)))
            go_wp2
            go_ret
            exact ⟨ret_int (by rw [E.out]; rfl), rfl⟩
          · have R := HK.out.next (by have := Hn.out; omega) (by simp [wth]; omega)
            go_wp2
            go_round
            case rel => exact ⟨k + 1, by omega, by omega, by go_num, R⟩
            case measure => simp [intOf]; omega
      · have E := Lib.hid (lng_fail (m := 2) Hb.out hk1 (by omega) (.inl (by have := Hn.out; omega)))
        go_wp2
        go_ret
        exact ⟨ret_int (by rw [E.out]; rfl), rfl⟩
    · obtain rfl : k = 3 := by omega
      have E := Lib.hid (lng_bad (m := 2) Hb.out (by omega) HK.out (by have := Hx.out; have := HC.out; unfold spc; omega))
      have h1l := (HK.out 1 (by omega) (by omega)).1
      have k1 := Hc.out 1 h1l
      have h1n : (1 : Int) < n := by have := Hn.out; omega
      go_wp2
      go_ret
      exact ⟨ret_int (by rw [E.out]; rfl), rfl⟩
set_option maxHeartbeats 1000000 in
set_option maxRecDepth 100000 in
theorem rlong_2d (h : bhd (bt l 0) = 2) (h1 : 224 ≤ c) (h2 : c ≤ 239) (hx : c = 237 ∧ ¬ 159 < bt l 1) :
    Calls Tryd.prog 27 #[.slice (some ⟨b, off, none⟩) n c0] w fun e w' => e = .returned (.int .i64 (lng l)) ∧ w = w' := by
  have k0 : w.cell? ⟨b, off, none⟩ = some (.int .u8 c) := by rw [hc]; exact hcs 0 hl
  have hp : (0 : Int) < n := by omega
  have Hn := Lib.hid hn
  have Hc := Lib.hid hcs
  have Hb := Lib.hid h
  have HC := Lib.hid hc
  have Hx := Lib.hid hx
  unfold maxLen at hm
  have hy := hx.2
  have q224 : (c == 224) = false := by simp; omega
  have q237 : (c == 237) = true := by simp; omega
  have q240 : (c == 240) = false := by simp; omega
  have q244 : (c == 244) = false := by simp; omega
  clear hcs hc h hn hl hx
  go_enter Tryd.func27, Tryd.ntmps27
  go_wp2
  go_loop [5] (fun i => ∃ k : Nat, 1 ≤ k ∧ k ≤ 3 ∧ i = .int .i64 k ∧ CRel l k) (fun i => 3 - (intOf i).toNat)
  case atStart => exact ⟨1, by omega, by omega, rfl, CRel.one l⟩
  case round =>
    obtain ⟨k, hk1, hk, rfl, hC⟩ := hrel
    have HK := Lib.hid hC
    clear hC
    by_cases hlt : k < 3
    · by_cases hkn : k < n
      · have kc := Hc.out k (by have := Hn.out; omega)
        have d0 := bt_lo l k
        have d1 := bt_hi l k
        by_cases g1 : bt l k < 128
        · have E := Lib.hid (lng_fail (m := 2) Hb.out hk1 (by omega) (.inr (by simp [wth]; omega)))
          go_wp2
          go_ret
          exact ⟨ret_int (by rw [E.out]; rfl), rfl⟩
        · by_cases g2 : 191 < bt l k
          · have E := Lib.hid (lng_fail (m := 2) Hb.out hk1 (by omega) (.inr (by simp [wth]; omega)))
            go_wp2
            go_ret
            exact ⟨ret_int (by rw [E.out]; rfl), rfl⟩
          · have R := HK.out.next (by have := Hn.out; omega) (by simp [wth]; omega)
            go_wp2
            go_round
            case rel => exact ⟨k + 1, by omega, by omega, by go_num, R⟩
            case measure => simp [intOf]; omega
      · have E := Lib.hid (lng_fail (m := 2) Hb.out hk1 (by omega) (.inl (by have := Hn.out; omega)))
        go_wp2
        go_ret
        exact ⟨ret_int (by rw [E.out]; rfl), rfl⟩
    · obtain rfl : k = 3 := by omega
      have E := Lib.hid (lng_good (m := 2) Hb.out (by omega) HK.out (by have := Hx.out; have := HC.out; unfold spc; omega))
      have h1l := (HK.out 1 (by omega) (by omega)).1
      have k1 := Hc.out 1 h1l
      have h1n : (1 : Int) < n := by have := Hn.out; omega
      go_wp2
      go_ret
      exact ⟨ret_int (by rw [E.out]; rfl), rfl⟩
set_option maxHeartbeats 1000000 in
set_option maxRecDepth 100000 in
theorem rlong_2e (h : bhd (bt l 0) = 2) (h1 : 224 ≤ c) (h2 : c ≤ 239) (hx : c ≠ 224 ∧ c ≠ 237) :
    Calls Tryd.prog 27 #[.slice (some ⟨b, off, none⟩) n c0] w fun e w' => e = .returned (.int .i64 (lng l)) ∧ w = w' := by
  have k0 : w.cell? ⟨b, off, none⟩ = some (.int .u8 c) := by rw [hc]; exact hcs 0 hl
  have hp : (0 : Int) < n := by omega
  have Hn := Lib.hid hn
  have Hc := Lib.hid hcs
  have Hb := Lib.hid h
  have HC := Lib.hid hc
  have Hx := Lib.hid hx
  unfold maxLen at hm
  have q224 : (c == 224) = false := by simp; omega
  have q237 : (c == 237) = false := by simp; omega
  have q240 : (c == 240) = false := by simp; omega
  have q244 : (c == 244) = false := by simp; omega
  clear hcs hc h hn hl hx
  go_enter Tryd.func27, Tryd.ntmps27
  go_wp2
  go_loop [5] (fun i => ∃ k : Nat, 1 ≤ k ∧ k ≤ 3 ∧ i = .int .i64 k ∧ CRel l k) (fun i => 3 - (intOf i).toNat)
  case atStart => exact ⟨1, by omega, by omega, rfl, CRel.one l⟩
  case round =>
    obtain ⟨k, hk1, hk, rfl, hC⟩ := hrel
    have HK := Lib.hid hC
    clear hC
    by_cases hlt : k < 3
    · by_cases hkn : k < n
      · have kc := Hc.out k (by have := Hn.out; omega)
        have d0 := bt_lo l k
        have d1 := bt_hi l k
        by_cases g1 : bt l k < 128
        · have E := Lib.hid (lng_fail (m := 2) Hb.out hk1 (by omega) (.inr (by simp [wth]; omega)))
          go_wp2
          go_ret
          exact ⟨ret_int (by rw [E.out]; rfl), rfl⟩
        · by_cases g2 : 191 < bt l k
          · have E := Lib.hid (lng_fail (m := 2) Hb.out hk1 (by omega) (.inr (by simp [wth]; omega)))
            go_wp2
            go_ret
            exact ⟨ret_int (by rw [E.out]; rfl), rfl⟩
          · have R := HK.out.next (by have := Hn.out; omega) (by simp [wth]; omega)
            go_wp2
            go_round
            case rel => exact ⟨k + 1, by omega, by omega, by go_num, R⟩
            case measure => simp [intOf]; omega
      · have E := Lib.hid (lng_fail (m := 2) Hb.out hk1 (by omega) (.inl (by have := Hn.out; omega)))
        go_wp2
        go_ret
        exact ⟨ret_int (by rw [E.out]; rfl), rfl⟩
    · obtain rfl : k = 3 := by omega
      have E := Lib.hid (lng_good (m := 2) Hb.out (by omega) HK.out (by have := Hx.out; have := HC.out; unfold spc; omega))
      have h1l := (HK.out 1 (by omega) (by omega)).1
      have k1 := Hc.out 1 h1l
      have h1n : (1 : Int) < n := by have := Hn.out; omega
      go_wp2
      go_ret
      exact ⟨ret_int (by rw [E.out]; rfl), rfl⟩
set_option maxHeartbeats 1000000 in
set_option maxRecDepth 100000 in
theorem rlong_3a (h : bhd (bt l 0) = 3) (h1 : 240 ≤ c) (h2 : c ≤ 244) (hx : c = 240 ∧ bt l 1 < 144) :
    Calls Tryd.prog 27 #[.slice (some ⟨b, off, none⟩) n c0] w fun e w' => e = .returned (.int .i64 (lng l)) ∧ w = w' := by
  have k0 : w.cell? ⟨b, off, none⟩ = some (.int .u8 c) := by rw [hc]; exact hcs 0 hl
  have hp : (0 : Int) < n := by omega
  have Hn := Lib.hid hn
  have Hc := Lib.hid hcs
  have Hb := Lib.hid h
  have HC := Lib.hid hc
  have Hx := Lib.hid hx
  unfold maxLen at hm
  have hy := hx.2
  have q224 : (c == 224) = false := by simp; omega
  have q237 : (c == 237) = false := by simp; omega
  have q240 : (c == 240) = true := by simp; omega
  have q244 : (c == 244) = false := by simp; omega
  clear hcs hc h hn hl hx
  go_enter Tryd.func27, Tryd.ntmps27
  go_wp2
  go_loop [5] (fun i => ∃ k : Nat, 1 ≤ k ∧ k ≤ 4 ∧ i = .int .i64 k ∧ CRel l k) (fun i => 4 - (intOf i).toNat)
  case atStart => exact ⟨1, by omega, by omega, rfl, CRel.one l⟩
  case round =>
    obtain ⟨k, hk1, hk, rfl, hC⟩ := hrel
    have HK := Lib.hid hC
    clear hC
    by_cases hlt : k < 4
    · by_cases hkn : k < n
      · have kc := Hc.out k (by have := Hn.out; omega)
        have d0 := bt_lo l k
        have d1 := bt_hi l k
        by_cases g1 : bt l k < 128
        · have E := Lib.hid (lng_fail (m := 3) Hb.out hk1 (by omega) (.inr (by simp [wth]; omega)))
          go_wp2
          go_ret
          exact ⟨ret_int (by rw [E.out]; rfl), rfl⟩
        · by_cases g2 : 191 < bt l k
          · have E := Lib.hid (lng_fail (m := 3) Hb.out hk1 (by omega) (.inr (by simp [wth]; omega)))
            go_wp2
            go_ret
            exact ⟨ret_int (by rw [E.out]; rfl), rfl⟩
          · have R := HK.out.next (by have := Hn.out; omega) (by simp [wth]; omega)
            go_wp2
            go_round
            case rel => exact ⟨k + 1, by omega, by omega, by go_num, R⟩
            case measure => simp [intOf]; omega
      · have E := Lib.hid (lng_fail (m := 3) Hb.out hk1 (by omega) (.inl (by have := Hn.out; omega)))
        go_wp2
        go_ret
        exact ⟨ret_int (by rw [E.out]; rfl), rfl⟩
    · obtain rfl : k = 4 := by omega
      have E := Lib.hid (lng_bad (m := 3) Hb.out (by omega) HK.out (by have := Hx.out; have := HC.out; unfold spc; omega))
      have h1l := (HK.out 1 (by omega) (by omega)).1
      have k1 := Hc.out 1 h1l
      have h1n : (1 : Int) < n := by have := Hn.out; omega
      go_wp2
      go_ret
      exact ⟨ret_int (by rw [E.out]; rfl), rfl⟩
set_option maxHeartbeats 1000000 in
set_option maxRecDepth 100000 in
theorem rlong_3b (h : bhd (bt l 0) = 3) (h1 : 240 ≤ c) (h2 : c ≤ 244) (hx : c = 240 ∧ ¬ bt l 1 < 144) :
    Calls Tryd.prog 27 #[.slice (some ⟨b, off, none⟩) n c0] w fun e w' => e = .returned (.int .i64 (lng l)) ∧ w = w' := by
  have k0 : w.cell? ⟨b, off, none⟩ = some (.int .u8 c) := by rw [hc]; exact hcs 0 hl
  have hp : (0 : Int) < n := by omega
  have Hn := Lib.hid hn
  have Hc := Lib.hid hcs
  have Hb := Lib.hid h
  have HC := Lib.hid hc
  have Hx := Lib.hid hx
  unfold maxLen at hm
  have hy := hx.2
  have q224 : (c == 224) = false := by simp; omega
  have q237 : (c == 237) = false := by simp; omega
  have q240 : (c == 240) = true := by simp; omega
  have q244 : (c == 244) = false := by simp; omega
  clear hcs hc h hn hl hx
  go_enter Tryd.func27, Tryd.ntmps27
  go_wp2
  go_loop [5] (fun i => ∃ k : Nat, 1 ≤ k ∧ k ≤ 4 ∧ i = .int .i64 k ∧ CRel l k) (fun i => 4 - (intOf i).toNat)
  case atStart => exact ⟨1, by omega, by omega, rfl, CRel.one l⟩
  case round =>
    obtain ⟨k, hk1, hk, rfl, hC⟩ := hrel
    have HK := Lib.hid hC
    clear hC
    by_cases hlt : k < 4
    · by_cases hkn : k < n
      · have kc := Hc.out k (by have := Hn.out; omega)
        have d0 := bt_lo l k
        have d1 := bt_hi l k
        by_cases g1 : bt l k < 128
        · have E := Lib.hid (lng_fail (m := 3) Hb.out hk1 (by omega) (.inr (by simp [wth]; omega)))
          go_wp2
          go_ret
          exact ⟨ret_int (by rw [E.out]; rfl), rfl⟩
        · by_cases g2 : 191 < bt l k
          · have E := Lib.hid (lng_fail (m := 3) Hb.out hk1 (by omega) (.inr (by simp [wth]; omega)))
            go_wp2
            go_ret
            exact ⟨ret_int (by rw [E.out]; rfl), rfl⟩
          · have R := HK.out.next (by have := Hn.out; omega) (by simp [wth]; omega)
            go_wp2
            go_round
            case rel => exact ⟨k + 1, by omega, by omega, by go_num, R⟩
            case measure => simp [intOf]; omega
      · have E := Lib.hid (lng_fail (m := 3) Hb.out hk1 (by omega) (.inl (by have := Hn.out; omega)))
        go_wp2
        go_ret
        exact ⟨ret_int (by rw [E.out]; rfl), rfl⟩
    · obtain rfl : k = 4 := by omega
      have E := Lib.hid (lng_good (m := 3) Hb.out (by omega) HK.out (by have := Hx.out; have := HC.out; unfold spc; omega))
      have h1l := (HK.out 1 (by omega) (by omega)).1
      have k1 := Hc.out 1 h1l
      have h1n : (1 : Int) < n := by have := Hn.out; omega
      go_wp2
      go_ret
      exact ⟨ret_int (by rw [E.out]; rfl), rfl⟩
set_option maxHeartbeats 1000000 in
set_option maxRecDepth 100000 in
theorem rlong_3c (h : bhd (bt l 0) = 3) (h1 : 240 ≤ c) (h2 : c ≤ 244) (hx : c = 244 ∧ 143 < bt l 1) :
    Calls Tryd.prog 27 #[.slice (some ⟨b, off, none⟩) n c0] w fun e w' => e = .returned (.int .i64 (lng l)) ∧ w = w' := by
  have k0 : w.cell? ⟨b, off, none⟩ = some (.int .u8 c) := by rw [hc]; exact hcs 0 hl
  have hp : (0 : Int) < n := by omega
  have Hn := Lib.hid hn
  have Hc := Lib.hid hcs
  have Hb := Lib.hid h
  have HC := Lib.hid hc
  have Hx := Lib.hid hx
  unfold maxLen at hm
  have hy := hx.2
  have q224 : (c == 224) = false := by simp; omega
  have q237 : (c == 237) = false := by simp; omega
  have q240 : (c == 240) = false := by simp; omega
  have q244 : (c == 244) = true := by simp; omega
  clear hcs hc h hn hl hx
  go_enter Tryd.func27, Tryd.ntmps27
  go_wp2
  go_loop [5] (fun i => ∃ k : Nat, 1 ≤ k ∧ k ≤ 4 ∧ i = .int .i64 k ∧ CRel l k) (fun i => 4 - (intOf i).toNat)
  case atStart => exact ⟨1, by omega, by omega, rfl, CRel.one l⟩
  case round =>
    obtain ⟨k, hk1, hk, rfl, hC⟩ := hrel
    have HK := Lib.hid hC
    clear hC
    by_cases hlt : k < 4
    · by_cases hkn : k < n
      · have kc := Hc.out k (by have := Hn.out; omega)
        have d0 := bt_lo l k
        have d1 := bt_hi l k
        by_cases g1 : bt l k < 128
        · have E := Lib.hid (lng_fail (m := 3) Hb.out hk1 (by omega) (.inr (by simp [wth]; omega)))
          go_wp2
          go_ret
          exact ⟨ret_int (by rw [E.out]; rfl), rfl⟩
        · by_cases g2 : 191 < bt l k
          · have E := Lib.hid (lng_fail (m := 3) Hb.out hk1 (by omega) (.inr (by simp [wth]; omega)))
            go_wp2
            go_ret
            exact ⟨ret_int (by rw [E.out]; rfl), rfl⟩
          · have R := HK.out.next (by have := Hn.out; omega) (by simp [wth]; omega)
            go_wp2
            go_round
            case rel => exact ⟨k + 1, by omega, by omega, by go_num, R⟩
            case measure => simp [intOf]; omega
      · have E := Lib.hid (lng_fail (m := 3) Hb.out hk1 (by omega) (.inl (by have := Hn.out; omega)))
        go_wp2
        go_ret
        exact ⟨ret_int (by rw [E.out]; rfl), rfl⟩
    · obtain rfl : k = 4 := by omega
      have E := Lib.hid (lng_bad (m := 3) Hb.out (by omega) HK.out (by have := Hx.out; have := HC.out; unfold spc; omega))
      have h1l := (HK.out 1 (by omega) (by omega)).1
      have k1 := Hc.out 1 h1l
      have h1n : (1 : Int) < n := by have := Hn.out; omega
      go_wp2
      go_ret
      exact ⟨ret_int (by rw [E.out]; rfl), rfl⟩
set_option maxHeartbeats 1000000 in
set_option maxRecDepth 100000 in
theorem rlong_3d (h : bhd (bt l 0) = 3) (h1 : 240 ≤ c) (h2 : c ≤ 244) (hx : c = 244 ∧ ¬ 143 < bt l 1) :
    Calls Tryd.prog 27 #[.slice (some ⟨b, off, none⟩) n c0] w fun e w' => e = .returned (.int .i64 (lng l)) ∧ w = w' := by
  have k0 : w.cell? ⟨b, off, none⟩ = some (.int .u8 c) := by rw [hc]; exact hcs 0 hl
  have hp : (0 : Int) < n := by omega
  have Hn := Lib.hid hn
  have Hc := Lib.hid hcs
  have Hb := Lib.hid h
  have HC := Lib.hid hc
  have Hx := Lib.hid hx
  unfold maxLen at hm
  have hy := hx.2
  have q224 : (c == 224) = false := by simp; omega
  have q237 : (c == 237) = false := by simp; omega
  have q240 : (c == 240) = false := by simp; omega
  have q244 : (c == 244) = true := by simp; omega
  clear hcs hc h hn hl hx
  go_enter Tryd.func27, Tryd.ntmps27
  go_wp2
  go_loop [5] (fun i => ∃ k : Nat, 1 ≤ k ∧ k ≤ 4 ∧ i = .int .i64 k ∧ CRel l k) (fun i => 4 - (intOf i).toNat)
  case atStart => exact ⟨1, by omega, by omega, rfl, CRel.one l⟩
  case round =>
    obtain ⟨k, hk1, hk, rfl, hC⟩ := hrel
    have HK := Lib.hid hC
    clear hC
    by_cases hlt : k < 4
    · by_cases hkn : k < n
      · have kc := Hc.out k (by have := Hn.out; omega)
        have d0 := bt_lo l k
        have d1 := bt_hi l k
        by_cases g1 : bt l k < 128
        · have E := Lib.hid (lng_fail (m := 3) Hb.out hk1 (by omega) (.inr (by simp [wth]; omega)))
          go_wp2
          go_ret
          exact ⟨ret_int (by rw [E.out]; rfl), rfl⟩
        · by_cases g2 : 191 < bt l k
          · have E := Lib.hid (lng_fail (m := 3) Hb.out hk1 (by omega) (.inr (by simp [wth]; omega)))
            go_wp2
            go_ret
            exact ⟨ret_int (by rw [E.out]; rfl), rfl⟩
          · have R := HK.out.next (by have := Hn.out; omega) (by simp [wth]; omega)
            go_wp2
            go_round
            case rel => exact ⟨k + 1, by omega, by omega, by go_num, R⟩
            case measure => simp [intOf]; omega
      · have E := Lib.hid (lng_fail (m := 3) Hb.out hk1 (by omega) (.inl (by have := Hn.out; omega)))
        go_wp2
        go_ret
        exact ⟨ret_int (by rw [E.out]; rfl), rfl⟩
    · obtain rfl : k = 4 := by omega
      have E := Lib.hid (lng_good (m := 3) Hb.out (by omega) HK.out (by have := Hx.out; have := HC.out; unfold spc; omega))
      have h1l := (HK.out 1 (by omega) (by omega)).1
      have k1 := Hc.out 1 h1l
      have h1n : (1 : Int) < n := by have := Hn.out; omega
      go_wp2
      go_ret
      exact ⟨ret_int (by rw [E.out]; rfl), rfl⟩
set_option maxHeartbeats 1000000 in
set_option maxRecDepth 100000 in
theorem rlong_3e (h : bhd (bt l 0) = 3) (h1 : 240 ≤ c) (h2 : c ≤ 244) (hx : c ≠ 240 ∧ c ≠ 244) :
    Calls Tryd.prog 27 #[.slice (some ⟨b, off, none⟩) n c0] w fun e w' => e = .returned (.int .i64 (lng l)) ∧ w = w' := by
  have k0 : w.cell? ⟨b, off, none⟩ = some (.int .u8 c) := by rw [hc]; exact hcs 0 hl
  have hp : (0 : Int) < n := by omega
  have Hn := Lib.hid hn
  have Hc := Lib.hid hcs
  have Hb := Lib.hid h
  have HC := Lib.hid hc
  have Hx := Lib.hid hx
  unfold maxLen at hm
  have q224 : (c == 224) = false := by simp; omega
  have q237 : (c == 237) = false := by simp; omega
  have q240 : (c == 240) = false := by simp; omega
  have q244 : (c == 244) = false := by simp; omega
  clear hcs hc h hn hl hx
  go_enter Tryd.func27, Tryd.ntmps27
  go_wp2
  go_loop [5] (fun i => ∃ k : Nat, 1 ≤ k ∧ k ≤ 4 ∧ i = .int .i64 k ∧ CRel l k) (fun i => 4 - (intOf i).toNat)
  case atStart => exact ⟨1, by omega, by omega, rfl, CRel.one l⟩
  case round =>
    obtain ⟨k, hk1, hk, rfl, hC⟩ := hrel
    have HK := Lib.hid hC
    clear hC
    by_cases hlt : k < 4
    · by_cases hkn : k < n
      · have kc := Hc.out k (by have := Hn.out; omega)
        have d0 := bt_lo l k
        have d1 := bt_hi l k
        by_cases g1 : bt l k < 128
        · have E := Lib.hid (lng_fail (m := 3) Hb.out hk1 (by omega) (.inr (by simp [wth]; omega)))
          go_wp2
          go_ret
          exact ⟨ret_int (by rw [E.out]; rfl), rfl⟩
        · by_cases g2 : 191 < bt l k
          · have E := Lib.hid (lng_fail (m := 3) Hb.out hk1 (by omega) (.inr (by simp [wth]; omega)))
            go_wp2
            go_ret
            exact ⟨ret_int (by rw [E.out]; rfl), rfl⟩
          · have R := HK.out.next (by have := Hn.out; omega) (by simp [wth]; omega)
            go_wp2
            go_round
            case rel => exact ⟨k + 1, by omega, by omega, by go_num, R⟩
            case measure => simp [intOf]; omega
      · have E := Lib.hid (lng_fail (m := 3) Hb.out hk1 (by omega) (.inl (by have := Hn.out; omega)))
        go_wp2
        go_ret
        exact ⟨ret_int (by rw [E.out]; rfl), rfl⟩
    · obtain rfl : k = 4 := by omega
      have E := Lib.hid (lng_good (m := 3) Hb.out (by omega) HK.out (by have := Hx.out; have := HC.out; unfold spc; omega))
      have h1l := (HK.out 1 (by omega) (by omega)).1
      have k1 := Hc.out 1 h1l
      have h1n : (1 : Int) < n := by have := Hn.out; omega
      go_wp2
      go_ret
      exact ⟨ret_int (by rw [E.out]; rfl), rfl⟩
end
theorem rlong_nil (A : Option Addr) (c : Nat) (w : World) : Calls Tryd.prog 27 #[.slice A 0 c] w fun e w' => e = .returned (.int .i64 0) ∧ w = w' := by
  go_enter Tryd.func27, Tryd.ntmps27
  go_wp2
  go_ret
  exact ⟨rfl, rfl⟩
/-- inarchref01.Long, of whatever bytes. -/
theorem rlong_any {l : List UInt8} {B : Nat} {A : Option Addr} (n c : Nat) {w : World} (hn : n = l.length) (hA : Byt w B A l) (hm : n ≤ maxLen) :
    Calls Tryd.prog 27 #[.slice A n c] w fun e w' => e = .returned (.int .i64 (lng l)) ∧ w = w' := by
  by_cases hl : 0 < l.length
  · obtain ⟨b, off, rfl, _, hc⟩ := hA.at_ hl
    have h0 := bt_lo l 0
    have h1 := bt_hi l 0
    rcases bhd_range h0 h1 with ⟨g, h⟩ | ⟨g, h, h'⟩ | ⟨g, h, h'⟩ | ⟨g, h, h'⟩ | ⟨g, h⟩ | ⟨g, h⟩
    · exact rlong_0 l b off n c _ w hn hc hl rfl g h
    · exact rlong_1 l b off n c _ w hn hc hl hm rfl g h h' trivial
    · by_cases a : bt l 0 = 224
      · by_cases d : bt l 1 < 160
        · exact rlong_2a l b off n c _ w hn hc hl hm rfl g h h' ⟨a, d⟩
        · exact rlong_2b l b off n c _ w hn hc hl hm rfl g h h' ⟨a, d⟩
      · by_cases a' : bt l 0 = 237
        · by_cases d : 159 < bt l 1
          · exact rlong_2c l b off n c _ w hn hc hl hm rfl g h h' ⟨a', d⟩
          · exact rlong_2d l b off n c _ w hn hc hl hm rfl g h h' ⟨a', d⟩
        · exact rlong_2e l b off n c _ w hn hc hl hm rfl g h h' ⟨a, a'⟩
    · by_cases a : bt l 0 = 240
      · by_cases d : bt l 1 < 144
        · exact rlong_3a l b off n c _ w hn hc hl hm rfl g h h' ⟨a, d⟩
        · exact rlong_3b l b off n c _ w hn hc hl hm rfl g h h' ⟨a, d⟩
      · by_cases a' : bt l 0 = 244
        · by_cases d : 143 < bt l 1
          · exact rlong_3c l b off n c _ w hn hc hl hm rfl g h h' ⟨a', d⟩
          · exact rlong_3d l b off n c _ w hn hc hl hm rfl g h h' ⟨a', d⟩
        · exact rlong_3e l b off n c _ w hn hc hl hm rfl g h h' ⟨a, a'⟩
    · exact rlong_none l b off n c _ w hn hc hl rfl g (.inl h)
    · exact rlong_none l b off n c _ w hn hc hl rfl g (.inr h)
  · obtain rfl : l = [] := List.eq_nil_of_length_eq_zero (by omega)
    obtain rfl : n = 0 := hn
    exact rlong_nil A c w
end Go.Proofs.YtllnnogdpagioaaDoor
