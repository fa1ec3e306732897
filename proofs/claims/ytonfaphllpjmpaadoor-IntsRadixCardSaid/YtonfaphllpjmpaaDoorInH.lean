/- formatBits at bases 16, 8, 2, walked. -/
import Derived.Test.YtonfaphllpjmpaaDoorInG
import Derived.Test.YtonfaphllpjmpaaDoorConv
namespace Go.Proofs.YtonfaphllpjmpaaDoor
open Go.RowKit

set_option maxHeartbeats 8000000 in
set_option maxRecDepth 100000 in
theorem bits_16 (n : Nat) (hn : n < 18446744073709551616) (w : World) (D : Deb w) :
    Calls Tryd.prog 47 #[.slice none 0 0, .int .u64 n, .int .i64 16, .bool false, .bool false] w fun e w' => e = .returned (.tuple #[.slice none 0 0, .string (txt (In.dN 16 n))]) ∧ Below w.heap.size w w' := by
  have HP := Lib.hid (fun w => pow2_any 16 (by simp) w)
  have HTZ : Hid (∀ w, Deb w → Calls Tryd.prog 66 #[.int .u64 16] w fun e w' => e = .returned (.int .i64 4) ∧ w = w') := Lib.hid (fun w D => tz_any 16 4 (by simp [Rx]) 16 rfl w D)
  have HD := Lib.hid D
  have HN := Lib.hid hn
  obtain ⟨d, HDn⟩ : ∃ d, Hid (d = In.dN 16 n) := ⟨_, rfl⟩
  rw [← HDn.out]
  have hn0 : (0 : Int) ≤ n := by omega
  clear D hn
  go_enter Tryd.func47, Tryd.ntmps47
  go_wp2_with fail
  refine (HP.out _).mono ?_
  rintro e w1 ⟨rfl, rfl⟩
  clear HP
  go_wp2_with fail
  refine (HTZ.out _ (HD.out.below ((Below.refl _ w).alloc (Nat.le_refl _) _))).mono ?_
  rintro e w1 ⟨rfl, rfl⟩
  clear HTZ
  go_wp2_with fail
  go_loopw [1, 13] (fun u i wr => ∃ (x p : Nat) (L : List UInt8), p ≤ 64 ∧ x < 2 ^ p ∧ u = .int .u64 x ∧ i = .int .i64 ((p : Int) + 1) ∧ FR w wr (p + 1) L ∧ d = In.dN 16 x ++ L) (fun u _ _ => (intOf u).toNat)
  case atStart => exact ⟨n, 64, [], Nat.le_refl _, HN.out, rfl, rfl, FR.new _ _ rfl, by rw [HDn.out, List.append_nil]⟩
  case round =>
    obtain ⟨x, p, L, hp, hx, rfl, rfl, R, hd⟩ := hrel
    have HX := Lib.hid hx
    have HR := Lib.hid R
    have HE := Lib.hid hd
    have x0 : (0 : Int) ≤ x := by omega
    have tp : wrap64 ((p : Int) + 1 - 1) = p := by unfold wrap64; omega
    have p64 : (p : Int) < 65 := by omega
    have hx64 : x < 18446744073709551616 := by
      have := Nat.pow_le_pow_right (n := 2) (by omega) hp
      omega
    have hxI : (x : Int) < 18446744073709551616 := by omega
    obtain ⟨v0, c0⟩ := R.row p (by omega)
    have f0 := R.free p
    clear hx R hd
    by_cases hb : 16 ≤ x
    · have hbI : (16 : Int) ≤ x := by omega
      obtain ⟨y, HY⟩ : ∃ y : Int, Hid (y = ((x % 2 ^ 4 : Nat) : Int)) := ⟨_, Lib.hid rfl⟩
      obtain ⟨z, HZ⟩ : ∃ z : Int, Hid (z = ((In.ch (x % 16)).toNat : Int)) := ⟨_, rfl⟩
      have a1 : bits .and .u64 (x : Int) 15 = y := by rw [HY.out]; exact and64 x 4 hx64 (by omega)
      have hix := idx36 .u64 y (x % 16) (by rw [HY.out]) (Nat.lt_of_lt_of_le (Nat.mod_lt _ (by omega)) (by omega))
      rw [← HZ.out] at hix
      unfold D36 at hix
      obtain ⟨q, HQ⟩ : ∃ q : Nat, Hid (q = x / 16) := ⟨_, rfl⟩
      have a2 : (x : Int) / 16 = (q : Int) := by rw [HQ.out]; omega
      have hp1 : 1 ≤ p := by
        rcases Nat.eq_zero_or_pos p with h | h
        · subst h; have := HX.out; simp at this; omega
        · exact h
      obtain ⟨o, HO⟩ : ∃ o : Nat, Hid (p = o + 1) := ⟨p - 1, Lib.hid (by omega)⟩
      clear hx64
      go_wp2_with fail
      go_roundw
      case rel => exact ⟨q, o, In.ch (x % 16) :: L, by have := HO.out; omega, by
          have h1 := HX.out
          rw [HO.out, Nat.pow_succ] at h1
          have := HQ.out
          omega, rfl, by rw [HO.out]; simp, by
          have := HR.out.set (In.ch (x % 16)) HZ.out
          rw [HO.out] at this ⊢
          exact this, by rw [HE.out, In.dN_ge (by omega) hb, HQ.out]; simp⟩
      case measure => simp [intOf]; have := HQ.out; omega
    · have hbI : ¬ (16 : Int) ≤ x := by omega
      obtain ⟨z, HZ⟩ : ∃ z : Int, Hid (z = ((In.ch x).toNat : Int)) := ⟨_, rfl⟩
      have hix := idx36 .u64 x x rfl (by omega)
      rw [← HZ.out] at hix
      unfold D36 at hix
      have R2 := HR.out.set (In.ch x) HZ.out
      have HF := Lib.hid (show In.ch x :: L = d by rw [HE.out, In.dN_lt (by omega)]; rfl)
      rw [HF.out] at R2
      have hsl := sl65 w.heap.size p (by omega)
      have hlen := R2.len
      have hcv := conv_bytes (w := wr.setCell ⟨w.heap.size, p, none⟩ (.int .u8 z)) (65 - p) (65 - p) (by omega) R2.byt
      have HB2 := Lib.hid R2.below
      clear R2 hlen hx64
      go_wp2_with fail
      go_ret2
      exact ⟨rfl, HB2.out⟩

set_option maxHeartbeats 8000000 in
set_option maxRecDepth 100000 in
theorem bits_8 (n : Nat) (hn : n < 18446744073709551616) (w : World) (D : Deb w) :
    Calls Tryd.prog 47 #[.slice none 0 0, .int .u64 n, .int .i64 8, .bool false, .bool false] w fun e w' => e = .returned (.tuple #[.slice none 0 0, .string (txt (In.dN 8 n))]) ∧ Below w.heap.size w w' := by
  have HP := Lib.hid (fun w => pow2_any 8 (by simp) w)
  have HTZ : Hid (∀ w, Deb w → Calls Tryd.prog 66 #[.int .u64 8] w fun e w' => e = .returned (.int .i64 3) ∧ w = w') := Lib.hid (fun w D => tz_any 8 3 (by simp [Rx]) 8 rfl w D)
  have HD := Lib.hid D
  have HN := Lib.hid hn
  obtain ⟨d, HDn⟩ : ∃ d, Hid (d = In.dN 8 n) := ⟨_, rfl⟩
  rw [← HDn.out]
  have hn0 : (0 : Int) ≤ n := by omega
  clear D hn
  go_enter Tryd.func47, Tryd.ntmps47
  go_wp2_with fail
  refine (HP.out _).mono ?_
  rintro e w1 ⟨rfl, rfl⟩
  clear HP
  go_wp2_with fail
  refine (HTZ.out _ (HD.out.below ((Below.refl _ w).alloc (Nat.le_refl _) _))).mono ?_
  rintro e w1 ⟨rfl, rfl⟩
  clear HTZ
  go_wp2_with fail
  go_loopw [1, 13] (fun u i wr => ∃ (x p : Nat) (L : List UInt8), p ≤ 64 ∧ x < 2 ^ p ∧ u = .int .u64 x ∧ i = .int .i64 ((p : Int) + 1) ∧ FR w wr (p + 1) L ∧ d = In.dN 8 x ++ L) (fun u _ _ => (intOf u).toNat)
  case atStart => exact ⟨n, 64, [], Nat.le_refl _, HN.out, rfl, rfl, FR.new _ _ rfl, by rw [HDn.out, List.append_nil]⟩
  case round =>
    obtain ⟨x, p, L, hp, hx, rfl, rfl, R, hd⟩ := hrel
    have HX := Lib.hid hx
    have HR := Lib.hid R
    have HE := Lib.hid hd
    have x0 : (0 : Int) ≤ x := by omega
    have tp : wrap64 ((p : Int) + 1 - 1) = p := by unfold wrap64; omega
    have p64 : (p : Int) < 65 := by omega
    have hx64 : x < 18446744073709551616 := by
      have := Nat.pow_le_pow_right (n := 2) (by omega) hp
      omega
    have hxI : (x : Int) < 18446744073709551616 := by omega
    obtain ⟨v0, c0⟩ := R.row p (by omega)
    have f0 := R.free p
    clear hx R hd
    by_cases hb : 8 ≤ x
    · have hbI : (8 : Int) ≤ x := by omega
      obtain ⟨y, HY⟩ : ∃ y : Int, Hid (y = ((x % 2 ^ 3 : Nat) : Int)) := ⟨_, Lib.hid rfl⟩
      obtain ⟨z, HZ⟩ : ∃ z : Int, Hid (z = ((In.ch (x % 8)).toNat : Int)) := ⟨_, rfl⟩
      have a1 : bits .and .u64 (x : Int) 7 = y := by rw [HY.out]; exact and64 x 3 hx64 (by omega)
      have hix := idx36 .u64 y (x % 8) (by rw [HY.out]) (Nat.lt_of_lt_of_le (Nat.mod_lt _ (by omega)) (by omega))
      rw [← HZ.out] at hix
      unfold D36 at hix
      obtain ⟨q, HQ⟩ : ∃ q : Nat, Hid (q = x / 8) := ⟨_, rfl⟩
      have a2 : (x : Int) / 8 = (q : Int) := by rw [HQ.out]; omega
      have hp1 : 1 ≤ p := by
        rcases Nat.eq_zero_or_pos p with h | h
        · subst h; have := HX.out; simp at this; omega
        · exact h
      obtain ⟨o, HO⟩ : ∃ o : Nat, Hid (p = o + 1) := ⟨p - 1, Lib.hid (by omega)⟩
      clear hx64
      go_wp2_with fail
      go_roundw
      case rel => exact ⟨q, o, In.ch (x % 8) :: L, by have := HO.out; omega, by
          have h1 := HX.out
          rw [HO.out, Nat.pow_succ] at h1
          have := HQ.out
          omega, rfl, by rw [HO.out]; simp, by
          have := HR.out.set (In.ch (x % 8)) HZ.out
          rw [HO.out] at this ⊢
          exact this, by rw [HE.out, In.dN_ge (by omega) hb, HQ.out]; simp⟩
      case measure => simp [intOf]; have := HQ.out; omega
    · have hbI : ¬ (8 : Int) ≤ x := by omega
      obtain ⟨z, HZ⟩ : ∃ z : Int, Hid (z = ((In.ch x).toNat : Int)) := ⟨_, rfl⟩
      have hix := idx36 .u64 x x rfl (by omega)
      rw [← HZ.out] at hix
      unfold D36 at hix
      have R2 := HR.out.set (In.ch x) HZ.out
      have HF := Lib.hid (show In.ch x :: L = d by rw [HE.out, In.dN_lt (by omega)]; rfl)
      rw [HF.out] at R2
      have hsl := sl65 w.heap.size p (by omega)
      have hlen := R2.len
      have hcv := conv_bytes (w := wr.setCell ⟨w.heap.size, p, none⟩ (.int .u8 z)) (65 - p) (65 - p) (by omega) R2.byt
      have HB2 := Lib.hid R2.below
      clear R2 hlen hx64
      go_wp2_with fail
      go_ret2
      exact ⟨rfl, HB2.out⟩

set_option maxHeartbeats 8000000 in
set_option maxRecDepth 100000 in
theorem bits_2 (n : Nat) (hn : n < 18446744073709551616) (w : World) (D : Deb w) :
    Calls Tryd.prog 47 #[.slice none 0 0, .int .u64 n, .int .i64 2, .bool false, .bool false] w fun e w' => e = .returned (.tuple #[.slice none 0 0, .string (txt (In.dN 2 n))]) ∧ Below w.heap.size w w' := by
  have HP := Lib.hid (fun w => pow2_any 2 (by simp) w)
  have HTZ : Hid (∀ w, Deb w → Calls Tryd.prog 66 #[.int .u64 2] w fun e w' => e = .returned (.int .i64 1) ∧ w = w') := Lib.hid (fun w D => tz_any 2 1 (by simp [Rx]) 2 rfl w D)
  have HD := Lib.hid D
  have HN := Lib.hid hn
  obtain ⟨d, HDn⟩ : ∃ d, Hid (d = In.dN 2 n) := ⟨_, rfl⟩
  rw [← HDn.out]
  have hn0 : (0 : Int) ≤ n := by omega
  clear D hn
  go_enter Tryd.func47, Tryd.ntmps47
  go_wp2_with fail
  refine (HP.out _).mono ?_
  rintro e w1 ⟨rfl, rfl⟩
  clear HP
  go_wp2_with fail
  refine (HTZ.out _ (HD.out.below ((Below.refl _ w).alloc (Nat.le_refl _) _))).mono ?_
  rintro e w1 ⟨rfl, rfl⟩
  clear HTZ
  go_wp2_with fail
  go_loopw [1, 13] (fun u i wr => ∃ (x p : Nat) (L : List UInt8), p ≤ 64 ∧ x < 2 ^ p ∧ u = .int .u64 x ∧ i = .int .i64 ((p : Int) + 1) ∧ FR w wr (p + 1) L ∧ d = In.dN 2 x ++ L) (fun u _ _ => (intOf u).toNat)
  case atStart => exact ⟨n, 64, [], Nat.le_refl _, HN.out, rfl, rfl, FR.new _ _ rfl, by rw [HDn.out, List.append_nil]⟩
  case round =>
    obtain ⟨x, p, L, hp, hx, rfl, rfl, R, hd⟩ := hrel
    have HX := Lib.hid hx
    have HR := Lib.hid R
    have HE := Lib.hid hd
    have x0 : (0 : Int) ≤ x := by omega
    have tp : wrap64 ((p : Int) + 1 - 1) = p := by unfold wrap64; omega
    have p64 : (p : Int) < 65 := by omega
    have hx64 : x < 18446744073709551616 := by
      have := Nat.pow_le_pow_right (n := 2) (by omega) hp
      omega
    have hxI : (x : Int) < 18446744073709551616 := by omega
    obtain ⟨v0, c0⟩ := R.row p (by omega)
    have f0 := R.free p
    clear hx R hd
    by_cases hb : 2 ≤ x
    · have hbI : (2 : Int) ≤ x := by omega
      obtain ⟨y, HY⟩ : ∃ y : Int, Hid (y = ((x % 2 ^ 1 : Nat) : Int)) := ⟨_, Lib.hid rfl⟩
      obtain ⟨z, HZ⟩ : ∃ z : Int, Hid (z = ((In.ch (x % 2)).toNat : Int)) := ⟨_, rfl⟩
      have a1 : bits .and .u64 (x : Int) 1 = y := by rw [HY.out]; exact and64 x 1 hx64 (by omega)
      have hix := idx36 .u64 y (x % 2) (by rw [HY.out]) (Nat.lt_of_lt_of_le (Nat.mod_lt _ (by omega)) (by omega))
      rw [← HZ.out] at hix
      unfold D36 at hix
      obtain ⟨q, HQ⟩ : ∃ q : Nat, Hid (q = x / 2) := ⟨_, rfl⟩
      have a2 : (x : Int) / 2 = (q : Int) := by rw [HQ.out]; omega
      have hp1 : 1 ≤ p := by
        rcases Nat.eq_zero_or_pos p with h | h
        · subst h; have := HX.out; simp at this; omega
        · exact h
      obtain ⟨o, HO⟩ : ∃ o : Nat, Hid (p = o + 1) := ⟨p - 1, Lib.hid (by omega)⟩
      clear hx64
      go_wp2_with fail
      go_roundw
      case rel => exact ⟨q, o, In.ch (x % 2) :: L, by have := HO.out; omega, by
          have h1 := HX.out
          rw [HO.out, Nat.pow_succ] at h1
          have := HQ.out
          omega, rfl, by rw [HO.out]; simp, by
          have := HR.out.set (In.ch (x % 2)) HZ.out
          rw [HO.out] at this ⊢
          exact this, by rw [HE.out, In.dN_ge (by omega) hb, HQ.out]; simp⟩
      case measure => simp [intOf]; have := HQ.out; omega
    · have hbI : ¬ (2 : Int) ≤ x := by omega
      obtain ⟨z, HZ⟩ : ∃ z : Int, Hid (z = ((In.ch x).toNat : Int)) := ⟨_, rfl⟩
      have hix := idx36 .u64 x x rfl (by omega)
      rw [← HZ.out] at hix
      unfold D36 at hix
      have R2 := HR.out.set (In.ch x) HZ.out
      have HF := Lib.hid (show In.ch x :: L = d by rw [HE.out, In.dN_lt (by omega)]; rfl)
      rw [HF.out] at R2
      have hsl := sl65 w.heap.size p (by omega)
      have hlen := R2.len
      have hcv := conv_bytes (w := wr.setCell ⟨w.heap.size, p, none⟩ (.int .u8 z)) (65 - p) (65 - p) (by omega) R2.byt
      have HB2 := Lib.hid R2.below
      clear R2 hlen hx64
      go_wp2_with fail
      go_ret2
      exact ⟨rfl, HB2.out⟩
theorem bits_any (b k : Nat) (h : Rx b k) (n : Nat) (hn : n < 18446744073709551616) (bI : Int) (hbI : bI = b) (w : World) (D : Deb w) :
    Calls Tryd.prog 47 #[.slice none 0 0, .int .u64 n, .int .i64 bI, .bool false, .bool false] w fun e w' => e = .returned (.tuple #[.slice none 0 0, .string (txt (In.dN b n))]) ∧ Below w.heap.size w w' := by
  subst hbI
  rcases h with ⟨rfl, _⟩ | ⟨rfl, _⟩ | ⟨rfl, _⟩
  · exact bits_16 n hn w D
  · exact bits_8 n hn w D
  · exact bits_2 n hn w D
end Go.Proofs.YtonfaphllpjmpaaDoor
