/- The laws' own helpers, walked: is, fails, lives, a number's digits. -/
import Derived.Test.YtgmlbcdakblpiaaDoorEe
namespace Go.Proofs.YtgmlbcdakblpiaaDoor
open Go.RowKit
namespace Da

theorem lis_is {l u : List UInt8} {s W : ByteArray} (w : World) (hs : s = txt l) (hW : W = txt u) (hl : l.length ≤ 1000000) (hr : rdD l = (u, 0)) :
    Calls Tryd.prog 18 #[.string s, .string W] w fun e w' => e = .returned (.bool true) ∧ Below w.heap.size w w' := by
  have CR := Lib.hid (fun w => Read_is w hs hl)
  rw [hr, ← hW] at CR
  have q1 : (W.toList == W.toList) = true := by simp
  clear hs hW hl hr
  go_enter Tryd.func18, Tryd.ntmps18
  go_wp2_with fail
  refine (CR.out _).mono ?_
  rintro e w1 ⟨rfl, hb⟩
  have HB := Lib.hid hb
  clear hb
  go_wp2_with fail
  go_ret
  exact ⟨rfl, HB.out⟩
theorem lfails_is {l : List UInt8} {s : ByteArray} {c : Int} (w : World) (hs : s = txt l) (hl : l.length ≤ 1000000) (hr : rdD l = ([], c)) :
    Calls Tryd.prog 15 #[.string s, .int .i64 c] w fun e w' => e = .returned (.bool true) ∧ Below w.heap.size w w' := by
  have CR := Lib.hid (fun w => Read_is w hs hl)
  rw [hr] at CR
  replace CR : Hid (∀ w, Calls Tryd.prog 8 #[.string s] w fun e w' => e = .returned (.tuple #[.string ⟨#[]⟩, .int .i64 c]) ∧ Below w.heap.size w w') := CR
  clear hs hl hr
  go_enter Tryd.func15, Tryd.ntmps15
  go_wp2_with fail
  refine (CR.out _).mono ?_
  rintro e w1 ⟨rfl, hb⟩
  have HB := Lib.hid hb
  clear hb
  go_wp2_with fail
  go_ret
  exact ⟨rfl, HB.out⟩
abbrev BA (a : Array UInt8) : ByteArray := ⟨a⟩
theorem is_lit {l u : List UInt8} (s W : ByteArray) (hs : s = txt l) (hW : W = txt u) (hl : l.length ≤ 1000000) (hr : rdD l = (u, 0)) (w : World) :
    Calls Tryd.prog 18 #[.string s, .string W] w fun e w' => e = .returned (.bool true) ∧ Below w.heap.size w w' := lis_is w hs hW hl hr
theorem fl_lit {l : List UInt8} (s : ByteArray) (c : Int) (hs : s = txt l) (hl : l.length ≤ 1000000) (hr : rdD l = ([], c)) (w : World) :
    Calls Tryd.prog 15 #[.string s, .int .i64 c] w fun e w' => e = .returned (.bool true) ∧ Below w.heap.size w w' := lfails_is w hs hl hr
def s0 : List UInt8 := [49, 57, 55, 57, 45, 48, 53, 45, 50, 55, 32, 48, 55, 58, 51, 50, 58, 48, 48, 46, 53, 48, 48, 122]
def u0 : List UInt8 := [49, 57, 55, 57, 45, 48, 53, 45, 50, 55, 84, 48, 55, 58, 51, 50, 58, 48, 48, 46, 53, 90]
def s1 : List UInt8 := [50, 48, 48, 48, 45, 48, 50, 45, 50, 57]
def s2 : List UInt8 := [49, 57, 48, 48, 45, 48, 50, 45, 50, 57]
def s3 : List UInt8 := [50, 52, 58, 48, 48, 58, 48, 48]
def s4 : List UInt8 := [55, 58, 51, 50, 58, 48, 48]
def s5 : List UInt8 := [48, 55, 58, 51, 50, 58, 48, 48]
def s6 : List UInt8 := [49, 57, 55, 57, 45, 48, 53, 45, 50, 55, 32, 35, 32, 120]
theorem r0 : rdD s0 = (u0, 0) := by decide +kernel
theorem r1 : rdD s1 = (s1, 0) := by decide +kernel
theorem r2 : rdD s2 = ([], 9) := by decide +kernel
theorem r3 : rdD s3 = ([], 9) := by decide +kernel
theorem r4 : rdD s4 = ([], 3) := by decide +kernel
theorem r5 : ofD s5 = 2 := by decide +kernel
theorem r6 : en s6 = 10 := by decide +kernel
set_option maxHeartbeats 4000000 in
set_option maxRecDepth 100000 in
theorem lives_any (w : World) : Calls Tryd.prog 7 #[] w fun e w' => e = .returned (.bool true) ∧ Below w.heap.size w w' := by
  have H1 := Lib.hid (is_lit (BA #[49, 57, 55, 57, 45, 48, 53, 45, 50, 55, 32, 48, 55, 58, 51, 50, 58, 48, 48, 46, 53, 48, 48, 122]) (BA #[49, 57, 55, 57, 45, 48, 53, 45, 50, 55, 84, 48, 55, 58, 51, 50, 58, 48, 48, 46, 53, 90]) rfl rfl (by decide) r0)
  have H2 := Lib.hid (is_lit (BA #[50, 48, 48, 48, 45, 48, 50, 45, 50, 57]) (BA #[50, 48, 48, 48, 45, 48, 50, 45, 50, 57]) rfl rfl (by decide) r1)
  have H3 := Lib.hid (fl_lit (BA #[49, 57, 48, 48, 45, 48, 50, 45, 50, 57]) 9 rfl (by decide) r2)
  have H4 := Lib.hid (fl_lit (BA #[50, 52, 58, 48, 48, 58, 48, 48]) 9 rfl (by decide) r3)
  have H5 := Lib.hid (fl_lit (BA #[55, 58, 51, 50, 58, 48, 48]) 3 rfl (by decide) r4)
  have H6 := Lib.hid (fun w => Of_is (l := s5) (s := BA #[48, 55, 58, 51, 50, 58, 48, 48]) (k := 2) w rfl (by decide) (by rw [r5]; rfl))
  have H7 := Lib.hid (fun w => Long_is (l := s6) (s := BA #[49, 57, 55, 57, 45, 48, 53, 45, 50, 55, 32, 35, 32, 120]) (k := 10) w rfl (by decide) (by rw [r6]; rfl))
  have HB0 := Lib.hid (Below.refl w.heap.size w)
  go_enter Tryd.func7, Tryd.ntmps7
  go_wp2_with fail
  refine (H1.out _).mono ?_
  rintro e w1 ⟨rfl, hb⟩
  have HB1 := Lib.hid (below_tr HB0.out hb)
  clear hb
  go_wp2_with fail
  refine (H2.out _).mono ?_
  rintro e w2 ⟨rfl, hb⟩
  have HB2 := Lib.hid (below_tr HB1.out hb)
  clear hb
  go_wp2_with fail
  refine (H3.out _).mono ?_
  rintro e w3 ⟨rfl, hb⟩
  have HB3 := Lib.hid (below_tr HB2.out hb)
  clear hb
  go_wp2_with fail
  refine (H4.out _).mono ?_
  rintro e w4 ⟨rfl, hb⟩
  have HB4 := Lib.hid (below_tr HB3.out hb)
  clear hb
  go_wp2_with fail
  refine (H5.out _).mono ?_
  rintro e w5 ⟨rfl, hb⟩
  have HB5 := Lib.hid (below_tr HB4.out hb)
  clear hb
  go_wp2_with fail
  refine (H6.out _).mono ?_
  rintro e w6 ⟨rfl, hb⟩
  have HB6 := Lib.hid (below_tr HB5.out hb)
  clear hb
  go_wp2_with fail
  refine (H7.out _).mono ?_
  rintro e w7 ⟨rfl, hb⟩
  have HB7 := Lib.hid (below_tr HB6.out hb)
  clear hb
  go_wp2_with fail
  go_ret
  exact ⟨rfl, HB7.out⟩
/-- The digits of a number, so many. -/
def dc (n : Nat) : UInt8 := UInt8.ofNat (48 + n % 10)
def nml (n : Nat) : Nat → List UInt8
  | 0 => []
  | i + 1 => dc (n / 10 ^ i) :: nml n i
theorem nml_len (n : Nat) : ∀ i, (nml n i).length = i
  | 0 => rfl
  | i + 1 => by rw [nml, List.length_cons, nml_len n i]
theorem dc_val (n : Nat) : ((dc n).toNat : Int) = 48 + ((n % 10 : Nat) : Int) := by
  have h : n % 10 < 10 := Nat.mod_lt _ (by omega)
  show ((UInt8.ofNat (48 + n % 10)).toNat : Int) = _
  rw [UInt8.toNat_ofNat_of_lt' (by simp [UInt8.size]; omega)]
  push_cast
  rfl
set_option maxHeartbeats 4000000 in
set_option maxRecDepth 100000 in
theorem lnum_is {x y : Int} {S : ByteArray} (n k : Nat) (w : World) (hx : x = n) (hn : n ≤ 1000000000) (hk : k ≤ 10) (hy : y = k) (hS : S = txt (nml n k)) :
    Calls Tryd.prog 14 #[.int .i64 x, .int .i64 y] w fun e w' => e = .returned (.string S) ∧ Below w.heap.size w w' := by
  subst hx hy
  have HS := Lib.hid hS
  have HN := Lib.hid hn
  have HB0 := Lib.hid (Below.refl w.heap.size w)
  clear hS hn
  go_enter Tryd.func14, Tryd.ntmps14
  go_wp2_with fail
  go_loopw [0, 5, 6] (fun a b c wr => ∃ (i m : Nat) (N : ByteArray), i ≤ k ∧ a = .int .i64 m ∧ b = .string N ∧ c = .int .i64 i ∧ Hid (m = n / 10 ^ i) ∧ Hid (N = txt (nml n i)) ∧ Below w.heap.size w wr) (fun _ _ c _ => k - (intOf c).toNat)
  case atStart => exact ⟨0, n, ⟨#[]⟩, Nat.zero_le _, rfl, rfl, rfl, Lib.hid (by simp), Lib.hid rfl, HB0.out⟩
  case round =>
    obtain ⟨i, m, N, hi, rfl, rfl, rfl, HM, HNN, hbw⟩ := hrel
    have HB := Lib.hid hbw
    clear hbw
    by_cases hlt : i < k
    · have hm : m ≤ 1000000000 := by
        rw [HM.out]; exact Nat.le_trans (Nat.div_le_self _ _) HN.out
      have hnz : N.size ≤ 10 := by rw [HNN.out, txt_size, nml_len]; omega
      have d1 : (m : Int).tmod 10 = ((m % 10 : Nat) : Int) := by rw [Int.tmod_eq_emod_of_nonneg (by omega)]; rfl
      have d2 : (m : Int).tdiv 10 = ((m / 10 : Nat) : Int) := by rw [Int.tdiv_eq_ediv_of_nonneg (by omega)]; rfl
      obtain ⟨d, hd⟩ : ∃ d : Nat, d = m % 10 := ⟨_, rfl⟩
      obtain ⟨q, hq⟩ : ∃ d : Nat, d = m / 10 := ⟨_, rfl⟩
      have d3 : (m : Int) % 10 = (d : Int) := by rw [hd]; rfl
      have d4 : (m : Int) / 10 = (q : Int) := by rw [hq]; rfl
      rw [← hd] at d1
      rw [← hq] at d2
      have hd9 : (d : Int) ≤ 9 := by omega
      have hcv := fun (W : World) => conv_bytes (l := [dc m]) 1 1 rfl (cells_one' (w := W) (dc m) (48 + (d : Int)) (by rw [dc_val, hd]))
      have HQ := Lib.hid (show q = n / 10 ^ (i + 1) by rw [hq, HM.out, Nat.div_div_eq_div_mul, Nat.pow_succ])
      have HN2 := Lib.hid (show txt [dc m] ++ N = txt (nml n (i + 1)) by rw [HNN.out, txt_app, nml, HM.out]; rfl)
      have hone : (txt [dc m]).size = 1 := rfl
      obtain ⟨C, hC⟩ : ∃ C, C = txt [dc m] := ⟨_, rfl⟩
      rw [← hC] at hcv HN2 hone
      have hcw := hcv wr
      clear hcv hC hd hq
      go_wp2_with fail
      go_roundw
      case rel => exact ⟨i + 1, q, _, by omega, rfl, rfl, by go_num, HQ, HN2, HB.out.alloc HB.out.size _⟩
      case measure => simp [intOf]; omega
    · obtain rfl : i = k := by omega
      have E := Lib.hid (show N = S by rw [HNN.out, HS.out])
      go_wp2_with fail
      go_ret
      exact ⟨ret_str E.out, HB.out⟩
end Da
end Go.Proofs.YtgmlbcdakblpiaaDoor
