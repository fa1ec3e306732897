/- The reader's four digits, and the low half behind a high one. -/
import Derived.Test.YtilokhbhkbikiaaDoorTk
import Derived.Test.YtilokhbhkbikiaaDoorSml
namespace Go.Proofs.YtilokhbhkbikiaaDoor
open Go.RowKit

def hxS (k : Nat) : Nat ⊕ (Nat × List UInt8) → Nat ⊕ (Nat × List UInt8)
  | .inl j => .inl (k + j)
  | .inr x => .inr x
theorem hxS_hxS (a c : Nat) (x : Nat ⊕ (Nat × List UInt8)) : hxS a (hxS c x) = hxS (a + c) x := by cases x <;> simp [hxS, Nat.add_assoc]
theorem drop_at {l : List UInt8} {q : Nat} (h : q < l.length) : ∃ c, l.drop q = c :: l.drop (q + 1) ∧ bt l q = (c.toNat : Int) :=
  ⟨l[q], List.drop_eq_getElem_cons h, by simp [bt, h]⟩
theorem hx_step {l : List UInt8} {q m n : Nat} (h : q < l.length) (hd : 0 ≤ dgI (bt l q)) : Qu.hx (m + 1) n (l.drop q) = hxS 1 (Qu.hx m (16 * n + (dgI (bt l q)).toNat) (l.drop (q + 1))) := by
  obtain ⟨c, hc, hb⟩ := drop_at h
  have e := dgI_dig c
  rw [hb] at hd ⊢
  rw [hc, Qu.hx]
  cases hg : Qu.dig c with
  | none => rw [hg] at e; simp only at e; omega
  | some d =>
    rw [hg] at e
    simp only at e
    rw [e]
    simp only [Int.toNat_natCast]
    cases Qu.hx m (16 * n + d) (l.drop (q + 1)) <;> simp [hxS, Nat.add_comm]
theorem hx_none {l : List UInt8} {q m n : Nat} (h : q < l.length) (hd : dgI (bt l q) < 0) : Qu.hx (m + 1) n (l.drop q) = .inl 0 := by
  obtain ⟨c, hc, hb⟩ := drop_at h
  have e := dgI_dig c
  rw [hb] at hd
  rw [hc, Qu.hx]
  cases hg : Qu.dig c with
  | none => rfl
  | some d => rw [hg] at e; simp only at e; omega
theorem hx_off {l : List UInt8} {q m n : Nat} (h : l.length ≤ q) : Qu.hx (m + 1) n (l.drop q) = .inl 0 := by
  rw [List.drop_eq_nil_of_le h]; rfl
theorem digit_is {c x : Int} (hx : x = dgI c) (h0 : 0 ≤ c) (h1 : c ≤ 255) (w : World) : Calls Tryd.prog 37 #[.int .u8 c] w fun e w' => e = .returned (.int .i64 x) ∧ w = w' := hx ▸ digit_any c h0 h1 w

def NumPost (W : World) (b : Nat) (s : ByteArray) (l : List UInt8) (p : Nat) (t : List UInt8) (e : Ending) (w' : World) : Prop :=
  (∃ j, Qu.hx 4 0 (l.drop p) = .inl j ∧ e = .returned (.tuple #[.int .i64 0, .bool false]) ∧ RS W b s w' ((p + j : Nat) : Int) t) ∨
  (∃ n : Nat, Qu.hx 4 0 (l.drop p) = .inr (n, l.drop (p + 4)) ∧ p + 4 ≤ l.length ∧ n < 65536 ∧ e = .returned (.tuple #[.int .i64 n, .bool true]) ∧ RS W b s w' ((p + 4 : Nat) : Int) t)
def NRel (W : World) (b : Nat) (s : ByteArray) (l : List UInt8) (p : Nat) (t : List UInt8) (k n : Nat) (wr : World) : Prop :=
  p + k ≤ l.length ∧ n < 16 ^ k ∧ Qu.hx 4 0 (l.drop p) = hxS k (Qu.hx (4 - k) n (l.drop (p + k))) ∧ RS W b s wr ((p + k : Nat) : Int) t
section
variable {W w : World} {b : Nat} {s : ByteArray} {p : Nat} {t l : List UInt8}
set_option maxHeartbeats 1000000 in
theorem number4_any (h : RS W b s w p t) (hs : s = txt l) (hl : l.length ≤ 1000000) (hp : p ≤ l.length) :
    Calls Tryd.prog 33 #[.pointer (some ⟨b, 0, none⟩)] w (NumPost W b s l p t) := by
  have R0 : NRel W b s l p t 0 0 w := ⟨hp, by simp, by cases Qu.hx 4 0 (l.drop p) <;> simp [hxS], h⟩
  have HS := Lib.hid hs
  have HL := Lib.hid hl
  clear h hs hl hp
  go_enter Tryd.func33, Tryd.ntmps33
  go_wp2_with fail
  go_loopw [2, 5] (fun v i wr => ∃ k n : Nat, k ≤ 4 ∧ i = .int .i64 k ∧ v = .int .i64 n ∧ NRel W b s l p t k n wr) (fun _ i _ => 4 - (intOf i).toNat)
  case atStart => exact ⟨0, 0, Nat.zero_le _, rfl, rfl, R0⟩
  case round =>
    obtain ⟨k, n, hk, rfl, rfl, R⟩ := hrel
    clear R0
    obtain ⟨q, HQ⟩ : ∃ q, Hid (q = p + k) := ⟨_, rfl⟩
    have hsz : s.size = l.length := by rw [HS.out, txt_size]
    by_cases hk4 : k < 4
    · have HR := Lib.hid R
      obtain ⟨r1, r2, r3, r4⟩ := R
      rw [← HQ.out] at r1 r4
      have hn : n ≤ 4095 := by
        have : 16 ^ k ≤ 16 ^ 3 := Nat.pow_le_pow_right (by omega) (by omega)
        omega
      obtain ⟨_, _, v, h3, _⟩ := r4
      obtain ⟨c0, c1, _, cf⟩ := rd_cells h3
      have f1 := cf 1
      clear r2 r3 h3 cf
      have hm : s.size ≤ 1000000 := by have := HL.out; omega
      by_cases hq : q < l.length
      · have hx := txt_at HS.out (k := q)
        have hz : q < s.size := by omega
        have g1 : ((q : Int) == (s.size : Int)) = false := by simp; omega
        have b0 := bt_lo l q
        have b1 := bt_hi l q
        obtain ⟨y, HY⟩ : ∃ y, Hid (y = bt l q) := ⟨_, rfl⟩
        rw [← HY.out] at hx b0 b1
        obtain ⟨x, HX⟩ : ∃ x, Hid (x = dgI y) := ⟨_, rfl⟩
        have hxb := dgI_bd y
        rw [← HX.out] at hxb
        obtain ⟨hx1, hx2⟩ := hxb
        clear r1 hsz
        by_cases hneg : x < 0
        · have E := Lib.hid (hx_none (m := 4 - k - 1) (n := n) hq (by rw [← HY.out, ← HX.out]; exact hneg))
          clear hq
          go_wp2_with fail
          go_quiet (fail)
          go_wp2_with fail
          go_quiet (first | (go_at_call 37; refine (digit_is HX.out b0 b1 _).mono ?_; rintro _ _ ⟨rfl, rfl⟩; exact ⟨rfl, _, rfl⟩))
          go_wp2_with fail
          go_ret2
          refine .inl ⟨k, ?_, rfl, ?_⟩
          · rw [HR.out.2.2.1, show 4 - k = 4 - k - 1 + 1 by omega, ← HQ.out, E.out]; rfl
          · exact HR.out.2.2.2.drewN _
        · have E := Lib.hid (hx_step (m := 4 - k - 1) (n := n) hq (by rw [← HY.out, ← HX.out]; omega))
          have hq1 : q + 1 ≤ l.length := by omega
          clear hq
          go_wp2_with fail
          go_quiet (fail)
          go_wp2_with fail
          go_quiet (first | (go_at_call 37; refine (digit_is HX.out b0 b1 _).mono ?_; rintro _ _ ⟨rfl, rfl⟩; exact ⟨rfl, _, rfl⟩))
          go_wp2_with fail
          go_roundw
          case rel =>
            refine ⟨k + 1, 16 * n + x.toNat, by omega, by go_num, by simp; omega, by have := HQ.out; omega, ?_, ?_, ?_⟩
            · have := HR.out.2.1
              rw [Nat.pow_succ]; omega
            · rw [HR.out.2.2.1, show 4 - k = 4 - k - 1 + 1 by omega, ← HQ.out, E.out, ← HY.out, ← HX.out, hxS_hxS, HQ.out]; rfl
            · rw [show ((p + (k + 1) : Nat) : Int) = (q : Int) + 1 by have := HQ.out; omega]
              have r4 := HR.out.2.2.2
              rw [← HQ.out] at r4
              exact (r4.drewN _).pos _
          case measure => simp [intOf]; omega
      · have E := Lib.hid (hx_off (l := l) (q := q) (m := 4 - k - 1) (n := n) (by omega))
        have g1 : ((q : Int) == (s.size : Int)) = true := by simp; omega
        clear hq r1 hsz
        go_wp2_with fail
        go_quiet (fail)
        go_wp2_with fail
        go_ret2
        refine .inl ⟨k, ?_, rfl, ?_⟩
        · rw [HR.out.2.2.1, show 4 - k = 4 - k - 1 + 1 by omega, ← HQ.out, E.out]; rfl
        · exact HR.out.2.2.2.drewN _
    · obtain rfl : k = 4 := by omega
      have HR := Lib.hid R
      clear R
      go_wp2_with fail
      go_ret2
      obtain ⟨r1, r2, r3, r4⟩ := HR.out
      exact .inr ⟨n, by rw [r3]; rfl, r1, by simpa using r2, rfl, r4⟩
end
end Go.Proofs.YtilokhbhkbikiaaDoor
