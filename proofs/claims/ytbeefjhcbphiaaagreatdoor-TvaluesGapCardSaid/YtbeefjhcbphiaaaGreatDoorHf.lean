/- A rune's bytes as the program puts them; a row of digits, one after the other (TOML). -/
import Derived.Test.YtbeefjhcbphiaaaGreatDoorHe
namespace Go.Proofs.YtbeefjhcbphiaaaGreatDoor
open Go.RowKit

def hxS (k : Nat) : Nat ⊕ (Nat × List UInt8) → Nat ⊕ (Nat × List UInt8)
  | .inl j => .inl (k + j)
  | .inr x => .inr x
theorem hxS_hxS (a c : Nat) (x : Nat ⊕ (Nat × List UInt8)) : hxS a (hxS c x) = hxS (a + c) x := by cases x <;> simp [hxS, Nat.add_assoc]
theorem hx_step {l : List UInt8} {q m n : Nat} (h : q < l.length) (hd : 0 ≤ dgI (bt l q)) : Qu.hx (m + 1) n (l.drop q) = hxS 1 (Qu.hx m (16 * n + (dgI (bt l q)).toNat) (l.drop (q + 1))) := by
  obtain ⟨c, hc, hb⟩ := drop_bt h
  have e := dgI_dig c
  rw [hb] at hd ⊢
  rw [hc, Qu.hx]
  cases hg : Qu.dig c with
  | none => rw [hg] at e; simp only at e; omega
  | some d =>
    rw [hg] at e
    simp only at e
    rw [e]
    simp only [Int.toNat_natCast]
    cases Qu.hx m (16 * n + d) (l.drop (q + 1)) <;> simp [hxS, Nat.add_comm]
theorem hx_none {l : List UInt8} {q m n : Nat} (h : q < l.length) (hd : dgI (bt l q) < 0) : Qu.hx (m + 1) n (l.drop q) = .inl 0 := by
  obtain ⟨c, hc, hb⟩ := drop_bt h
  have e := dgI_dig c
  rw [hb] at hd
  rw [hc, Qu.hx]
  cases hg : Qu.dig c with
  | none => rfl
  | some d => rw [hg] at e; simp only at e; omega
theorem hx_off {l : List UInt8} {q m n : Nat} (h : l.length ≤ q) : Qu.hx (m + 1) n (l.drop q) = .inl 0 := by
  rw [List.drop_eq_nil_of_le h]; rfl
/-- A byte of a number. -/
def b8 (x : Int) : UInt8 := UInt8.ofNat x.toNat
theorem encI_bd {r : Int} (h0 : 0 ≤ r) (h1 : r ≤ 1114111) : ∀ x ∈ encI r, 0 ≤ x ∧ x ≤ 255 := by
  unfold encI
  intro x hx
  repeat' split at hx
  all_goals
    simp at hx
    omega
theorem putTo_bd (l : List Int) (k : Nat) : ∀ x ∈ putTo l k, 0 ≤ x ∧ x ≤ 255 := by
  induction k with
  | zero => intro x hx; simp [putTo] at hx
  | succ k ih =>
    intro x hx
    simp only [putTo, List.mem_append] at hx
    rcases hx with hx | hx
    · exact ih x hx
    · exact encI_bd (knw_bd _).1 (knw_bd _).2 x hx
/-- The bytes of runes. -/
def puts (l : List Int) : List UInt8 := (putI l).map b8
theorem bytV_puts (l : List Int) : bytI (putI l) = bytV (puts l) := by
  unfold bytI bytV puts
  rw [List.map_map]
  apply List.map_congr_left
  intro x hx
  have := putTo_bd l _ x hx
  simp only [Function.comp, b8]
  rw [UInt8.toNat_ofNat_of_lt' (by simp [UInt8.size]; omega)]
  congr 1; omega
/-- A rune's bytes are the program's. -/
theorem tputs_one {n : Nat} (hsu : Tq.sur n = false) : puts [(n : Int)] = Qu.pt n := by
  have hsr : ¬ (1114111 < n ∨ 55296 ≤ n ∧ n ≤ 57343) := by simpa [Tq.sur] using hsu
  have hk : knw (n : Int) = n := by
    rw [knw, if_pos (by omega)]
  have e : putI [(n : Int)] = encI n := by
    show putTo [(n : Int)] 1 = _
    simp [putTo, it, hk]
  rw [puts, e]
  unfold encI Qu.pt
  by_cases c1 : n < 128
  · rw [if_pos (by omega), if_pos c1]; simp [b8]
  rw [if_neg (by omega), if_neg c1]
  by_cases c2 : n < 2048
  · rw [if_pos (by omega), if_pos c2]
    simp only [List.map_cons, List.map_nil, b8]
    rw [show (192 + (n : Int) / 64).toNat = 192 + n / 64 by omega, show (128 + (n : Int) % 64).toNat = 128 + n % 64 by omega]
  rw [if_neg (by omega), if_neg c2]
  by_cases c3 : n < 65536
  · rw [if_pos (by omega), if_pos c3]
    simp only [List.map_cons, List.map_nil, b8]
    rw [show (224 + (n : Int) / 4096).toNat = 224 + n / 4096 by omega, show (128 + (n : Int) / 64 % 64).toNat = 128 + n / 64 % 64 by omega, show (128 + (n : Int) % 64).toNat = 128 + n % 64 by omega]
  rw [if_neg (by omega), if_neg c3]
  simp only [List.map_cons, List.map_nil, b8]
  rw [show (240 + (n : Int) / 262144).toNat = 240 + n / 262144 by omega, show (128 + (n : Int) / 4096 % 64).toNat = 128 + n / 4096 % 64 by omega, show (128 + (n : Int) / 64 % 64).toNat = 128 + n / 64 % 64 by omega, show (128 + (n : Int) % 64).toNat = 128 + n % 64 by omega]
theorem pt_len (n : Nat) : (Qu.pt n).length ≤ 4 := by unfold Qu.pt; repeat' split
                                                      all_goals simp
theorem num_one {w : World} (n : Int) (o : Obj) (h : o = .cells #[.int .i64 n] 3) : Num (w.alloc o).drew (w.alloc o).heap.size (some ⟨w.heap.size, 0, none⟩) [n] := by
  subst h
  refine fun _ => ⟨w.heap.size, 0, rfl, by simp, fun k hk => ?_⟩
  obtain rfl : k = 0 := by simpa using hk
  show (w.alloc _).cell? _ = _
  rw [World.cell?_alloc_at _ _ _ _ rfl]
  simp [it]
theorem Heads.old {W w : World} (h : Heads W) (hz : 9 < W.heap.size) (hb : Below W.heap.size W w) : Heads w := h.below hb hz
section
variable {W w : World} {b : Nat} {K : Kd} {s : ByteArray} {t : List UInt8}
theorem tputs1 {v : Value} {p : Int} (R : TV W b K s w p t v) (hH : Heads W) (hz : 9 < W.heap.size) (n : Int) : Calls Tryz.prog 280 #[.slice (some ⟨w.heap.size, 0, none⟩) 1 1] (w.alloc (.cells #[.int .i64 n] 3)).drew
    (fun e w' => ∃ A c, e = .returned (.slice A (puts [n]).length c) ∧ Byt w' w'.heap.size A (puts [n]) ∧ (A = none → c = 0) ∧ TV W b K s w' p t v) := by
  have R1 : TV W b K s (w.alloc (.cells #[.int .i64 n] 3)).drew p t v := (R.alloc _).drew
  have hb := R1.1
  have hz1 : 9 < (w.alloc (.cells #[.int .i64 n] 3)).drew.heap.size := Nat.lt_of_lt_of_le hz hb.size
  refine (puts_any (l := [n]) (B := (w.alloc (.cells #[.int .i64 n] 3)).drew.heap.size) 1 1 rfl (num_one n _ rfl) (Nat.le_refl _) (by omega) (hH.old hz hb) hz1).mono ?_
  rintro e w' ⟨rfl, hown, hbel⟩
  rw [bytV_puts] at hown
  obtain ⟨A, c, e1, h1, h2, h3, h4, h5⟩ := own_form hown
  refine ⟨_, _, by rw [← h3], ?_, (fun h => by cases h), R1.below hbel⟩
  injection e1 with e1 e2 e3
  rw [e1]; exact h4
end
end Go.Proofs.YtbeefjhcbphiaaaGreatDoor
/- The reader's numbered escapes (TOML). -/
namespace Go.Proofs.YtbeefjhcbphiaaaGreatDoor
open Go.RowKit

/-- What is left of some digits' reading from p on. -/
def NmPost (W : World) (b : Nat) (K : Kd) (s : ByteArray) (l : List UInt8) (many p : Nat) (t : List UInt8) (e : Ending) (w' : World) : Prop :=
  (∃ j, Qu.hx many 0 (l.drop p) = .inl j ∧ e = .returned (.bool false) ∧ TR W b K s w' ((p + j : Nat) : Int) t) ∨
  (∃ n r, Qu.hx many 0 (l.drop p) = .inr (n, r) ∧ Tq.sur n = true ∧ e = .returned (.bool false) ∧ TR W b K s w' (p : Int) t) ∨
  (∃ n r, Qu.hx many 0 (l.drop p) = .inr (n, r) ∧ Tq.sur n = false ∧ p + many ≤ l.length ∧ e = .returned (.bool true) ∧ TR W b K s w' ((p + many : Nat) : Int) (t ++ Qu.pt n))
def NmRel (W : World) (b : Nat) (K : Kd) (s : ByteArray) (l : List UInt8) (many p : Nat) (t : List UInt8) (k n : Nat) (wr : World) : Prop :=
  p + k ≤ l.length ∧ n < 16 ^ k ∧ Qu.hx many 0 (l.drop p) = hxS k (Qu.hx (many - k) n (l.drop (p + k))) ∧ TR W b K s wr ((p + k : Nat) : Int) t
section
variable {W w : World} {b : Nat} {K : Kd} {s : ByteArray} {p many : Nat} {t l : List UInt8}
set_option maxHeartbeats 4000000 in
set_option maxRecDepth 100000 in
theorem tnumbered_any (M : Int) (hM : M = many) (hm8 : many ≤ 8) (h : TR W b K s w p t) (hs : s = txt l) (hl : l.length ≤ 1000000) (hp : p ≤ l.length) (ht : t.length ≤ 4 * p)
    (hH : ∀ n r, Qu.hx many 0 (l.drop p) = .inr (n, r) → Tq.sur n = false → Heads W ∧ 9 < W.heap.size) :
    Calls Tryz.prog 277 #[.pointer (some ⟨b, 0, none⟩), .int .i64 M] w (NmPost W b K s l many p t) := by
  obtain ⟨i0, hi, hz0, hz1, hz2⟩ := info_parts (show (Tryz.prog.info? 5).map (fun i => (i.zero, i.size, i.bytes)) = some (some (.int .u8 0), 1, 1) by kernel_rfl)
  have R0 : NmRel W b K s l many p t 0 0 w := ⟨hp, by simp, by cases Qu.hx many 0 (l.drop p) <;> simp [hxS], h⟩
  have HS := Lib.hid hs
  have HL := Lib.hid hl
  have HT := Lib.hid ht
  have HH := Lib.hid hH
  have HMM := Lib.hid hM
  have hM8 : M ≤ 8 := by omega
  have hp2 : p ≤ 1000000 := by omega
  obtain ⟨_, _, v0, h30, _⟩ := h
  obtain ⟨_, c10, _, _, _⟩ := td_cells h30
  clear hs hl hp h30 ht hH hM
  go_enter Tryz.func277, Tryz.ntmps277
  go_wp2_with fail
  clear c10
  go_loopw [6, 12] (fun v i wr => ∃ k n : Nat, k ≤ many ∧ i = .int .i64 k ∧ v = .int .i64 n ∧ NmRel W b K s l many p t k n wr) (fun _ i _ => many - (intOf i).toNat)
  case atStart => exact ⟨0, 0, Nat.zero_le _, rfl, rfl, R0⟩
  case round =>
    obtain ⟨k, n, hk, rfl, rfl, R⟩ := hrel
    clear R0
    obtain ⟨q, HQ⟩ : ∃ q, Hid (q = p + k) := ⟨_, rfl⟩
    have hsz : s.size = l.length := by rw [HS.out, txt_size]
    by_cases hk4 : k < many
    · have hkM : (k : Int) < M := by rw [HMM.out]; omega
      have HK := Lib.hid hk4
      have HR := Lib.hid R
      obtain ⟨r1, r2, r3, r4⟩ := R
      rw [← HQ.out] at r1 r4
      have hn : n ≤ 268435455 := by
        have : 16 ^ k ≤ 16 ^ 7 := Nat.pow_le_pow_right (by omega) (by omega)
        omega
      obtain ⟨_, _, v, h3, _⟩ := r4
      obtain ⟨c0, c1, _, _, cf⟩ := td_cells h3
      have f1 := cf 1
      clear r2 r3 h3 cf hk4
      have hm : s.size ≤ 1000000 := by have := HL.out; omega
      have HM8 := Lib.hid hm8
      clear hm8
      by_cases hq : q < l.length
      · have hx := txt_at HS.out (k := q)
        have hz : q < s.size := by omega
        have g1 : ((q : Int) == (s.size : Int)) = false := by simp; omega
        have b0 := bt_lo l q
        have b1 := bt_hi l q
        obtain ⟨y, HY⟩ : ∃ y, Hid (y = bt l q) := ⟨_, rfl⟩
        rw [← HY.out] at hx b0 b1
        obtain ⟨x, HX⟩ : ∃ x, Hid (x = dgI y) := ⟨_, rfl⟩
        have hxb := dgI_bd y
        rw [← HX.out] at hxb
        obtain ⟨hx1, hx2⟩ := hxb
        clear r1 hsz
        by_cases hneg : x < 0
        · have E := Lib.hid (hx_none (m := many - k - 1) (n := n) hq (by rw [← HY.out, ← HX.out]; exact hneg))
          clear hq
          go_wp2_with fail
          go_quiet (first | (go_at_call 278; refine (digit_is HX.out b0 b1 _).mono ?_; rintro _ _ ⟨rfl, rfl⟩; exact ⟨rfl, _, rfl⟩))
          go_wp2_with fail
          go_ret
          refine .inl ⟨k, ?_, rfl, ?_⟩
          · rw [HR.out.2.2.1, show many - k = many - k - 1 + 1 by have := HK.out; omega, ← HQ.out, E.out]; rfl
          · exact HR.out.2.2.2.drewN _
        · have E := Lib.hid (hx_step (m := many - k - 1) (n := n) hq (by rw [← HY.out, ← HX.out]; omega))
          have hq1 : q + 1 ≤ l.length := by omega
          clear hq
          go_wp2_with fail
          go_quiet (first | (go_at_call 278; refine (digit_is HX.out b0 b1 _).mono ?_; rintro _ _ ⟨rfl, rfl⟩; exact ⟨rfl, _, rfl⟩))
          go_wp2_with fail
          go_quiet (first | (go_at_call 278; refine (digit_is HX.out b0 b1 _).mono ?_; rintro _ _ ⟨rfl, rfl⟩; exact ⟨rfl, _, rfl⟩))
          go_wp2_with fail
          go_roundw
          case rel =>
            refine ⟨k + 1, 16 * n + x.toNat, HK.out, by go_num, by simp; omega, by have := HQ.out; omega, ?_, ?_, ?_⟩
            · have := HR.out.2.1
              rw [Nat.pow_succ]; omega
            · rw [HR.out.2.2.1, show many - k = many - k - 1 + 1 by have := HK.out; omega, ← HQ.out, E.out, ← HY.out, ← HX.out, hxS_hxS, HQ.out]; rfl
            · rw [show ((p + (k + 1) : Nat) : Int) = (q : Int) + 1 by have := HQ.out; omega]
              have r4 := HR.out.2.2.2
              rw [← HQ.out] at r4
              first | exact ((r4.drewN _).drewN _).pos _ | exact (r4.drewN _).pos _
          case measure => have := HK.out; simp [intOf]; omega
      · have E := Lib.hid (hx_off (l := l) (q := q) (m := many - k - 1) (n := n) (by omega))
        have g1 : ((q : Int) == (s.size : Int)) = true := by simp; omega
        clear hq r1 hsz
        go_wp2_with fail
        go_quiet (fail)
        go_wp2_with fail
        go_ret
        refine .inl ⟨k, ?_, rfl, ?_⟩
        · rw [HR.out.2.2.1, show many - k = many - k - 1 + 1 by have := HK.out; omega, ← HQ.out, E.out]; rfl
        · exact HR.out.2.2.2.drewN _
    · obtain rfl : k = many := by omega
      have HR := Lib.hid R
      have hkM : ¬ (k : Int) < M := by rw [HMM.out]; omega
      obtain ⟨r1, r2, r3, r4⟩ := R
      have hnn : n ≤ 4294967295 := by
        have : 16 ^ k ≤ 16 ^ 8 := Nat.pow_le_pow_right (by omega) hm8
        omega
      obtain ⟨r, hr⟩ : ∃ r, Qu.hx k 0 (l.drop p) = .inr (n, r) := ⟨_, by rw [r3, Nat.sub_self]; rfl⟩
      have HRR := Lib.hid hr
      obtain ⟨x, HX⟩ : ∃ x, Hid (x = rnI n) := ⟨_, rfl⟩
      have hsu : x = !Tq.sur n := by rw [HX.out, rnI_sur]
      obtain ⟨v, RV1⟩ := r4.rv
      have HV := Lib.hid RV1
      obtain ⟨c0, c1, c2, c3, cf⟩ := RV1.cells
      have f1 := cf 1
      have f2 := cf 3
      have HK1 := Lib.hid r1
      have HM8 := Lib.hid hm8
      clear r1 r2 r3 r4 hr RV1 cf hm8 c2
      cases x
      · have HSU := Lib.hid (show Tq.sur n = true by revert hsu; cases Tq.sur n <;> simp)
        clear hsu
        go_wp2_with fail
        refine (isRune_is HX.out _).mono ?_
        rintro e w3 ⟨rfl, rfl⟩
        go_wp2_with fail
        go_ret
        exact .inr (.inl ⟨n, r, HRR.out, HSU.out, rfl, HV.out.rs.pos _⟩)
      · have HSU := Lib.hid (show Tq.sur n = false by revert hsu; cases Tq.sur n <;> simp)
        have HHH := Lib.hid (HH.out n r HRR.out HSU.out)
        have htl : t.length ≤ 4000000 := by have := HT.out; have := HK1.out; have := HL.out; omega
        have HU := Lib.hid (tputs_one HSU.out)
        have hpl : (puts [(n : Int)]).length ≤ 4 := by rw [HU.out]; exact pt_len n
        clear hsu
        go_wp2_with fail
        refine (isRune_is HX.out _).mono ?_
        rintro e w3 ⟨rfl, rfl⟩
        go_wp2_with fail
        have ca := (HV.out.alloc (.cells #[.int .i64 n] 3)).cells.2.2.2.1
        go_region_law (first
          | (refine tstep_app rfl (.tmp 69) (.tmp 72) 48 rfl W.heap.size 5 i0 (.int .u8 0) 1 Tryz.underlying48 hi hz0 hz1 hz2 rfl v t.length (bytV t) rfl R4.2.2.2 A (puts [(n : Int)]).length c _ (puts [(n : Int)]) rfl rfl hA hnone (by unfold maxLen; omega) (by omega) R4.1.size ?_; intro v' w5 hown5 hg5; obtain ⟨⟨A', n', cp', rfl⟩, h5, R5⟩ := TV.text R4 hown5 hg5; obtain ⟨c0', c1', c2', c3', cf'⟩ := td_cells h5; have f2' := cf' 3; clear cf' h5 hown5 hg5 c2')
          | (go_simp; go_at_call 280; refine (tputs1 HV.out HHH.out.1 HHH.out.2 n).mono ?_; rintro e w4 ⟨A, c, rfl, hA, hnone, R4⟩; obtain ⟨d0, d1, d2, d3, df⟩ := R4.cells; clear d0 d1 d2 df))
        all_goals (have HR5 := Lib.hid R5; clear R5)
        all_goals go_wp2_with fail
        all_goals go_ret
        all_goals exact .inr (.inr ⟨n, r, HRR.out, HSU.out, HK1.out, rfl, by have := HR5.out; rw [HU.out] at this; exact this⟩)
end
end Go.Proofs.YtbeefjhcbphiaaaGreatDoor
