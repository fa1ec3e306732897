/- A rune's bytes as the program puts them; a row of digits, one after the other (TOML). -/
import Derived.Test.YtpdaelcoiilkkaaDoorTqP
import Derived.Test.YtpdaelcoiilkkaaDoorPutAll
namespace Go.Proofs.YtpdaelcoiilkkaaDoor
open Go.RowKit

def hxS (k : Nat) : Nat ⊕ (Nat × List UInt8) → Nat ⊕ (Nat × List UInt8)
  | .inl j => .inl (k + j)
  | .inr x => .inr x
theorem hxS_hxS (a c : Nat) (x : Nat ⊕ (Nat × List UInt8)) : hxS a (hxS c x) = hxS (a + c) x := by cases x <;> simp [hxS, Nat.add_assoc]
theorem hx_step {l : List UInt8} {q m n : Nat} (h : q < l.length) (hd : 0 ≤ dgI (bt l q)) : Qu.hx (m + 1) n (l.drop q) = hxS 1 (Qu.hx m (16 * n + (dgI (bt l q)).toNat) (l.drop (q + 1))) := by
  obtain ⟨c, hc, hb⟩ := drop_bt h
  have e := dgI_dig c
  rw [hb] at hd ⊢
  rw [hc, Qu.hx]
  cases hg : Qu.dig c with
  | none => rw [hg] at e; simp only at e; omega
  | some d =>
    rw [hg] at e
    simp only at e
    rw [e]
    simp only [Int.toNat_natCast]
    cases Qu.hx m (16 * n + d) (l.drop (q + 1)) <;> simp [hxS, Nat.add_comm]
theorem hx_none {l : List UInt8} {q m n : Nat} (h : q < l.length) (hd : dgI (bt l q) < 0) : Qu.hx (m + 1) n (l.drop q) = .inl 0 := by
  obtain ⟨c, hc, hb⟩ := drop_bt h
  have e := dgI_dig c
  rw [hb] at hd
  rw [hc, Qu.hx]
  cases hg : Qu.dig c with
  | none => rfl
  | some d => rw [hg] at e; simp only at e; omega
theorem hx_off {l : List UInt8} {q m n : Nat} (h : l.length ≤ q) : Qu.hx (m + 1) n (l.drop q) = .inl 0 := by
  rw [List.drop_eq_nil_of_le h]; rfl
/-- A byte of a number. -/
def b8 (x : Int) : UInt8 := UInt8.ofNat x.toNat
theorem encI_bd {r : Int} (h0 : 0 ≤ r) (h1 : r ≤ 1114111) : ∀ x ∈ encI r, 0 ≤ x ∧ x ≤ 255 := by
  unfold encI
  intro x hx
  repeat' split at hx
  all_goals
    simp at hx
    omega
theorem putTo_bd (l : List Int) (k : Nat) : ∀ x ∈ putTo l k, 0 ≤ x ∧ x ≤ 255 := by
  induction k with
  | zero => intro x hx; simp [putTo] at hx
  | succ k ih =>
    intro x hx
    simp only [putTo, List.mem_append] at hx
    rcases hx with hx | hx
    · exact ih x hx
    · exact encI_bd (knw_bd _).1 (knw_bd _).2 x hx
/-- The bytes of runes. -/
def puts (l : List Int) : List UInt8 := (putI l).map b8
theorem bytV_puts (l : List Int) : bytI (putI l) = bytV (puts l) := by
  unfold bytI bytV puts
  rw [List.map_map]
  apply List.map_congr_left
  intro x hx
  have := putTo_bd l _ x hx
  simp only [Function.comp, b8]
  rw [UInt8.toNat_ofNat_of_lt' (by simp [UInt8.size]; omega)]
  congr 1; omega
/-- A rune's bytes are the program's. -/
theorem tputs_one {n : Nat} (hsu : Tq.sur n = false) : puts [(n : Int)] = Qu.pt n := by
  have hsr : ¬ (1114111 < n ∨ 55296 ≤ n ∧ n ≤ 57343) := by simpa [Tq.sur] using hsu
  have hk : knw (n : Int) = n := by
    rw [knw, if_pos (by omega)]
  have e : putI [(n : Int)] = encI n := by
    show putTo [(n : Int)] 1 = _
    simp [putTo, it, hk]
  rw [puts, e]
  unfold encI Qu.pt
  by_cases c1 : n < 128
  · rw [if_pos (by omega), if_pos c1]; simp [b8]
  rw [if_neg (by omega), if_neg c1]
  by_cases c2 : n < 2048
  · rw [if_pos (by omega), if_pos c2]
    simp only [List.map_cons, List.map_nil, b8]
    rw [show (192 + (n : Int) / 64).toNat = 192 + n / 64 by omega, show (128 + (n : Int) % 64).toNat = 128 + n % 64 by omega]
  rw [if_neg (by omega), if_neg c2]
  by_cases c3 : n < 65536
  · rw [if_pos (by omega), if_pos c3]
    simp only [List.map_cons, List.map_nil, b8]
    rw [show (224 + (n : Int) / 4096).toNat = 224 + n / 4096 by omega, show (128 + (n : Int) / 64 % 64).toNat = 128 + n / 64 % 64 by omega, show (128 + (n : Int) % 64).toNat = 128 + n % 64 by omega]
  rw [if_neg (by omega), if_neg c3]
  simp only [List.map_cons, List.map_nil, b8]
  rw [show (240 + (n : Int) / 262144).toNat = 240 + n / 262144 by omega, show (128 + (n : Int) / 4096 % 64).toNat = 128 + n / 4096 % 64 by omega, show (128 + (n : Int) / 64 % 64).toNat = 128 + n / 64 % 64 by omega, show (128 + (n : Int) % 64).toNat = 128 + n % 64 by omega]
theorem pt_len (n : Nat) : (Qu.pt n).length ≤ 4 := by unfold Qu.pt; repeat' split
                                                      all_goals simp
theorem num_one {w : World} (n : Int) (o : Obj) (h : o = .cells #[.int .i64 n] 3) : Num (w.alloc o).drew (w.alloc o).heap.size (some ⟨w.heap.size, 0, none⟩) [n] := by
  subst h
  refine fun _ => ⟨w.heap.size, 0, rfl, by simp, fun k hk => ?_⟩
  obtain rfl : k = 0 := by simpa using hk
  show (w.alloc _).cell? _ = _
  rw [World.cell?_alloc_at _ _ _ _ rfl]
  simp [it]
theorem Heads.old {W w : World} (h : Heads W) (hz : 2 < W.heap.size) (hb : Below W.heap.size W w) : Heads w := h.below hb hz
section
variable {W w : World} {b : Nat} {K : Kd} {s : ByteArray} {t : List UInt8}
theorem tputs1 {v : Value} {p : Int} (R : TV W b K s w p t v) (hH : Heads W) (hz : 2 < W.heap.size) (n : Int) : Calls Tryd.prog 100 #[.slice (some ⟨w.heap.size, 0, none⟩) 1 1] (w.alloc (.cells #[.int .i64 n] 3)).drew
    (fun e w' => ∃ A c, e = .returned (.slice A (puts [n]).length c) ∧ Byt w' w'.heap.size A (puts [n]) ∧ (A = none → c = 0) ∧ TV W b K s w' p t v) := by
  have R1 : TV W b K s (w.alloc (.cells #[.int .i64 n] 3)).drew p t v := (R.alloc _).drew
  have hb := R1.1
  have hz1 : 2 < (w.alloc (.cells #[.int .i64 n] 3)).drew.heap.size := Nat.lt_of_lt_of_le hz hb.size
  refine (puts_any (l := [n]) (B := (w.alloc (.cells #[.int .i64 n] 3)).drew.heap.size) 1 1 rfl (num_one n _ rfl) (Nat.le_refl _) (by omega) (hH.old hz hb) hz1).mono ?_
  rintro e w' ⟨rfl, hown, hbel⟩
  rw [bytV_puts] at hown
  obtain ⟨A, c, e1, h1, h2, h3, h4, h5⟩ := own_form hown
  refine ⟨_, _, by rw [← h3], ?_, (fun h => by cases h), R1.below hbel⟩
  injection e1 with e1 e2 e3
  rw [e1]; exact h4
end
end Go.Proofs.YtpdaelcoiilkkaaDoor
