/- strconv.FormatInt and FormatUint at bases 16, 8, 2. -/
import Derived.Test.YtonfaphllpjmpaaDoorInH
namespace Go.Proofs.YtonfaphllpjmpaaDoor
open Go.RowKit

theorem ifint_any (b k : Nat) (h : Rx b k) (n : Nat) (hn : n < 9223372036854775808) (bI : Int) (hbI : bI = b) (w : World) (D : Deb w) :
    Calls Tryd.prog 29 #[.int .i64 n, .int .i64 bI] w fun e w' => e = .returned (.string (txt (In.dN b n))) ∧ Below w.heap.size w w' := by
  have HC := Lib.hid (bits_any b k h n (by omega) bI hbI w D)
  have n0 : (0 : Int) ≤ n := by omega
  have n1 : (n : Int) < 9223372036854775808 := by omega
  have n2 : (n : Int) % 18446744073709551616 = n := by omega
  clear D hn
  obtain ⟨S, hS⟩ : ∃ S, txt (In.dN b n) = S := ⟨_, rfl⟩
  rw [hS] at HC ⊢
  clear hS
  have hb : bI = 16 ∨ bI = 8 ∨ bI = 2 := by rcases h with ⟨rfl, _⟩ | ⟨rfl, _⟩ | ⟨rfl, _⟩ <;> simp [hbI]
  clear h hbI
  rcases hb with rfl | rfl | rfl
  all_goals
    go_enter Tryd.func29, Tryd.ntmps29
    go_wp2_with fail
    refine HC.out.mono ?_
    rintro e w1 ⟨rfl, hb⟩
    have HB := Lib.hid hb
    clear hb
    go_wp2_with fail
    go_ret
    exact ⟨rfl, HB.out⟩
theorem fint_any (b k : Nat) (h : Rx b k) (n : Nat) (hn : n < 9223372036854775808) (bI : Int) (hbI : bI = b) (w : World) (D : Deb w) :
    Calls Tryd.prog 13 #[.int .i64 n, .int .i64 bI] w fun e w' => e = .returned (.string (txt (In.dN b n))) ∧ Below w.heap.size w w' := by
  have HC := Lib.hid (ifint_any b k h n hn bI hbI w D)
  clear D hn h hbI
  go_enter Tryd.func13, Tryd.ntmps13
  go_wp2_with fail
  refine HC.out.mono ?_
  rintro e w1 ⟨rfl, hb⟩
  have HB := Lib.hid hb
  clear hb
  go_wp2_with fail
  go_ret
  exact ⟨rfl, HB.out⟩
theorem ifuint_any (b k : Nat) (h : Rx b k) (n : Nat) (hn : n < 18446744073709551616) (bI : Int) (hbI : bI = b) (w : World) (D : Deb w) :
    Calls Tryd.prog 40 #[.int .u64 n, .int .i64 bI] w fun e w' => e = .returned (.string (txt (In.dN b n))) ∧ Below w.heap.size w w' := by
  have HC := Lib.hid (bits_any b k h n hn bI hbI w D)
  clear D hn
  obtain ⟨S, hS⟩ : ∃ S, txt (In.dN b n) = S := ⟨_, rfl⟩
  rw [hS] at HC ⊢
  clear hS
  have hb : bI = 16 ∨ bI = 8 ∨ bI = 2 := by rcases h with ⟨rfl, _⟩ | ⟨rfl, _⟩ | ⟨rfl, _⟩ <;> simp [hbI]
  clear h hbI
  rcases hb with rfl | rfl | rfl
  all_goals
    go_enter Tryd.func40, Tryd.ntmps40
    go_wp2_with fail
    refine HC.out.mono ?_
    rintro e w1 ⟨rfl, hb⟩
    have HB := Lib.hid hb
    clear hb
    go_wp2_with fail
    go_ret
    exact ⟨rfl, HB.out⟩
theorem fuint_any (b k : Nat) (h : Rx b k) (n : Nat) (hn : n < 18446744073709551616) (bI : Int) (hbI : bI = b) (w : World) (D : Deb w) :
    Calls Tryd.prog 20 #[.int .u64 n, .int .i64 bI] w fun e w' => e = .returned (.string (txt (In.dN b n))) ∧ Below w.heap.size w w' := by
  have HC := Lib.hid (ifuint_any b k h n hn bI hbI w D)
  clear D hn h hbI
  go_enter Tryd.func20, Tryd.ntmps20
  go_wp2_with fail
  refine HC.out.mono ?_
  rintro e w1 ⟨rfl, hb⟩
  have HB := Lib.hid hb
  clear hb
  go_wp2_with fail
  go_ret
  exact ⟨rfl, HB.out⟩
end Go.Proofs.YtonfaphllpjmpaaDoor
