/- Two rows of one's own are written over, each with another value, and read: the law's own helpers. -/
import Derived.Test.YtllnnogdpagioaaDoorSmall
import Derived.Test.YtllnnogdpagioaaDoorMem
import Derived.LoopTactic
import Derived.Outline
import Derived.Deep.OwnRows
import Derived.Deep.LoopGhost
import Derived.Deep.QuietTactic
import Derived.BigQuiet
namespace Go.Proofs.YtllnnogdpagioaaDoor
open Go.RowKit

/-- The list of both rows in block gl; of row g1 the first a are u1, of row g2 the first b are u2; below B nothing has turned. -/
def OSt (B g1 g2 gl n1 n2 : Nat) (e : TypeId) (u1 u2 : Value) (w wr : World) (a b : Nat) : Prop :=
  (wr.cell? ⟨gl, 0, none⟩ = some (.slice (some ⟨g1, 0, none⟩) n1 n1) ∧ wr.cell? ⟨gl, 1, none⟩ = some (.slice (some ⟨g2, 0, none⟩) n2 n2)) ∧
  (∃ f, wr.rowIs g1 e n1 f ∧ ∀ j, j < a → f j = u1) ∧ (∃ f, wr.rowIs g2 e n2 f ∧ ∀ j, j < b → f j = u2) ∧ Below B w wr
section
variable {B g1 g2 gl n1 n2 : Nat} {e : TypeId} {u1 u2 : Value} {w wr : World} {a b : Nat}
theorem OSt.drewN (h : OSt B g1 g2 gl n1 n2 e u1 u2 w wr a b) (n : Nat) : OSt B g1 g2 gl n1 n2 e u1 u2 w (wr.drewN n) a b :=
  ⟨h.1, h.2.1, h.2.2.1, ⟨h.2.2.2.os, h.2.2.2.tape, h.2.2.2.output, h.2.2.2.size, h.2.2.2.block⟩⟩
theorem OSt.store1 (h : OSt B g1 g2 gl n1 n2 e u1 u2 w wr a b) (h12 : g1 ≠ g2) (hl : g1 ≠ gl) (hB : B ≤ g1) : OSt B g1 g2 gl n1 n2 e u1 u2 w (wr.setCell ⟨g1, a, none⟩ u1) (a + 1) b := by
  obtain ⟨⟨c0, c1⟩, ⟨f, r1, e1⟩, ⟨f2, r2, e2⟩, hb⟩ := h
  refine ⟨⟨?_, ?_⟩, ⟨_, r1.set a u1, fun j hj => ?_⟩, ⟨f2, r2.setOther (a := ⟨g1, a, none⟩) (fun h => h12 h.symm) u1, e2⟩, hb.setCell hB u1⟩
  · rw [World.cell?_setCell_other _ _ _ _ (fun h => hl (by injection h))]; exact c0
  · rw [World.cell?_setCell_other _ _ _ _ (fun h => hl (by injection h))]; exact c1
  · by_cases hj' : j = a
    · simp [hj']
    · simp [hj', e1 j (by omega)]
theorem OSt.store2 (h : OSt B g1 g2 gl n1 n2 e u1 u2 w wr a b) (h12 : g1 ≠ g2) (hl : g2 ≠ gl) (hB : B ≤ g2) : OSt B g1 g2 gl n1 n2 e u1 u2 w (wr.setCell ⟨g2, b, none⟩ u2) a (b + 1) := by
  obtain ⟨⟨c0, c1⟩, ⟨f, r1, e1⟩, ⟨f2, r2, e2⟩, hb⟩ := h
  refine ⟨⟨?_, ?_⟩, ⟨f, r1.setOther (a := ⟨g2, b, none⟩) h12 u2, e1⟩, ⟨_, r2.set b u2, fun j hj => ?_⟩, hb.setCell hB u2⟩
  · rw [World.cell?_setCell_other _ _ _ _ (fun h => hl (by injection h))]; exact c0
  · rw [World.cell?_setCell_other _ _ _ _ (fun h => hl (by injection h))]; exact c1
  · by_cases hj' : j = b
    · simp [hj']
    · simp [hj', e2 j (by omega)]
theorem OSt.put1 (h : OSt B g1 g2 gl n1 n2 e u1 u2 w wr a b) {k : Nat} (hk : k < n1) : (∃ u, wr.cell? ⟨g1, k, none⟩ = some u) ∧ wr.frozen? ⟨g1, k, none⟩ = false := by
  obtain ⟨_, ⟨f, r1, _⟩, _⟩ := h
  exact ⟨⟨_, r1.cell hk⟩, r1.frozen k⟩
theorem OSt.put2 (h : OSt B g1 g2 gl n1 n2 e u1 u2 w wr a b) {k : Nat} (hk : k < n2) : (∃ u, wr.cell? ⟨g2, k, none⟩ = some u) ∧ wr.frozen? ⟨g2, k, none⟩ = false := by
  obtain ⟨_, _, ⟨f, r1, _⟩, _⟩ := h
  exact ⟨⟨_, r1.cell hk⟩, r1.frozen k⟩
theorem OSt.get1 (h : OSt B g1 g2 gl n1 n2 e u1 u2 w wr n1 b) {k : Nat} (hk : k < n1) : wr.cell? ⟨g1, k, none⟩ = some u1 := by
  obtain ⟨_, ⟨f, r1, e1⟩, _⟩ := h
  rw [r1.cell hk, e1 k hk]
theorem OSt.get2 (h : OSt B g1 g2 gl n1 n2 e u1 u2 w wr a n2) {k : Nat} (hk : k < n2) : wr.cell? ⟨g2, k, none⟩ = some u2 := by
  obtain ⟨_, _, ⟨f, r1, e1⟩, _⟩ := h
  rw [r1.cell hk, e1 k hk]
end
set_option maxHeartbeats 2000000 in
theorem ownn_any {B g1 g2 gl n1 n2 : Nat} {w : World} (h : OSt B g1 g2 gl n1 n2 3 (.int .i64 (-1)) (.int .i64 (-2)) w w 0 0) (h12 : g1 ≠ g2) (hl1 : g1 ≠ gl) (hl2 : g2 ≠ gl) (hB1 : B ≤ g1) (hB2 : B ≤ g2) (hs1 : n1 ≤ 65536 * 4) (hs2 : n2 ≤ 65536 * 4) :
    Calls Tryd.prog 17 #[.slice (some ⟨gl, 0, none⟩) 2 2] w fun e w' => e = .returned (.bool true) ∧ Below B w w' := by
  have hf1 : ¬ (n1 : Int) < n1 := by omega
  have hf2 : ¬ (n2 : Int) < n2 := by omega
  go_enter Tryd.func17, Tryd.ntmps17
  go_wp2
  go_loopw [3] (fun s wv => (s = .int .i64 0 ∧ OSt B g1 g2 gl n1 n2 3 (.int .i64 (-1)) (.int .i64 (-2)) w wv 0 0) ∨ (s = .int .i64 1 ∧ OSt B g1 g2 gl n1 n2 3 (.int .i64 (-1)) (.int .i64 (-2)) w wv n1 0) ∨ (s = .int .i64 2 ∧ OSt B g1 g2 gl n1 n2 3 (.int .i64 (-1)) (.int .i64 (-2)) w wv n1 n2)) (fun s _ => (2 - intOf s).toNat)
  case atStart => exact Or.inl ⟨rfl, h⟩
  case round =>
    clear h
    rcases hrel with ⟨rfl, R⟩ | ⟨rfl, R⟩ | ⟨rfl, R⟩
    ·
      have hR := Lib.hid R
      obtain ⟨⟨c0, c1⟩, _, _, _⟩ := R
      go_wp2
      go_quiet (fail)
      go_wp2
      have R0 : OSt B g1 g2 gl n1 n2 3 (.int .i64 (-1)) (.int .i64 (-2)) w (wr.drewN nq) 0 0 := hR.out.drewN nq
      obtain ⟨wo, hwo⟩ : ∃ wo : World, wo = wr.drewN nq := ⟨_, rfl⟩
      rw [← hwo] at R0 ⊢
      clear hwo c0 c1 hR
      go_loopw [4] (fun s wv => ∃ k : Nat, k ≤ n1 ∧ s = .int .i64 k ∧ OSt B g1 g2 gl n1 n2 3 (.int .i64 (-1)) (.int .i64 (-2)) w wv k 0) (fun s _ => n1 - (intOf s).toNat)
      case atStart => exact ⟨0, Nat.zero_le _, rfl, R0⟩
      case round =>
        obtain ⟨k, hk, rfl, R1⟩ := hrel
        have hR1 := Lib.hid R1
        obtain ⟨⟨c0, c1⟩, _, _, _⟩ := R1
        clear R0
        by_cases hlt : k < n1
        · obtain ⟨⟨u, hu⟩, hf⟩ := hR1.out.put1 hlt
          go_wp2
          go_roundw
          case rel => exact ⟨k + 1, by omega, by go_num, hR1.out.store1 h12 hl1 hB1⟩
          case measure => simp [intOf]; omega
        · obtain rfl : k = n1 := by omega
          have R2 := hR1.out
          clear hR1
          go_wp2
          go_roundw
          case rel => exact Or.inr (Or.inl ⟨rfl, R2⟩)
          case measure => simp [intOf]
    ·
      have hR := Lib.hid R
      obtain ⟨⟨c0, c1⟩, _, _, _⟩ := R
      go_wp2
      go_quiet (fail)
      go_wp2
      have R0 : OSt B g1 g2 gl n1 n2 3 (.int .i64 (-1)) (.int .i64 (-2)) w (wr.drewN nq) n1 0 := hR.out.drewN nq
      obtain ⟨wo, hwo⟩ : ∃ wo : World, wo = wr.drewN nq := ⟨_, rfl⟩
      rw [← hwo] at R0 ⊢
      clear hwo c0 c1 hR
      go_loopw [4] (fun s wv => ∃ k : Nat, k ≤ n2 ∧ s = .int .i64 k ∧ OSt B g1 g2 gl n1 n2 3 (.int .i64 (-1)) (.int .i64 (-2)) w wv n1 k) (fun s _ => n2 - (intOf s).toNat)
      case atStart => exact ⟨0, Nat.zero_le _, rfl, R0⟩
      case round =>
        obtain ⟨k, hk, rfl, R1⟩ := hrel
        have hR1 := Lib.hid R1
        obtain ⟨⟨c0, c1⟩, _, _, _⟩ := R1
        clear R0
        by_cases hlt : k < n2
        · obtain ⟨⟨u, hu⟩, hf⟩ := hR1.out.put2 hlt
          go_wp2
          go_roundw
          case rel => exact ⟨k + 1, by omega, by go_num, hR1.out.store2 h12 hl2 hB2⟩
          case measure => simp [intOf]; omega
        · obtain rfl : k = n2 := by omega
          have R2 := hR1.out
          clear hR1
          go_wp2
          go_roundw
          case rel => exact Or.inr (Or.inr ⟨rfl, R2⟩)
          case measure => simp [intOf]
    · have hR := Lib.hid R
      have hbel := R.2.2.2
      obtain ⟨⟨c0, c1⟩, _, _, _⟩ := R
      go_wp2
      go_loop [5] (fun s => s = .int .i64 0 ∨ s = .int .i64 1 ∨ s = .int .i64 2) (fun s => (2 - intOf s).toNat)
      case atStart => exact Or.inl rfl
      case round =>
        rcases hrel with rfl | rfl | rfl
        ·
          go_wp2
          go_loop [6] (fun s => ∃ k : Nat, k ≤ n1 ∧ s = .int .i64 k) (fun s => n1 - (intOf s).toNat)
          case atStart => exact ⟨0, Nat.zero_le _, rfl⟩
          case round =>
            obtain ⟨k, hk, rfl⟩ := hrel
            by_cases hlt : k < n1
            · have hck := hR.out.get1 hlt
              go_wp2
              go_round
              case rel => exact ⟨k + 1, by omega, by go_num⟩
              case measure => simp [intOf]; omega
            · obtain rfl : k = n1 := by omega
              go_wp2
              go_round
              case rel => exact Or.inr (Or.inl rfl)
              case measure => simp [intOf]
        ·
          go_wp2
          go_loop [6] (fun s => ∃ k : Nat, k ≤ n2 ∧ s = .int .i64 k) (fun s => n2 - (intOf s).toNat)
          case atStart => exact ⟨0, Nat.zero_le _, rfl⟩
          case round =>
            obtain ⟨k, hk, rfl⟩ := hrel
            by_cases hlt : k < n2
            · have hck := hR.out.get2 hlt
              go_wp2
              go_round
              case rel => exact ⟨k + 1, by omega, by go_num⟩
              case measure => simp [intOf]; omega
            · obtain rfl : k = n2 := by omega
              go_wp2
              go_round
              case rel => exact Or.inr (Or.inr rfl)
              case measure => simp [intOf]
        · go_wp2
          go_ret
          exact ⟨rfl, hbel⟩
set_option maxHeartbeats 2000000 in
theorem ownb_any {B g1 g2 gl n1 n2 : Nat} {w : World} (h : OSt B g1 g2 gl n1 n2 5 (.int .u8 1) (.int .u8 2) w w 0 0) (h12 : g1 ≠ g2) (hl1 : g1 ≠ gl) (hl2 : g2 ≠ gl) (hB1 : B ≤ g1) (hB2 : B ≤ g2) (hs1 : n1 ≤ 65536 * 4) (hs2 : n2 ≤ 65536 * 4) :
    Calls Tryd.prog 25 #[.slice (some ⟨gl, 0, none⟩) 2 2] w fun e w' => e = .returned (.bool true) ∧ Below B w w' := by
  have hf1 : ¬ (n1 : Int) < n1 := by omega
  have hf2 : ¬ (n2 : Int) < n2 := by omega
  go_enter Tryd.func25, Tryd.ntmps25
  go_wp2
  go_loopw [3] (fun s wv => (s = .int .i64 0 ∧ OSt B g1 g2 gl n1 n2 5 (.int .u8 1) (.int .u8 2) w wv 0 0) ∨ (s = .int .i64 1 ∧ OSt B g1 g2 gl n1 n2 5 (.int .u8 1) (.int .u8 2) w wv n1 0) ∨ (s = .int .i64 2 ∧ OSt B g1 g2 gl n1 n2 5 (.int .u8 1) (.int .u8 2) w wv n1 n2)) (fun s _ => (2 - intOf s).toNat)
  case atStart => exact Or.inl ⟨rfl, h⟩
  case round =>
    clear h
    rcases hrel with ⟨rfl, R⟩ | ⟨rfl, R⟩ | ⟨rfl, R⟩
    ·
      have hR := Lib.hid R
      obtain ⟨⟨c0, c1⟩, _, _, _⟩ := R
      go_wp2
      go_quiet (fail)
      go_wp2
      have R0 : OSt B g1 g2 gl n1 n2 5 (.int .u8 1) (.int .u8 2) w (wr.drewN nq) 0 0 := hR.out.drewN nq
      obtain ⟨wo, hwo⟩ : ∃ wo : World, wo = wr.drewN nq := ⟨_, rfl⟩
      rw [← hwo] at R0 ⊢
      clear hwo c0 c1 hR
      go_loopw [4] (fun s wv => ∃ k : Nat, k ≤ n1 ∧ s = .int .i64 k ∧ OSt B g1 g2 gl n1 n2 5 (.int .u8 1) (.int .u8 2) w wv k 0) (fun s _ => n1 - (intOf s).toNat)
      case atStart => exact ⟨0, Nat.zero_le _, rfl, R0⟩
      case round =>
        obtain ⟨k, hk, rfl, R1⟩ := hrel
        have hR1 := Lib.hid R1
        obtain ⟨⟨c0, c1⟩, _, _, _⟩ := R1
        clear R0
        by_cases hlt : k < n1
        · obtain ⟨⟨u, hu⟩, hf⟩ := hR1.out.put1 hlt
          go_wp2
          go_roundw
          case rel => exact ⟨k + 1, by omega, by go_num, hR1.out.store1 h12 hl1 hB1⟩
          case measure => simp [intOf]; omega
        · obtain rfl : k = n1 := by omega
          have R2 := hR1.out
          clear hR1
          go_wp2
          go_roundw
          case rel => exact Or.inr (Or.inl ⟨rfl, R2⟩)
          case measure => simp [intOf]
    ·
      have hR := Lib.hid R
      obtain ⟨⟨c0, c1⟩, _, _, _⟩ := R
      go_wp2
      go_quiet (fail)
      go_wp2
      have R0 : OSt B g1 g2 gl n1 n2 5 (.int .u8 1) (.int .u8 2) w (wr.drewN nq) n1 0 := hR.out.drewN nq
      obtain ⟨wo, hwo⟩ : ∃ wo : World, wo = wr.drewN nq := ⟨_, rfl⟩
      rw [← hwo] at R0 ⊢
      clear hwo c0 c1 hR
      go_loopw [4] (fun s wv => ∃ k : Nat, k ≤ n2 ∧ s = .int .i64 k ∧ OSt B g1 g2 gl n1 n2 5 (.int .u8 1) (.int .u8 2) w wv n1 k) (fun s _ => n2 - (intOf s).toNat)
      case atStart => exact ⟨0, Nat.zero_le _, rfl, R0⟩
      case round =>
        obtain ⟨k, hk, rfl, R1⟩ := hrel
        have hR1 := Lib.hid R1
        obtain ⟨⟨c0, c1⟩, _, _, _⟩ := R1
        clear R0
        by_cases hlt : k < n2
        · obtain ⟨⟨u, hu⟩, hf⟩ := hR1.out.put2 hlt
          go_wp2
          go_roundw
          case rel => exact ⟨k + 1, by omega, by go_num, hR1.out.store2 h12 hl2 hB2⟩
          case measure => simp [intOf]; omega
        · obtain rfl : k = n2 := by omega
          have R2 := hR1.out
          clear hR1
          go_wp2
          go_roundw
          case rel => exact Or.inr (Or.inr ⟨rfl, R2⟩)
          case measure => simp [intOf]
    · have hR := Lib.hid R
      have hbel := R.2.2.2
      obtain ⟨⟨c0, c1⟩, _, _, _⟩ := R
      go_wp2
      go_loop [5] (fun s => s = .int .i64 0 ∨ s = .int .i64 1 ∨ s = .int .i64 2) (fun s => (2 - intOf s).toNat)
      case atStart => exact Or.inl rfl
      case round =>
        rcases hrel with rfl | rfl | rfl
        ·
          go_wp2
          go_loop [6] (fun s => ∃ k : Nat, k ≤ n1 ∧ s = .int .i64 k) (fun s => n1 - (intOf s).toNat)
          case atStart => exact ⟨0, Nat.zero_le _, rfl⟩
          case round =>
            obtain ⟨k, hk, rfl⟩ := hrel
            by_cases hlt : k < n1
            · have hck := hR.out.get1 hlt
              go_wp2
              go_round
              case rel => exact ⟨k + 1, by omega, by go_num⟩
              case measure => simp [intOf]; omega
            · obtain rfl : k = n1 := by omega
              go_wp2
              go_round
              case rel => exact Or.inr (Or.inl rfl)
              case measure => simp [intOf]
        ·
          go_wp2
          go_loop [6] (fun s => ∃ k : Nat, k ≤ n2 ∧ s = .int .i64 k) (fun s => n2 - (intOf s).toNat)
          case atStart => exact ⟨0, Nat.zero_le _, rfl⟩
          case round =>
            obtain ⟨k, hk, rfl⟩ := hrel
            by_cases hlt : k < n2
            · have hck := hR.out.get2 hlt
              go_wp2
              go_round
              case rel => exact ⟨k + 1, by omega, by go_num⟩
              case measure => simp [intOf]; omega
            · obtain rfl : k = n2 := by omega
              go_wp2
              go_round
              case rel => exact Or.inr (Or.inr rfl)
              case measure => simp [intOf]
        · go_wp2
          go_ret
          exact ⟨rfl, hbel⟩
end Go.Proofs.YtllnnogdpagioaaDoor
