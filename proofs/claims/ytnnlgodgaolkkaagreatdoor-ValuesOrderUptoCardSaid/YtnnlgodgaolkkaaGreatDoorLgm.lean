/- What landed of values: texts' order as a number; the first of two answers that is not nought. -/
import Derived.Test.YtnnlgodgaolkkaaGreatDoorHi
import Derived.Lib.Bytealg
import Derived.Lib.Strings
namespace Go.Proofs.YtnnlgodgaolkkaaGreatDoor
open Go.RowKit
namespace Va
set_option maxRecDepth 100000

theorem cmpBytes : ∀ a b : Bs, Lib.compareBytes a b = oN (bcmp a b)
  | [], [] => by rw [Lib.compareBytes, bcmp_self]; rfl
  | [], b :: s => by
    rw [Lib.compareBytes, show bcmp [] (b :: s) = .lt from by rw [bcmp_lt]; rfl]; rfl
  | a :: r, [] => by
    rw [Lib.compareBytes, show bcmp (a :: r) [] = .gt from by rw [bcmp_swap, show bcmp [] (a :: r) = .lt from by rw [bcmp_lt]; rfl]; rfl]; rfl
  | a :: r, b :: s => by
    rw [Lib.compareBytes]
    by_cases h : a < b
    · rw [if_pos h, bcmp_lt.2 (bl_cons.2 (.inl h))]; rfl
    · by_cases h2 : b < a
      · rw [if_neg h, if_pos h2, bcmp_swap, bcmp_lt.2 (bl_cons.2 (.inl h2))]; rfl
      · rw [if_neg h, if_neg h2, cmpBytes r s]
        have e : a = b := by
          apply UInt8.toNat_inj.1
          rw [UInt8.lt_iff_toNat_lt] at h h2
          omega
        subst e
        have e1 : ∀ x y : Bs, bl (a :: x) (a :: y) = bl x y := fun x y => by
          cases h3 : bl x y with
          | true => exact bl_cons.2 (.inr ⟨rfl, h3⟩)
          | false =>
            cases h4 : bl (a :: x) (a :: y) with
            | false => rfl
            | true =>
              rcases bl_cons.1 h4 with h5 | ⟨_, h5⟩
              · exact absurd h5 h
              · rw [h5] at h3; cases h3
        unfold bcmp
        rw [e1, e1]
theorem tx_data {a : ByteArray} {l : Bs} (h : a = txt l) : a.data.toList = l := by rw [h]; simp [txt]
theorem oN_lt {x : Ordering} : oN x < 0 ↔ x = .lt := by cases x <;> simp [oN]
theorem oN_ne {x : Ordering} : oN x = 0 ↔ x = .eq := by cases x <;> simp [oN]
set_option maxHeartbeats 4000000 in
theorem or_any (x y : Ordering) {g c : Nat} (w : World) (h0 : w.cell? ⟨g, 0, none⟩ = some (.int .i64 (oN x))) (h1 : w.cell? ⟨g, 1, none⟩ = some (.int .i64 (oN y))) :
    Calls Tryz.prog 51 #[.slice (some ⟨g, 0, none⟩) 2 c] w fun e w' => e = .returned (.int .i64 (oN (x.then y))) ∧ w = w' := by
  cases x with
  | lt =>
    have h0 : w.cell? ⟨g, 0, none⟩ = some (.int .i64 (-1)) := h0
    go_enter Tryz.func51, Tryz.ntmps51
    go_wp2_with fail
    go_loopw [5, 8] (fun _ i wx => w = wx ∧ i = .int .i64 0) (fun _ _ _ => 0)
    case atStart => exact ⟨rfl, rfl⟩
    case round =>
      obtain ⟨rfl, rfl⟩ := hrel
      go_wp2_with fail
      go_ret
      exact ⟨rfl, rfl⟩
  | gt =>
    have h0 : w.cell? ⟨g, 0, none⟩ = some (.int .i64 1) := h0
    go_enter Tryz.func51, Tryz.ntmps51
    go_wp2_with fail
    go_loopw [5, 8] (fun _ i wx => w = wx ∧ i = .int .i64 0) (fun _ _ _ => 0)
    case atStart => exact ⟨rfl, rfl⟩
    case round =>
      obtain ⟨rfl, rfl⟩ := hrel
      go_wp2_with fail
      go_ret
      exact ⟨rfl, rfl⟩
  | eq =>
    have h0 : w.cell? ⟨g, 0, none⟩ = some (.int .i64 0) := h0
    obtain ⟨Y, hY⟩ : ∃ Y, Y = oN y := ⟨_, rfl⟩
    rw [show Ordering.eq.then y = y from rfl, ← hY]
    rw [← hY] at h1
    clear hY
    go_enter Tryz.func51, Tryz.ntmps51
    go_wp2_with fail
    go_loopw [5, 8] (fun _ i wx => w = wx ∧ ∃ k : Nat, k ≤ 2 ∧ i = .int .i64 k ∧ Hid (k = 2 → Y = 0)) (fun _ i _ => 2 - (intOf i).toNat)
    case atStart => exact ⟨rfl, 0, by omega, rfl, Lib.hid (fun h => absurd h (by omega))⟩
    case round =>
      obtain ⟨rfl, k, hk, rfl, HK⟩ := hrel
      have h3 : k = 0 ∨ k = 1 ∨ k = 2 := by omega
      rcases h3 with rfl | rfl | rfl
      · go_wp2_with fail
        go_roundw
        case rel => exact ⟨by first | rfl | trivial, 1, by omega, by first | rfl | trivial, Lib.hid (fun h => absurd h (by omega))⟩
        case measure => simp [intOf]
      · by_cases hy : Y = 0
        · subst hy
          go_wp2_with fail
          go_roundw
          case rel => exact ⟨by first | rfl | trivial, 2, by omega, by first | rfl | trivial, Lib.hid (fun _ => by first | rfl | trivial)⟩
          case measure => simp [intOf]
        · have hy2 : (Y != 0) = true := bne_iff_ne.2 hy
          clear hy
          go_wp2_with fail
          go_ret
          exact ⟨rfl, rfl⟩
      · have hy := HK.out rfl
        clear HK
        go_wp2_with fail
        go_ret
        exact ⟨by rw [hy]; rfl, rfl⟩
end Va
end Go.Proofs.YtnnlgodgaolkkaaGreatDoor
