/- The law's own questions of TOML's keys, and 'lives' walked. -/
import Derived.Test.YtpdaelcoiilkkaaDoorTye
import Derived.BigQuiet
import Derived.Deep.CutRange
namespace Go.Proofs.YtpdaelcoiilkkaaDoor
open Go.RowKit
namespace Ty

theorem below_dn {B : Nat} {a w : World} (h : Below B a w) (k : Nat) : Below B a (w.drewN k) := ⟨h.os, h.tape, h.output, h.size, h.block⟩
/-- Words laid by a call, and a key's words: are they the same? -/
theorem same_yes {L : List Bs} {A B : Option Addr} {n c d : Nat} {w : World} (_hn : n = L.length) (hn6 : n ≤ 1000)
    (hA : ∀ k, k < n → ∃ b off, A = some ⟨b, off, none⟩ ∧ ∀ j, j < n → w.cell? ⟨b, off + j, none⟩ = some (.string (txt (L.getD j []))))
    (hB : ∀ k, k < n → ∃ b off, B = some ⟨b, off, none⟩ ∧ ∀ j, j < n → w.cell? ⟨b, off + j, none⟩ = some (.string (txt (L.getD j [])))) :
    Calls Tryd.prog 32 #[.slice A n c, .slice B n d] w fun e w' => e = .returned (.bool true) ∧ Below w.heap.size w w' := by
  have HA := Lib.hid hA
  have HB := Lib.hid hB
  clear hA hB _hn
  go_enter Tryd.func32, Tryd.ntmps32
  go_wp2_with fail
  go_loopw [5] (fun i wr => ∃ k : Nat, k ≤ n ∧ i = .int .i64 k ∧ Hid (Below w.heap.size w wr)) (fun i _ => n - (intOf i).toNat)
  case atStart => exact ⟨0, Nat.zero_le _, rfl, Lib.hid (Below.refl _ _)⟩
  case round =>
    obtain ⟨k, hk, rfl, HW⟩ := hrel
    by_cases hlt : k < n
    · obtain ⟨b, off, rfl, hb⟩ := HA.out k hlt
      obtain ⟨b2, off2, rfl, hb2⟩ := HB.out k hlt
      obtain ⟨x, hx⟩ : ∃ x, x = txt (L.getD k []) := ⟨_, rfl⟩
      have c1 := hb k hlt
      have c2 := hb2 k hlt
      rw [← hx] at c1 c2
      have d1 := (HW.out.cell (p := ⟨b, off + k, none⟩) (World.block_lt_of_cell? _ _ c1)).trans c1
      have d2 := (HW.out.cell (p := ⟨b2, off2 + k, none⟩) (World.block_lt_of_cell? _ _ c2)).trans c2
      have hq : (x.toList == x.toList) = true := by simp
      clear hb hb2 c1 c2 hx
      go_upto_region 6 with fail
      go_cut [25] from 11 to 25 (fun v wx => v = .bool false ∧ ∃ nq, wx = wr.drewN nq)
      case first =>
        go_quiet (fail)
        go_wp2_with fail
        go_meet
        exact ⟨rfl, _, rfl⟩
      case rest =>
        obtain ⟨rfl, nq, hwx⟩ := hcut
        have HN := Lib.hid (below_dn HW.out nq)
        rw [← hwx] at HN
        clear hwx d1 d2 hq
        go_wp2_with fail
        refine ⟨⟨k + 1, by omega, by go_num, HN⟩, ?_⟩
        simp [intOf] <;> omega
    · obtain rfl : k = n := by omega
      go_wp2_with fail
      go_ret
      exact ⟨rfl, HW.out⟩
end Ty
end Go.Proofs.YtpdaelcoiilkkaaDoor
