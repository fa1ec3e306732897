/- What landed of values does as the laws ask it. -/
import Derived.Test.YtnnlgodgaolkkaaDoorVfm
import Derived.Test.YtnnlgodgaolkkaaDoorHm
import Derived.Test.YtnnlgodgaolkkaaDoorHp
import Derived.Test.YtnnlgodgaolkkaaDoorUim
import Derived.Test.YtnnlgodgaolkkaaDoorUkm
import Derived.Test.YtnnlgodgaolkkaaDoorUlm
import Derived.Test.YtnnlgodgaolkkaaDoorHh
namespace Go.Proofs.YtnnlgodgaolkkaaDoor
open Go.RowKit
namespace Va
set_option maxRecDepth 100000

theorem tabV_le {w : World} (h : TabV w) : 1 + 1 ≤ w.heap.size := h.2
theorem ltextT_any {x : V} {v : Value} (w : World) (hT : TabV w) (hv : Vm w v x) (hx : wt x ≤ 1000000) : Calls Tryd.prog 11 #[v] w fun e w' => e = .returned (.string (txt (teM x))) ∧ Below w.heap.size w w' := by
  have h := ltext_any w hv hT hx (fun hp => by rw [teW_te]; have := te_len hp; omega)
  rw [teW_te] at h
  exact h
theorem ld : Ld (1 + 1) TabV (fun _ => []) where
  on := TabV.on
  lo := tabV_le
  may := fun w _ hv hx => lmay_any w hv hx
  same := fun w _ hv hu hx hy => lsame_any w hv hu hx hy
  cmp := fun w _ hv hu hx hy => lcmp_any w hv hu hx hy
  size := fun w _ hv hx => lsize_any w hv hx
  deep := fun w _ hv hx => ldeep_any w hv hx
  text := ltextT_any
  get := fun w _ hv hx hs => lget_any w hv hx hs
end Va
end Go.Proofs.YtnnlgodgaolkkaaDoor
/- The laws of values, as their rows ask them. -/
namespace Go.Proofs.YtnnlgodgaolkkaaDoor
open Go.RowKit
namespace Va
set_option maxRecDepth 100000

theorem turnedU_any {w : World} {x : V} {v : Value} {b a : Int} (hv : Vm w v x) (hx : wt x ≤ 1048576) (b0 : 0 ≤ b) (b1 : b ≤ 255) (a0 : 0 ≤ a) (a1 : a ≤ 65535) (_w : World) (hT : TabV w) :
    Calls Tryd.prog 3 #[v, .int .u8 b, .int .u16 a] w fun e w' => e = .returned (.bool true) ∧ Below w.heap.size w w' := by
  obtain ⟨b, rfl⟩ := Int.eq_ofNat_of_zero_le b0
  obtain ⟨a, rfl⟩ := Int.eq_ofNat_of_zero_le a0
  exact turnedL_any ld w hT hv hx b a (by omega) (by omega)
theorem partsU_any {w : World} {x y : V} {v u : Value} (hv : Vm w v x) (hx : wt x ≤ 1048576) (hu : Vm w u y) (hy : wt y ≤ 1048576) (_w : World) (hT : TabV w) :
    Calls Tryd.prog 4 #[v, u] w fun e w' => e = .returned (.bool true) ∧ Below w.heap.size w w' := partsL_any ld w hT hv hu hx hy
end Va
end Go.Proofs.YtnnlgodgaolkkaaDoor
