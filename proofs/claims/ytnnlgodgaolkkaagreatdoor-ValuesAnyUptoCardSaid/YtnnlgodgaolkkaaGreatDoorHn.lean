/- What landed of values does as the laws ask it. -/
import Derived.Test.YtnnlgodgaolkkaaGreatDoorVfm
import Derived.Test.YtnnlgodgaolkkaaGreatDoorHm
import Derived.Test.YtnnlgodgaolkkaaGreatDoorHp
import Derived.Test.YtnnlgodgaolkkaaGreatDoorMgm
import Derived.Test.YtnnlgodgaolkkaaGreatDoorHr
import Derived.Test.YtnnlgodgaolkkaaGreatDoorUim
import Derived.Test.YtnnlgodgaolkkaaGreatDoorUjm
import Derived.Test.YtnnlgodgaolkkaaGreatDoorUnm
import Derived.Test.YtnnlgodgaolkkaaGreatDoorHh
namespace Go.Proofs.YtnnlgodgaolkkaaGreatDoor
open Go.RowKit
namespace Va
set_option maxRecDepth 100000

theorem tabV_le {w : World} (h : TabV w) : loV ≤ w.heap.size := Nat.max_lt.2 ⟨h.2.1, h.2.2.2⟩
theorem ltextT_any {x : V} {v : Value} (w : World) (hT : TabV w) (hv : Vm w v x) (hx : wt x ≤ 1000000) : Calls Tryz.prog 18 #[v] w fun e w' => e = .returned (.string (txt (teM x))) ∧ Below w.heap.size w w' := by
  have h := ltext_any w hv ⟨hT.1, hT.2.1⟩ hx (fun hp => by rw [teW_te]; have := te_len hp; omega)
  rw [teW_te] at h
  exact h
theorem tabV_tbn {w : World} (h : TabV w) : TBN w.heap.size w := ⟨⟨h.1, h.2.1, Nat.le_refl _⟩, h.2.2.1, h.2.2.2⟩
theorem lkeyT_any {x : V} {v : Value} (w : World) (hT : TabV w) (hv : Vm w v x) (hx : wt x ≤ 1000000) : Calls Tryz.prog 20 #[v] w fun e w' => e = .returned (.string (txt (kap x))) ∧ Below w.heap.size w w' :=
  lkey_any w hv (tabV_tbn hT) hx (fun hp => by have := naW_len hp; omega)
theorem ld : Ld loV TabV kap where
  on := TabV.on
  lo := tabV_le
  may := fun w _ hv hx => lmay_any w hv hx
  same := fun w _ hv hu hx hy => lsame_any w hv hu hx hy
  cmp := fun w _ hv hu hx hy => lcmp_any w hv hu hx hy
  size := fun w _ hv hx => lsize_any w hv hx
  deep := fun w _ hv hx => ldeep_any w hv hx
  text := ltextT_any
  key := lkeyT_any
  get := fun w _ hv hx hs => lget_any w hv hx hs
  kno := kap_no
  kyes := kap_yes
  kone := kap_one
end Va
end Go.Proofs.YtnnlgodgaolkkaaGreatDoor
/- The laws of values, as their rows ask them. -/
namespace Go.Proofs.YtnnlgodgaolkkaaGreatDoor
open Go.RowKit
namespace Va
set_option maxRecDepth 100000

theorem orderU_any {w : World} {x y z : V} {v u s : Value} (hv : Vm w v x) (hx : wt x ≤ 1048576) (hu : Vm w u y) (hy : wt y ≤ 1048576) (hs : Vm w s z) (hz : wt z ≤ 1048576) (_w : World) (hT : TabV w) :
    Calls Tryz.prog 4 #[v, u, s] w fun e w' => e = .returned (.bool true) ∧ Below w.heap.size w w' := orderL_any ld w hT hv hu hs hx hy hz
theorem anyU_any {w : World} {x y : V} {v u : Value} (hv : Vm w v x) (hx : wt x ≤ 1048576) (hu : Vm w u y) (hy : wt y ≤ 1048576) (Y : ByteArray) (hY : Y.size ≤ 1048576) (_w : World) (hT : TabV w) :
    Calls Tryz.prog 3 #[v, u, .string Y] w fun e w' => e = .returned (.bool true) ∧ Below w.heap.size w w' := anyL_any ld w hT hv hu hx hy (as_txt Y) hY
end Va
end Go.Proofs.YtnnlgodgaolkkaaGreatDoor
