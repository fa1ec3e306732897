/- What landed of values: inarch/values.Key. -/
import Derived.Test.YtnnlgodgaolkkaaGreatDoorHm
import Derived.Test.YtnnlgodgaolkkaaGreatDoorMfm
namespace Go.Proofs.YtnnlgodgaolkkaaGreatDoor
open Go.RowKit
namespace Va
set_option maxRecDepth 100000

set_option maxHeartbeats 4000000 in
theorem wtlkey_any {x : V} {v : Value} (w : World) (hv : Vm w v x) (hT : TBN w.heap.size w) (hx : wt x ≤ 1000000) (hp : pl x = true) (hl : (teW naF x).length ≤ 800000000) :
    Calls Tryz.prog 40 #[.func (.func 42) #[] #[], v] w fun e w' => e = .returned (.string (txt (teW naF x))) ∧ Below w.heap.size w w' := by
  have CP := Lib.hid (fun (w' : World) (hb : Below w.heap.size w w') => by
    have h1 := hT.up hb
    have := putN_any 1000000 x hx (Nat.le_refl _) hp w'.heap.size w' (.slice none 0 0) v [] (Vk.to (hv.on hb) (fun g hg _ => hg)) (BW.nil w') h1 (by simp; omega)
    rw [List.nil_append] at this
    exact this)
  obtain ⟨Y, hY⟩ : ∃ Y, Y = teW naF x := ⟨_, rfl⟩
  rw [← hY] at CP ⊢
  obtain ⟨k, t, l, ks⟩ := x
  obtain ⟨A, B, c, d, rfl, _⟩ := hv.inv
  obtain ⟨T, hT'⟩ : ∃ T, T = txt t := ⟨_, rfl⟩
  rw [← hT'] at CP ⊢
  clear hv hT' hx hY hT hp hl
  go_enter Tryz.func40, Tryz.ntmps40
  go_wp2_with fail
  refine (CP.out _ (below_new ..)).mono ?_
  rintro e w2 ⟨b, rfl, h1, h2⟩
  have HB := Lib.hid (below_tr (below_new ..) ((BW.nil _).below h2))
  obtain ⟨A9, c9, rfl, o1, o2, o3, o4, o5⟩ := own_form h1.1
  have hcv := conv_bytes (w := w2) Y.length c9 rfl o4
  clear h1 h2 o1 o2 o3 o4 o5
  go_wp2_with fail
  go_ret
  exact ⟨by first | rfl | trivial, HB.out⟩
set_option maxHeartbeats 4000000 in
theorem asklkey_any {x : V} {v : Value} {Y : Bs} (w : World) (hv : Vm w v x) (hx : wt x ≤ 1000000)
    (C : ∀ w' : World, Below w.heap.size w w' → may x = true → Calls Tryz.prog 40 #[.func (.func 42) #[] #[], v] w' fun e w'' => e = .returned (.string (txt Y)) ∧ Below w'.heap.size w' w'') :
    Calls Tryz.prog 38 #[v, .func (.func 40) #[.func (.func 42) #[] #[]] #[]] w fun e w' => e = .returned (.string (txt (if may x = true then Y else []))) ∧ Below w.heap.size w w' := by
  have CM := Lib.hid (fun (w' : World) (hb : Below w.heap.size w w') => lmay_any w' (hv.on hb) hx)
  have HC := Lib.hid C
  obtain ⟨p, HP⟩ : ∃ p, Hid (p = may x) := ⟨_, Lib.hid rfl⟩
  rw [← HP.out] at CM HC ⊢
  obtain ⟨k, t, l, ks⟩ := x
  obtain ⟨A, B, c, d, rfl, _⟩ := hv.inv
  obtain ⟨T, hT⟩ : ∃ T, T = txt t := ⟨_, rfl⟩
  obtain ⟨n, hn⟩ : ∃ n, n = l.length := ⟨_, rfl⟩
  obtain ⟨m, hm⟩ : ∃ n, n = ks.length := ⟨_, rfl⟩
  rw [← hT, ← hn, ← hm] at CM HC ⊢
  clear hv hT hn hm hx HP C
  obtain ⟨W1, hW1⟩ : ∃ W, W = w.alloc (vO (.int .u8 k) (.string T) (.slice A n c) (.slice B m d)) := ⟨_, rfl⟩
  have hb1 : Below w.heap.size w W1 := by rw [hW1]; exact below_new ..
  have HX := Lib.hid (show Bx W1 w.heap.size (.int .u8 k) (.string T) (.slice A n c) (.slice B m d) from by rw [hW1]; exact Bx.new ..)
  have HB1 := Lib.hid hb1
  have HW1 := Lib.hid hW1
  clear hb1 hW1
  go_enter Tryz.func38, Tryz.ntmps38
  go_upto_region 1 with fail
  rw [← HW1.out]
  obtain ⟨h, hh⟩ : ∃ h, h = w.heap.size := ⟨_, rfl⟩
  rw [← hh] at HX ⊢
  clear HW1 hh
  obtain ⟨x0, x1, x2, x3⟩ : W1.cell? ⟨h, 0, none⟩ = some (.int .u8 k) ∧ W1.cell? ⟨h, 1, none⟩ = some (.string T) ∧ W1.cell? ⟨h, 2, none⟩ = some (.slice A n c) ∧ W1.cell? ⟨h, 3, none⟩ = some (.slice B m d) := ⟨HX.out.c0, HX.out.c1, HX.out.c2, HX.out.c3⟩
  go_wp2_with fail
  refine (CM.out _ HB1.out).mono ?_
  rintro e w3 ⟨rfl, hb⟩
  have HB3 := Lib.hid (below_tr HB1.out hb)
  have HX3 := Lib.hid (HX.out.on hb)
  clear hb x0 x1 x2 x3
  cases p with
  | false =>
    clear HC
    go_wp2_with fail
    go_ret
    exact ⟨by first | rfl | trivial, HB3.out⟩
  | true =>
    have HC3 := Lib.hid (HC.out w3 HB3.out (by first | rfl | trivial))
    obtain ⟨x0, x1, x2, x3⟩ : w3.cell? ⟨h, 0, none⟩ = some (.int .u8 k) ∧ w3.cell? ⟨h, 1, none⟩ = some (.string T) ∧ w3.cell? ⟨h, 2, none⟩ = some (.slice A n c) ∧ w3.cell? ⟨h, 3, none⟩ = some (.slice B m d) := ⟨HX3.out.c0, HX3.out.c1, HX3.out.c2, HX3.out.c3⟩
    clear HC
    go_wp2_with fail
    refine HC3.out.mono ?_
    rintro e w4 ⟨rfl, hb⟩
    have HB4 := Lib.hid (below_tr HB3.out hb)
    clear hb x0 x1 x2 x3
    go_wp2_with fail
    go_ret
    exact ⟨by first | rfl | trivial, HB4.out⟩
set_option maxHeartbeats 4000000 in
theorem lkey_any {x : V} {v : Value} (w : World) (hv : Vm w v x) (hT : TBN w.heap.size w) (hx : wt x ≤ 1000000) (hl : pl x = true → (teW naF x).length ≤ 800000000) :
    Calls Tryz.prog 20 #[v] w fun e w' => e = .returned (.string (txt (if may x = true then teW naF x else []))) ∧ Below w.heap.size w w' := by
  have CA := Lib.hid (fun (w' : World) (hb : Below w.heap.size w w') => asklkey_any (Y := teW naF x) w' (hv.on hb) hx (fun w2 hb2 hm => by
    have hp : pl x = true := by unfold may at hm; rw [Bool.and_eq_true] at hm; exact hm.2
    exact wtlkey_any w2 ((hv.on hb).on hb2) ((hT.up hb).up hb2) hx hp (hl hp)))
  obtain ⟨R, hR⟩ : ∃ R, R = txt (if may x = true then teW naF x else []) := ⟨_, rfl⟩
  rw [← hR] at CA ⊢
  obtain ⟨k, t, l, ks⟩ := x
  obtain ⟨A, B, c, d, rfl, _⟩ := hv.inv
  obtain ⟨T, hT'⟩ : ∃ T, T = txt t := ⟨_, rfl⟩
  rw [← hT'] at CA ⊢
  clear hv hT' hx hR hT hl
  go_enter Tryz.func20, Tryz.ntmps20
  go_wp2_with fail
  refine (CA.out _ (below_new ..)).mono ?_
  rintro e w2 ⟨rfl, hb⟩
  have HB := Lib.hid (below_tr (below_new ..) hb)
  clear hb
  go_wp2_with fail
  go_ret
  exact ⟨by first | rfl | trivial, HB.out⟩
end Va
end Go.Proofs.YtnnlgodgaolkkaaGreatDoor
