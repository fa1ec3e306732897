/- The chapter's examples of values, which each law asks, over what landed. -/
import Derived.Test.YtnnlgodgaolkkaaGreatDoorUim
import Derived.Test.YtnnlgodgaolkkaaGreatDoorHg
import Derived.Test.YtnnlgodgaolkkaaGreatDoorSum
import Derived.Test.YtnnlgodgaolkkaaGreatDoorHo
import Derived.Deep.RegionHeldLaw
namespace Go.Proofs.YtnnlgodgaolkkaaGreatDoor
open Go.RowKit
namespace Va
set_option maxRecDepth 100000

theorem sV_may : may sV = true := by decide +kernel
theorem sV_sz : sz sV = 5 := by decide +kernel
theorem sV_dp : dp sV = 2 := by decide +kernel
theorem sV_te : te sV = [123, 34, 97, 34, 58, 34, 120, 34, 44, 34, 98, 34, 58, 91, 49, 101, 48, 44, 110, 117, 108, 108, 93, 125] := by decide +kernel
theorem sV_wt : wt sV ≤ 1000000 := by decide +kernel
theorem sV_cmp : cI (may (.mk 0 [] [] [])) (may (.mk 1 [116, 114, 117, 101] [] [])) (oI (cmpV (can (.mk 0 [] [] [])) (can (.mk 1 [116, 114, 117, 101] [] [])))) = -1 := by decide +kernel
set_option maxHeartbeats 16000000 in
set_option maxRecDepth 100000 in
theorem lives_any {Lo : Nat} {Tb : World → Prop} {κ : V → Bs} (L : Ld Lo Tb κ) (w : World) (hT : Tb w) :
    Calls Tryz.prog 6 #[] w fun e w' => e = .returned (.bool true) ∧ Below w.heap.size w w' := by
  have CS := Lib.hid (small_any w)
  have HL := Lib.hid L
  have HT := Lib.hid hT
  clear L hT
  go_enter Tryz.func6, Tryz.ntmps6
  go_wp2_with fail
  refine CS.out.mono ?_
  rintro e w1 ⟨⟨u, rfl, hu⟩, hb1⟩
  obtain ⟨uk, ut, uA, uB, un, uc, um, ud, rfl⟩ := hu.shape
  go_upto_region 2 with fail
  obtain ⟨W1, hW1⟩ : ∃ W, W = w1.alloc (vO (.int .u8 uk) (.string ut) (.slice uA un uc) (.slice uB um ud)) := ⟨_, rfl⟩
  rw [← hW1]
  have hbw : Below w1.heap.size w1 W1 := by rw [hW1]; exact below_new ..
  have X := (show Bx W1 w1.heap.size (.int .u8 uk) (.string ut) (.slice uA un uc) (.slice uB um ud) from by rw [hW1]; exact Bx.new ..)
  obtain ⟨h, hh⟩ : ∃ h, h = w1.heap.size := ⟨_, rfl⟩
  rw [← hh] at X ⊢
  have HB1 := Lib.hid (below_tr hb1 hbw)
  have HV := Lib.hid (hu.vm.on hbw)
  have SS := Lib.hid (fun (X Y : World) (h1 : Below W1.heap.size W1 X ∧ X.cell? ⟨h, 0, none⟩ = some (.int .u8 uk) ∧ X.cell? ⟨h, 1, none⟩ = some (.string ut) ∧ X.cell? ⟨h, 2, none⟩ = some (.slice uA un uc) ∧ X.cell? ⟨h, 3, none⟩ = some (.slice uB um ud)) (h2 : Below X.heap.size X Y) =>
    show Below W1.heap.size W1 Y ∧ Y.cell? ⟨h, 0, none⟩ = some (.int .u8 uk) ∧ Y.cell? ⟨h, 1, none⟩ = some (.string ut) ∧ Y.cell? ⟨h, 2, none⟩ = some (.slice uA un uc) ∧ Y.cell? ⟨h, 3, none⟩ = some (.slice uB um ud) from
      have hlt : h < X.heap.size := World.block_lt_of_cell? X ⟨h, 0, none⟩ h1.2.1
      ⟨below_tr h1.1 h2, cell_old h2 hlt h1.2.1, cell_old h2 hlt h1.2.2.1, cell_old h2 hlt h1.2.2.2.1, cell_old h2 hlt h1.2.2.2.2⟩)
  have S0 := Lib.hid (show Below W1.heap.size W1 W1.drew ∧ W1.drew.cell? ⟨h, 0, none⟩ = some (.int .u8 uk) ∧ W1.drew.cell? ⟨h, 1, none⟩ = some (.string ut) ∧ W1.drew.cell? ⟨h, 2, none⟩ = some (.slice uA un uc) ∧ W1.drew.cell? ⟨h, 3, none⟩ = some (.slice uB um ud) from ⟨(Below.refl _ _).drew, X.c0, X.c1, X.c2, X.c3⟩)
  obtain ⟨x0, x1, x2, x3⟩ : W1.cell? ⟨h, 0, none⟩ = some (.int .u8 uk) ∧ W1.cell? ⟨h, 1, none⟩ = some (.string ut) ∧ W1.cell? ⟨h, 2, none⟩ = some (.slice uA un uc) ∧ W1.cell? ⟨h, 3, none⟩ = some (.slice uB um ud) := ⟨X.c0, X.c1, X.c2, X.c3⟩
  have CM := Lib.hid (fun (X : World) (hb : Below W1.heap.size W1 X) => by have := HL.out.may X (HL.out.up HT.out (below_tr HB1.out hb)) (HV.out.on hb) sV_wt; rw [sV_may] at this; exact this)
  have CZ := Lib.hid (fun (X : World) (hb : Below W1.heap.size W1 X) => by have := HL.out.size X (HL.out.up HT.out (below_tr HB1.out hb)) (HV.out.on hb) sV_wt; rw [sV_may, sV_sz] at this; exact this)
  have CD := Lib.hid (fun (X : World) (hb : Below W1.heap.size W1 X) => by have := HL.out.deep X (HL.out.up HT.out (below_tr HB1.out hb)) (HV.out.on hb) sV_wt; rw [sV_may, sV_dp] at this; exact this)
  have CT := Lib.hid (fun (X : World) (hb : Below W1.heap.size W1 X) => by have := HL.out.text X (HL.out.up HT.out (below_tr HB1.out hb)) (HV.out.on hb) sV_wt; rw [teM, if_pos sV_may, sV_te, show txt [123, 34, 97, 34, 58, 34, 120, 34, 44, 34, 98, 34, 58, 91, 49, 101, 48, 44, 110, 117, 108, 108, 93, 125] = (⟨#[123, 34, 97, 34, 58, 34, 120, 34, 44, 34, 98, 34, 58, 91, 49, 101, 48, 44, 110, 117, 108, 108, 93, 125]⟩ : ByteArray) from rfl] at this; exact this)
  have CU := Lib.hid (fun (X : World) (hb : Below W1.heap.size W1 X) => turned_any 0 (by omega) 1000000 sV sV_wt (by omega) sV_may X _ 0 rfl (HV.out.on hb))
  have CE := Lib.hid (fun (X : World) (u2 : Value) (hb : Below W1.heap.size W1 X) (hu2 : Vm X u2 (trn 0 sV)) => by
    have t := trn_ok 0 (may_pl sV_may)
    have := HL.out.same X (HL.out.up HT.out (below_tr HB1.out hb)) (HV.out.on hb) hu2 sV_wt (by rw [t.2.2.2.1]; exact sV_wt)
    rw [sV_may, trn_may sV_may, sm_sym t.1 (may_pl sV_may) t.2.2.2.2] at this; exact this)
  have CC := Lib.hid (fun (X : World) (hb : Below W1.heap.size W1 X) => by
    have := HL.out.cmp (x := .mk 0 [] [] []) (y := .mk 1 [116, 114, 117, 101] [] []) X (HL.out.up HT.out (below_tr HB1.out hb)) (leaf_vk X (fun _ => True) (k := 0) (t := []) (s := ⟨#[]⟩) (by omega) rfl (z := 0) rfl) (leaf_vk X (fun _ => True) (k := 1) (t := [116, 114, 117, 101]) (s := ⟨#[116, 114, 117, 101]⟩) (by omega) rfl (z := 1) rfl) (by decide +kernel) (by decide +kernel)
    rw [sV_cmp] at this; exact this)
  clear hW1 hbw hb1 hu X hh
  go_region_held_law (fun X => Below W1.heap.size W1 X ∧ X.cell? ⟨h, 0, none⟩ = some (.int .u8 uk) ∧ X.cell? ⟨h, 1, none⟩ = some (.string ut) ∧ X.cell? ⟨h, 2, none⟩ = some (.slice uA un uc) ∧ X.cell? ⟨h, 3, none⟩ = some (.slice uB um ud))
    (first | exact S0.out | exact SS.out _ _ (by assumption) (by assumption))
    (first
      | (go_simp; go_at_call 8; refine (CM.out _ (And.left (by assumption))).mono ?_; rintro e w3 ⟨rfl, hb⟩)
      | (go_simp; go_at_call 14; refine (CZ.out _ (And.left (by assumption))).mono ?_; rintro e w3 ⟨rfl, hb⟩)
      | (go_simp; go_at_call 16; refine (CD.out _ (And.left (by assumption))).mono ?_; rintro e w3 ⟨rfl, hb⟩)
      | (go_simp; go_at_call 18; refine (CT.out _ (And.left (by assumption))).mono ?_; rintro e w3 ⟨rfl, hb⟩)
      | (go_simp; go_at_call 28; refine (CU.out _ (And.left (by assumption))).mono ?_; rintro e w3 ⟨⟨u2, rfl, hu2⟩, hb⟩; obtain ⟨uk2, ut2, uA2, uB2, un2, uc2, um2, ud2, rfl⟩ := hu2.shape; have HU2 := Lib.hid hu2.vm; clear hu2)
      | (go_simp; go_at_call 10; refine (CE.out _ _ (And.left (by assumption)) HU2.out).mono ?_; rintro e w3 ⟨rfl, hb⟩)
      | (go_simp; go_at_call 12; refine (CC.out _ (And.left (by assumption))).mono ?_; rintro e w3 ⟨rfl, hb⟩))
  go_wp2_with fail
  go_ret
  exact ⟨rfl, below_tr HB1.out (And.left (by assumption))⟩
end Va
end Go.Proofs.YtnnlgodgaolkkaaGreatDoor
