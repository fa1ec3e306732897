/- The chapter's examples, which each law asks: they come out true. -/
import Derived.Test.YtfnahondlcbjnaaVc
import Derived.Test.YtfnahondlcbjnaaUf
import Derived.Lib.SlBytesConst
namespace Go.Proofs.Ytfnahondlcbjnaa
open Go.RowKit
namespace Jk

theorem byt_new {w : World} (g : Nat) (l : List UInt8) (cs : Array Value) (fz : Nat × Nat) (hg : g = w.heap.size) (h : cs.toList = l.map (fun c => Value.int .u8 (c.toNat : Int))) : Byt (w.alloc (.cells cs 5 fz)) (w.heap.size + 1) (some ⟨g, 0, none⟩) l := fun _ =>
  ⟨g, 0, rfl, by omega, fun k hk => by
    subst hg
    have e : (w.alloc (.cells cs 5 fz)).cell? ⟨w.heap.size, 0 + k, none⟩ = cs[0 + k]? := cell_of_row _ _ _ cs 5 fz (heap_alloc_new w _)
    rw [e, ← Array.getElem?_toList, h, Nat.zero_add]
    simp [hk, bt]⟩
theorem alloc_size (w : World) (o : Obj) : (w.alloc o).heap.size = w.heap.size + 1 := by show (w.heap.push o).size = _; simp
abbrev TyL : TypeId := 36
theorem lit_read {L : List UInt8} {ts : List Tok} {en : Option Nat} {cc aa : Int} (g n N : Nat) (cs : Array Value) (fz : Nat × Nat) {W : World} (hT : tks L 0 = (ts, en)) (hf : ftV en = fvV cc aa) (hg : g = W.heap.size) (hn : n = L.length) (h6 : n ≤ 1000) (hN : N = ts.length) (hcs : cs.toList = L.map (fun c => Value.int .u8 (c.toNat : Int))) :
    Calls Try.prog 8 #[.slice (some ⟨g, 0, none⟩) n n] (W.alloc (.cells cs 5 fz)) fun e w' => ∃ A c, e = .returned (.tuple #[.slice A N c, fvV cc aa]) ∧ N ≤ c ∧ c ≤ maxLen ∧ TkR w' (W.heap.size + 1) .u8 TyL A N ts ∧ Below W.heap.size W w' := by
  have hB := byt_new g L cs fz hg hcs
  refine (lread_is (A := some ⟨g, 0, none⟩) n n (W.alloc (.cells cs 5 fz)) forms_ok hn (Nat.le_refl _) (by unfold maxLen; omega) hB (by rw [alloc_size]; exact Nat.le_refl _) (by omega)).mono ?_
  rintro e w' ⟨A, M, c, he, hMc, hcm, hk, hb⟩
  rw [hT] at he hk
  rw [hf] at he
  obtain rfl : M = N := by rw [hN]; exact hk.1
  refine ⟨A, c, he, hMc, hcm, hk.low (by rw [alloc_size]; exact Nat.le_refl _), ?_⟩
  exact ((Below.refl _ _).alloc (Nat.le_refl _) _).trans (hb.mono (by rw [alloc_size]; omega))
theorem ex0 : tks [91, 49, 44, 32, 34, 97, 34, 93] 0 = ([(1, 0, 1), (3, 1, 2), (1, 2, 3), (0, 3, 4), (4, 4, 7), (1, 7, 8)], none) := by decide +kernel
theorem ex1 : tks [45] 0 = ([], (some 1)) := by decide +kernel
theorem ex2 : tks [48, 49] 0 = ([(3, 0, 1), (3, 1, 2)], none) := by decide +kernel
theorem ex3 : tks [34, 92, 120, 34] 0 = ([], (some 2)) := by decide +kernel
theorem ex4 : tks [49, 46, 101] 0 = ([(3, 0, 1)], (some 1)) := by decide +kernel
set_option maxHeartbeats 8000000 in
set_option maxRecDepth 100000 in
theorem lives_any (w : World) : Calls Try.prog 6 #[] w fun e w' => e = .returned (.bool true) ∧ Below w.heap.size w w' := by
  have HB0 := Lib.hid (Below.refl w.heap.size w)
  have kc := fun (w : World) (C : Array Value) (n c : Nat) => Lib.run_convert_bytes_const (P := Try.prog) w 22 5 C n c Try.underlying22 Try.underlying5
  go_enter Try.func6, Try.ntmps6
  go_wp2_with fail
  refine (lit_read (W := w) _ 8 6 _ _ ex0 (cc := 0) (aa := 0) rfl rfl rfl (by decide) rfl rfl).mono ?_
  rintro e w0 ⟨A0, c0, rfl, hNc0, hcm0, hk0, hb0⟩
  have HU0 := Lib.hid hb0
  have HK0 := Lib.hid hk0
  clear hb0 hk0 hNc0 hcm0
  go_upto_region 2 with fail
  have HF0 := Lib.hid (FB.start (w := w0) (c := 0) (a := 0))
  have HV0 := Lib.hid ((HU0.out).alloc HU0.out.size (fvO 0 0))
  obtain ⟨V0, hV0⟩ : ∃ V, V = w0.alloc (fvO 0 0) := ⟨_, rfl⟩
  have HA0 := Lib.hid ((Below.refl w0.heap.size w0).alloc (Nat.le_refl _) (fvO 0 0))
  rw [← hV0] at HF0 HV0 HA0 ⊢
  clear hV0
  go_wp2_with fail
  refine (lit_read (W := V0) _ 1 0 _ _ ex1 (cc := 3) (aa := 1) rfl rfl rfl (by decide) rfl rfl).mono ?_
  rintro e w1 ⟨A1, c1, rfl, hNc1, hcm1, hk1, hb1⟩
  have HU1 := Lib.hid hb1
  have HK1 := Lib.hid hk1
  clear hb1 hk1 hNc1 hcm1
  go_upto_region 3 with fail
  have HF1 := Lib.hid (FB.start (w := w1) (c := 3) (a := 1))
  have HV1 := Lib.hid ((HU1.out).alloc HU1.out.size (fvO 3 1))
  obtain ⟨V1, hV1⟩ : ∃ V, V = w1.alloc (fvO 3 1) := ⟨_, rfl⟩
  have HA1 := Lib.hid ((Below.refl w1.heap.size w1).alloc (Nat.le_refl _) (fvO 3 1))
  rw [← hV1] at HF1 HV1 HA1 ⊢
  clear hV1
  go_wp2_with fail
  refine (lit_read (W := V1) _ 2 2 _ _ ex2 (cc := 0) (aa := 0) rfl rfl rfl (by decide) rfl rfl).mono ?_
  rintro e w2 ⟨A2, c2, rfl, hNc2, hcm2, hk2, hb2⟩
  have HU2 := Lib.hid hb2
  have HK2 := Lib.hid hk2
  clear hb2 hk2 hNc2 hcm2
  go_upto_region 4 with fail
  have HF2 := Lib.hid (FB.start (w := w2) (c := 0) (a := 0))
  have HV2 := Lib.hid ((HU2.out).alloc HU2.out.size (fvO 0 0))
  obtain ⟨V2, hV2⟩ : ∃ V, V = w2.alloc (fvO 0 0) := ⟨_, rfl⟩
  have HA2 := Lib.hid ((Below.refl w2.heap.size w2).alloc (Nat.le_refl _) (fvO 0 0))
  rw [← hV2] at HF2 HV2 HA2 ⊢
  clear hV2
  go_wp2_with fail
  refine (lit_read (W := V2) _ 4 0 _ _ ex3 (cc := 3) (aa := 2) rfl rfl rfl (by decide) rfl rfl).mono ?_
  rintro e w3 ⟨A3, c3, rfl, hNc3, hcm3, hk3, hb3⟩
  have HU3 := Lib.hid hb3
  have HK3 := Lib.hid hk3
  clear hb3 hk3 hNc3 hcm3
  go_upto_region 5 with fail
  have HF3 := Lib.hid (FB.start (w := w3) (c := 3) (a := 2))
  have HV3 := Lib.hid ((HU3.out).alloc HU3.out.size (fvO 3 2))
  obtain ⟨V3, hV3⟩ : ∃ V, V = w3.alloc (fvO 3 2) := ⟨_, rfl⟩
  have HA3 := Lib.hid ((Below.refl w3.heap.size w3).alloc (Nat.le_refl _) (fvO 3 2))
  rw [← hV3] at HF3 HV3 HA3 ⊢
  clear hV3
  go_wp2_with fail
  refine (lit_read (W := V3) _ 3 1 _ _ ex4 (cc := 3) (aa := 1) rfl rfl rfl (by decide) rfl rfl).mono ?_
  rintro e w4 ⟨A4, c4, rfl, hNc4, hcm4, hk4, hb4⟩
  have HU4 := Lib.hid hb4
  have HK4 := Lib.hid hk4
  clear hb4 hk4 hNc4 hcm4
  go_upto_region 6 with fail
  have HF4 := Lib.hid (FB.start (w := w4) (c := 3) (a := 1))
  have HV4 := Lib.hid ((HU4.out).alloc HU4.out.size (fvO 3 1))
  obtain ⟨V4, hV4⟩ : ∃ V, V = w4.alloc (fvO 3 1) := ⟨_, rfl⟩
  have HA4 := Lib.hid ((Below.refl w4.heap.size w4).alloc (Nat.le_refl _) (fvO 3 1))
  rw [← hV4] at HF4 HV4 HA4 ⊢
  clear hV4
  obtain ⟨⟨x0, y0⟩, _, _⟩ := (((((HF0.out.on HV1.out).on HV2.out).on HV3.out).on HV4.out) : FB w0 V4 _ _).cells
  obtain ⟨⟨x1, y1⟩, _, _⟩ := ((((HF1.out.on HV2.out).on HV3.out).on HV4.out) : FB w1 V4 _ _).cells
  obtain ⟨⟨x2, y2⟩, _, _⟩ := (((HF2.out.on HV3.out).on HV4.out) : FB w2 V4 _ _).cells
  obtain ⟨⟨x3, y3⟩, _, _⟩ := ((HF3.out.on HV4.out) : FB w3 V4 _ _).cells
  obtain ⟨⟨x4, y4⟩, _, _⟩ := (HF4.out : FB w4 V4 _ _).cells
  have T0 : TkR V0 (w.heap.size + 1) .u8 TyL A0 6 _ := HK0.out.below HA0.out (Nat.le_refl _)
  have T1 : TkR V1 (w.heap.size + 1) .u8 TyL A0 6 _ := T0.below HV1.out (Nat.le_refl _)
  have T2 : TkR V2 (w.heap.size + 1) .u8 TyL A0 6 _ := T1.below HV2.out (Nat.le_refl _)
  have T3 : TkR V3 (w.heap.size + 1) .u8 TyL A0 6 _ := T2.below HV3.out (Nat.le_refl _)
  have T4 : TkR V4 (w.heap.size + 1) .u8 TyL A0 6 _ := T3.below HV4.out (Nat.le_refl _)
  obtain ⟨g, rfl, _, hc⟩ := T4.at_ (by decide)
  obtain ⟨k1, k2, k3⟩ := hc 1 _ rfl
  obtain ⟨k4, k5, k6⟩ := hc 4 _ rfl
  obtain ⟨k7, _, _⟩ := hc 3 _ rfl
  simp only [Nat.reduceMul, Nat.reduceAdd] at k1 k2 k3 k4 k5 k6 k7
  have HB := Lib.hid (show Below w.heap.size w V4 from ((((HV0.out.trans (HV1.out.mono (HV0.out).size)).trans (HV2.out.mono ((HV0.out.trans (HV1.out.mono (HV0.out).size))).size)).trans (HV3.out.mono (((HV0.out.trans (HV1.out.mono (HV0.out).size)).trans (HV2.out.mono ((HV0.out.trans (HV1.out.mono (HV0.out).size))).size))).size)).trans (HV4.out.mono ((((HV0.out.trans (HV1.out.mono (HV0.out).size)).trans (HV2.out.mono ((HV0.out.trans (HV1.out.mono (HV0.out).size))).size)).trans (HV3.out.mono (((HV0.out.trans (HV1.out.mono (HV0.out).size)).trans (HV2.out.mono ((HV0.out.trans (HV1.out.mono (HV0.out).size))).size))).size))).size)))
  clear hc T0 T1 T2 T3 T4 HK0 HK1 HK2 HK3 HK4 HF0 HF1 HF2 HF3 HF4 HV0 HV1 HV2 HV3 HV4 HU0 HU1 HU2 HU3 HU4 HA0 HA1 HA2 HA3 HA4
  go_wp2_with fail
  go_ret
  exact ⟨rfl, HB.out⟩
end Jk
end Go.Proofs.Ytfnahondlcbjnaa
