/- The law of parsing, walked: what landed answers as the document's parser does. -/
import Derived.Test.YtdclhepjoifpiaaGreatDoorMim
import Derived.Test.YtdclhepjoifpiaaGreatDoorBu
import Derived.Test.YtdclhepjoifpiaaGreatDoorKrm
import Derived.Test.YtdclhepjoifpiaaGreatDoorBp
import Derived.Test.YtdclhepjoifpiaaGreatDoorBs
namespace Go.Proofs.YtdclhepjoifpiaaGreatDoor
open Go.RowKit
namespace Jt
namespace R9
open Jk (lt_blk below_tr fvO ArgB)

set_option maxRecDepth 100000 in
theorem parse_long {A : Option Addr} {n c : Nat} {w : World} (hT : Tabs0 w) (h : 5000 < n) (hc : n ≤ 9223372036854775807) :
    Calls Tryz.prog 3 #[.slice A n c] w fun e w' => e = .returned (.bool true) ∧ Below w.heap.size w w' := by
  have h' : (5000 : Int) < n := by omega
  have HT := Lib.hid hT
  clear hT
  go_enter Tryz.func3, Tryz.ntmps3
  go_wp2_with (go_at_call 7; refine (lives_any HT.out).mono ?_; rintro e w' ⟨rfl, hb⟩)
  go_ret
  exact ⟨rfl, hb⟩
set_option maxRecDepth 100000 in
theorem spoil_nil (w : World) : Calls Tryz.prog 13 #[.agg #[.slice none 0 0, .int .i64 0]] w fun e w' => e = .returned (.tuple #[]) ∧ Below w.heap.size w w' := by
  obtain ⟨W, hW⟩ : ∃ W, W = w.alloc (trA (.slice none 0 0) 0) := ⟨_, rfl⟩
  have hbW : Below w.heap.size w W := by rw [hW]; exact (Below.refl _ _).alloc (Nat.le_refl _) _
  have t0 : W.cell? ⟨w.heap.size, 0, none⟩ = some (.slice none 0 0) := by rw [hW, World.cell?_alloc_at _ _ _ _ rfl]; rfl
  have HBW := Lib.hid hbW
  clear hbW
  go_enter Tryz.func13, Tryz.ntmps13
  go_upto_region 1 with fail
  rw [← hW]
  clear hW
  go_wp2_with fail
  clear t0
  go_loopw [3] (fun s wr => s = .int .i64 0 ∧ Hid (wr = W)) (fun _ _ => 0)
  case atStart => exact ⟨rfl, Lib.hid rfl⟩
  case round =>
    obtain ⟨rfl, hw⟩ := hrel
    obtain rfl := hw.out
    go_wp2_with fail
    refine bodyPost_end (results_none rfl _ _ _) rfl ?_
    exact ⟨rfl, HBW.out⟩
theorem parse_pos {l : Bs} {nd : List Nd} (h : parseR l = .ok nd) : 0 < nd.length := by
  unfold parseR at h
  split at h
  · rw [docP_doc] at h
    cases hd : doc (envL l (enOf l)) (Jk.tks l 0).2 (sol l) with
    | bad c a => rw [hd] at h; cases h
    | ok v =>
      rw [hd] at h
      injection h with h
      rw [← h, JV.nds_len]; exact v.size_pos
  · cases h
theorem trd_nil (w : World) : Trd w none 0 [] := ⟨rfl, by omega, fun h => absurd h (by omega), fun i x h => by simp at h⟩
/-- A tree's block behind a spoiling. -/
structure PBs (w wx : World) (sv : Value) : Prop where
  t : wx.heap[w.heap.size]? = some (trO sv)
theorem PBs.of {w W wx : World} {sv : Value} {c a : Int} (H : PB w W sv c a) (_hs : W.heap.size ≤ wx.heap.size) (hk : ∀ b, w.heap.size ≤ b → b < W.heap.size → wx.heap[b]? = W.heap[b]?) : PBs w wx sv := ⟨by rw [hk _ (Nat.le_refl _) (lt_blk H.t)]; exact H.t⟩
theorem PBs.cells {w wx wy : World} {sv : Value} (H : PBs w wx sv) (hb : Below wx.heap.size wx wy) : wy.cell? ⟨w.heap.size, 0, none⟩ = some sv ∧ wy.cell? ⟨w.heap.size, 1, none⟩ = some (.int .i64 0) := by
  have h := hb.block _ (lt_blk H.t)
  simp [World.cell?, h, H.t]
set_option maxHeartbeats 32000000 in
set_option maxRecDepth 100000 in
theorem parse_short {l : Bs} {A : Option Addr} {n c : Nat} {w : World} (ha : ArgB w A n c l) (hT : Tabs0 w) (h : n ≤ 5000) :
    Calls Tryz.prog 3 #[.slice A n c] w fun e w' => e = .returned (.bool true) ∧ Below w.heap.size w w' := by
  have h' : ¬ (5000 : Int) < n := by omega
  have HL := Lib.hid (fun (wx : World) (hb : Below w.heap.size w wx) => lives_any (hT.below hb))
  have HTB := Lib.hid (fun (wx : World) (hb : Below w.heap.size w wx) => hT.below hb)
  have HTW := Lib.hid (Jk.twin_any ha (by omega))
  obtain ⟨hn, hnc, hcm, hA, hnil⟩ := ha
  have HA := Lib.hid hA
  have Hn := Lib.hid hn
  have HCC := Lib.hid (And.intro hnc hcm)
  clear hT hn hA hnil hnc hcm
  go_enter Tryz.func3, Tryz.ntmps3
  go_wp2_with fail
  refine HTW.out.mono ?_
  rintro e w1 ⟨rfl, hTw, hb1, hs1⟩
  have HB1 := Lib.hid hb1
  have HMK := Lib.hid hTw
  have HT1 := Lib.hid (show Byt w1 w1.heap.size (some ⟨w.heap.size, 0, none⟩) l by have := hTw.take l.length; simpa using this)
  have HPT := Lib.hid (fun (wx : World) (hb : Below w1.heap.size w1 wx) => parse_any (A := some ⟨w.heap.size, 0, none⟩) (N := n) (C := n + 3) (l := l) (B := w1.heap.size) (w := wx) Hn.out (by omega) (HT1.out.below hb) hb.size (by unfold maxLen; omega) (by omega) (HTB.out _ (below_tr HB1.out hb)))
  have HLF := Lib.hid (fun (wx : World) (hb : Below w1.heap.size w1 wx) => Jk.left_any (l := l) (B := w1.heap.size) (B' := w.heap.size) (g := w.heap.size) (A := A) n c (w := wx) Hn.out (HMK.out.below hb) (HA.out.below (below_tr HB1.out hb)) (by omega))
  clear hTw hb1
  cases hp : parseR l with
  | bad cc aa =>
    have HP := Lib.hid hp
    clear hp
    go_wp2_with fail
    refine (HPT.out w1 (Below.refl _ _)).mono ?_
    rintro e w2 ⟨hb2, hR⟩
    rw [HP.out] at hR
    simp only at hR
    subst hR
    have HB2 := Lib.hid hb2
    clear hb2
    go_upto_region 5 with fail
    have HF := Lib.hid (PB.start (w := w2) (sv := .slice none 0 0) (c := cc) (a := aa))
    obtain ⟨V3, hV3⟩ : ∃ V, V = (w2.alloc (trO (.slice none 0 0))).alloc (fvO cc aa) := ⟨_, rfl⟩
    rw [← hV3] at HF ⊢
    clear hV3
    have HB3 := Lib.hid (below_tr HB2.out HF.out.below)
    have HB03 := Lib.hid (below_tr HB1.out HB3.out)
    have HRP := Lib.hid (rparse_any (l := l) (A := A) (n := n) (c := c) (w := V3) Hn.out HCC.out.1 HCC.out.2 ((HA.out.below HB03.out).more HB03.out.size) (by omega))
    go_wp2_with fail
    refine HRP.out.mono ?_
    intro e w4 hD
    unfold ParseD at hD
    rw [HP.out] at hD
    obtain ⟨hb4, rfl⟩ := hD
    have HB4 := Lib.hid hb4
    clear hb4
    go_upto_region 6 with fail
    have HG := Lib.hid (PB.start (w := w4) (sv := .slice none 0 0) (c := cc) (a := aa))
    obtain ⟨V5, hV5⟩ : ∃ V, V = (w4.alloc (trO (.slice none 0 0))).alloc (fvO cc aa) := ⟨_, rfl⟩
    rw [← hV5] at HG ⊢
    clear hV5
    have HB45 := Lib.hid (below_tr HB4.out HG.out.below)
    have HB5 := Lib.hid (below_tr HB3.out HB45.out)
    obtain ⟨a0, a1, a2, a3⟩ := (HF.out.on HB45.out).cells
    obtain ⟨d0, d1, d2, d3⟩ := HG.out.cells
    have HSM := Lib.hid (fun (wx : World) => show Calls Tryz.prog 11 #[.agg #[.slice none 0 0, .int .i64 0], .agg #[.slice none 0 0, .int .i64 0]] wx fun e w' => e = .returned (.bool true) ∧ Below wx.heap.size wx w' from same_any (trd_nil wx) (trd_nil wx) 0 0)
    go_wp2_with fail
    refine (HSM.out V5).mono ?_
    rintro e w6 ⟨rfl, hb6⟩
    have HB6 := Lib.hid (below_tr HB5.out hb6)
    obtain ⟨a0, a1, a2, a3⟩ := (HF.out.on (below_tr HB45.out hb6)).cells
    obtain ⟨d0, d1, d2, d3⟩ := (HG.out.on hb6).cells
    have HG6 := Lib.hid (HG.out.on hb6)
    clear hb6
    go_wp2_with fail
    refine (HLF.out w6 HB6.out).mono ?_
    rintro e w7 ⟨rfl, rfl⟩
    go_wp2_with fail
    refine (spoil_nil _).mono ?_
    rintro e w8 ⟨rfl, hb8⟩
    have HB8 := Lib.hid (below_tr HB6.out hb8)
    have HG8 := Lib.hid (HG6.out.on hb8)
    clear hb8 a0 a1 a2 a3 d0 d1 d2 d3
    go_wp2_with fail
    refine (HPT.out w8 HB8.out).mono ?_
    rintro e w9 ⟨hb9, hR⟩
    rw [HP.out] at hR
    simp only at hR
    subst hR
    have HB9 := Lib.hid hb9
    clear hb9
    go_upto_region 10 with fail
    have HK := Lib.hid (PB.start (w := w9) (sv := .slice none 0 0) (c := cc) (a := aa))
    obtain ⟨VA, hVA⟩ : ∃ V, V = (w9.alloc (trO (.slice none 0 0))).alloc (fvO cc aa) := ⟨_, rfl⟩
    rw [← hVA] at HK ⊢
    clear hVA
    have HB89 := Lib.hid (below_tr HB9.out HK.out.below)
    have HBA := Lib.hid (below_tr HB8.out HB89.out)
    obtain ⟨d0, d1, d2, d3⟩ := (HG8.out.on HB89.out).cells
    obtain ⟨e0, e1, e2, e3⟩ := HK.out.cells
    go_wp2_with fail
    refine (HSM.out VA).mono ?_
    rintro e wB ⟨rfl, hbB⟩
    have HBB := Lib.hid (below_tr HB1.out (below_tr HBA.out hbB))
    clear hbB
    go_wp2_with (go_at_call 7; refine (HL.out _ HBB.out).mono ?_; rintro e w' ⟨rfl, hb⟩)
    go_ret
    exact ⟨rfl, below_tr HBB.out hb⟩
  | ok nd =>
    have HP := Lib.hid hp
    have hpos := parse_pos hp
    clear hp
    go_wp2_with fail
    refine (HPT.out w1 (Below.refl _ _)).mono ?_
    rintro e w2 ⟨hb2, hR⟩
    rw [HP.out] at hR
    obtain ⟨Ax, Nx_, labx, X, rfl, hX, hXm⟩ := hR
    have HX := Lib.hid hX
    have HXM := Lib.hid hXm
    have HB2 := Lib.hid hb2
    have HXN := Lib.hid hX.trd.n
    clear hb2 hX
    go_upto_region 5 with fail
    have HF := Lib.hid (PB.start (w := w2) (sv := .slice Ax Nx_ Nx_) (c := 0) (a := 0))
    obtain ⟨V3, hV3⟩ : ∃ V, V = (w2.alloc (trO (.slice Ax Nx_ Nx_))).alloc (fvO 0 0) := ⟨_, rfl⟩
    rw [← hV3] at HF ⊢
    clear hV3
    have HB3 := Lib.hid (below_tr HB2.out HF.out.below)
    have HB03 := Lib.hid (below_tr HB1.out HB3.out)
    have HRP := Lib.hid (rparse_any (l := l) (A := A) (n := n) (c := c) (w := V3) Hn.out HCC.out.1 HCC.out.2 ((HA.out.below HB03.out).more HB03.out.size) (by omega))
    go_wp2_with fail
    refine HRP.out.mono ?_
    intro e w4 hD
    unfold ParseD at hD
    rw [HP.out] at hD
    obtain ⟨hb4, Ay, Ny, cy, laby, Y, rfl, hY, ⟨hYN, hN6⟩, hYm⟩ := hD
    have hNN : Ny = Nx_ := by
      have h1 := congrArg List.length hXm
      have h2 := congrArg List.length hYm
      rw [List.length_map] at h1 h2
      have h3 := HXN.out
      omega
    subst hNN
    have hN0 : 0 < Ny := by
      have h1 := congrArg List.length hXm
      rw [List.length_map] at h1
      have h3 := HXN.out
      omega
    have HY := Lib.hid hY
    have HYM := Lib.hid hYm
    have HB4 := Lib.hid hb4
    clear hb4 hY hXm hYm hYN hpos
    go_upto_region 6 with fail
    have HG := Lib.hid (PB.start (w := w4) (sv := .slice Ay Ny cy) (c := 0) (a := 0))
    obtain ⟨V5, hV5⟩ : ∃ V, V = (w4.alloc (trO (.slice Ay Ny cy))).alloc (fvO 0 0) := ⟨_, rfl⟩
    rw [← hV5] at HG ⊢
    clear hV5
    have HB45 := Lib.hid (below_tr HB4.out HG.out.below)
    have HB5 := Lib.hid (below_tr HB3.out HB45.out)
    obtain ⟨a0, a1, a2, a3⟩ := (HF.out.on HB45.out).cells
    obtain ⟨d0, d1, d2, d3⟩ := HG.out.cells
    have HSM := Lib.hid (show Calls Tryz.prog 11 #[.agg #[.slice Ax Ny Ny, .int .i64 0], .agg #[.slice Ay Ny cy, .int .i64 0]] V5 fun e w' => e = .returned (.bool true) ∧ Below V5.heap.size V5 w' from by
      refine (same_any (c := Ny) (d := cy) (HX.out.trd.keep (below_tr HF.out.below HB45.out)) (HY.out.trd.keep HG.out.below) 0 0).mono ?_
      rintro e w9 ⟨rfl, h9⟩
      exact ⟨by rw [decide_eq_true ⟨rfl, HXM.out.trans HYM.out.symm⟩], h9⟩)
    go_wp2_with fail
    refine HSM.out.mono ?_
    rintro e w6 ⟨rfl, hb6⟩
    have HB6 := Lib.hid (below_tr HB5.out hb6)
    have HB26 := Lib.hid (below_tr HF.out.below (below_tr HB45.out hb6))
    have HB46 := Lib.hid (below_tr HG.out.below hb6)
    obtain ⟨a0, a1, a2, a3⟩ := (HF.out.on (below_tr HB45.out hb6)).cells
    obtain ⟨d0, d1, d2, d3⟩ := (HG.out.on hb6).cells
    have HG6 := Lib.hid (HG.out.on hb6)
    clear hb6
    go_wp2_with fail
    refine (HLF.out w6 HB6.out).mono ?_
    rintro e w7 ⟨rfl, rfl⟩
    have HSPO := Lib.hid (spoil_any HX.out HXN.out hN0 (by omega) HB26.out)
    go_wp2_with fail
    refine HSPO.out.mono ?_
    rintro e w8 ⟨rfl, hb8, hk8⟩
    have hsz : w2.heap.size ≤ w4.heap.size := Nat.le_trans HF.out.below.size HB4.out.size
    have HB8 := Lib.hid (show Below w1.heap.size w1 w8 from HB6.out.trans hb8)
    have HG8 := Lib.hid (PBs.of HG6.out hb8.size fun b h1 h2 => hk8 b (by omega) h2)
    have HY8 := Lib.hid ((HY.out.keep (fun b _ h => HB46.out.block b h)).keep (w' := w8) fun b h1 h2 => hk8 b (by have := HF.out.below.size; omega) h2)
    clear hb8 hk8 a0 a1 a2 a3 d0 d1 d2 d3 hsz
    go_wp2_with fail
    refine (HPT.out w8 HB8.out).mono ?_
    rintro e w9 ⟨hb9, hR⟩
    rw [HP.out] at hR
    obtain ⟨Az, Nz, labz, Z, rfl, hZ, hZm⟩ := hR
    have HZ := Lib.hid hZ
    have HZM := Lib.hid hZm
    have HB9 := Lib.hid hb9
    clear hb9 hZ hZm
    go_upto_region 10 with fail
    have HK := Lib.hid (PB.start (w := w9) (sv := .slice Az Nz Nz) (c := 0) (a := 0))
    obtain ⟨VA, hVA⟩ : ∃ V, V = (w9.alloc (trO (.slice Az Nz Nz))).alloc (fvO 0 0) := ⟨_, rfl⟩
    rw [← hVA] at HK ⊢
    clear hVA
    have HB89 := Lib.hid (below_tr HB9.out HK.out.below)
    have HBA := Lib.hid (below_tr HB8.out HB89.out)
    obtain ⟨d0, d1⟩ := HG8.out.cells HB89.out
    obtain ⟨e0, e1, e2, e3⟩ := HK.out.cells
    have HS2 := Lib.hid (show Calls Tryz.prog 11 #[.agg #[.slice Az Nz Nz, .int .i64 0], .agg #[.slice Ay Ny cy, .int .i64 0]] VA fun e w' => e = .returned (.bool true) ∧ Below VA.heap.size VA w' from by
      refine (same_any (c := Nz) (d := cy) (HZ.out.trd.keep HK.out.below) (HY8.out.trd.keep HB89.out) 0 0).mono ?_
      rintro e w9 ⟨rfl, h9⟩
      exact ⟨by rw [decide_eq_true ⟨rfl, HZM.out.trans HYM.out.symm⟩], h9⟩)
    go_wp2_with fail
    refine HS2.out.mono ?_
    rintro e wB ⟨rfl, hbB⟩
    have HBB := Lib.hid (below_tr HB1.out (below_tr HBA.out hbB))
    clear hbB
    go_wp2_with (go_at_call 7; refine (HL.out _ HBB.out).mono ?_; rintro e w' ⟨rfl, hb⟩)
    go_ret
    exact ⟨rfl, below_tr HBB.out hb⟩
theorem parseW_any {l : Bs} {A : Option Addr} {n c : Nat} {w : World} (ha : ArgB w A n c l) (hT : Tabs0 w) :
    Calls Tryz.prog 3 #[.slice A n c] w fun e w' => e = .returned (.bool true) ∧ Below w.heap.size w w' := by
  by_cases h : 5000 < n
  · exact parse_long hT h (by obtain ⟨_, h1, h2, _⟩ := ha; unfold maxLen at h2; omega)
  · exact parse_short ha hT (by omega)
end R9
end Jt
end Go.Proofs.YtdclhepjoifpiaaGreatDoor
/- The law of parsing, as the row asks it. -/
namespace Go.Proofs.YtdclhepjoifpiaaGreatDoor
open Go.ChangeShapes Go.WideShapes Go.ChangeAt Go.RowKit
namespace Jt

/-- A slice of bytes that came in. -/
theorem argb_of {H : Type} {enc : TypeId × Value → H} {W : World} {a : Option Addr} {n c : Nat} {d : DataW H} {p : List MemPlace} (h : DataW.Trod enc Tryz.prog W 0 (fun _ => true) true 22 (.slice a n c) d p) : ∃ l, Jk.ArgB W a n c l := Jk.argb_of h
theorem parseL_any {l : List UInt8} {A : Option Addr} {n c : Nat} {w : World} (ha : Jk.ArgB w A n c l) (_W : World) (hT : Tabs0 w) : Calls Tryz.prog 3 #[.slice A n c] w fun e w' => e = .returned (.bool true) ∧ Below w.heap.size w w' := R9.parseW_any ha hT
end Jt
end Go.Proofs.YtdclhepjoifpiaaGreatDoor
