/- The document's parser: the next token's runes. -/
import Derived.Test.YtdclhepjoifpiaaGreatDoorMbm
import Derived.Test.YtdclhepjoifpiaaGreatDoorRRdm
import Derived.Test.YtdclhepjoifpiaaGreatDoorBo
import Derived.Test.YtdclhepjoifpiaaGreatDoorKrm
import Derived.StillTailTactics
import Derived.Deep.RegionHeld3
namespace Go.Proofs.YtdclhepjoifpiaaGreatDoor
open Go.RowKit
namespace Jt
namespace R9
open Jk (lt_blk below_tr TkR fvO)

theorem bal {V wx : World} (h : Below V.heap.size V wx) (o : Obj) : Below V.heap.size V (wx.alloc o) := h.alloc h.size o
theorem bal2 {V wx wy : World} (h1 : Below V.heap.size V wx) (h2 : Below wx.heap.size wx wy) (o : Obj) : Below V.heap.size V (wy.alloc o) := bal (below_tr h1 h2) o
theorem froz {X w9 : World} (h : Below (X.alloc (fvO 0 0)).drew.heap.size (X.alloc (fvO 0 0)).drew w9) : w9.frozen? ⟨X.heap.size, 0, none⟩ = false ∧ w9.frozen? ⟨X.heap.size, 1, none⟩ = false ∧ w9.cell? ⟨X.heap.size, 0, none⟩ = some (.int .i64 0) ∧ w9.cell? ⟨X.heap.size, 1, none⟩ = some (.int .i64 0) := by
  have h1 : w9.heap[X.heap.size]? = some (fvO 0 0) := by rw [h.block _ (by show X.heap.size < (X.alloc (fvO 0 0)).heap.size; rw [alloc_size]; omega)]; exact heap_alloc_new _ _
  simp [World.frozen?, World.cell?, h1]
theorem frozS {V w9 : World} {C K : Int} (h : Below (V.alloc (fvO 0 0)).drew.heap.size (V.alloc (fvO 0 0)).drew w9) :
    Below V.heap.size V ((w9.setCell ⟨V.heap.size, 0, none⟩ (.int .i64 C)).setCell ⟨V.heap.size, 1, none⟩ (.int .i64 K)) ∧ ((w9.setCell ⟨V.heap.size, 0, none⟩ (.int .i64 C)).setCell ⟨V.heap.size, 1, none⟩ (.int .i64 K)).heap[V.heap.size]? = some (fvO C K) := by
  have h1 : w9.heap[V.heap.size]? = some (fvO 0 0) := by rw [h.block _ (by show V.heap.size < (V.alloc (fvO 0 0)).heap.size; rw [alloc_size]; omega)]; exact heap_alloc_new _ _
  have h2 : Below V.heap.size V w9 := below_tr ((Below.refl _ _).alloc (Nat.le_refl _) (fvO 0 0)).drew h
  exact ⟨(h2.setCell (Nat.le_refl _) _).setCell (Nat.le_refl _) _, heap_setCell_same _ _ _ _ _ _ (heap_setCell_same _ _ _ _ _ _ h1)⟩
theorem allocS {V w9 : World} {C K : Int} (h : Below V.drew.heap.size V.drew w9) : Below V.heap.size V (w9.alloc (fvO C K)) ∧ (w9.alloc (fvO C K)).heap[w9.heap.size]? = some (fvO C K) := ⟨bal (below_tr (Below.refl _ _).drew h) _, heap_alloc_new _ _⟩
/-- A token in its block. -/
structure TB (w wx : World) (k F E : Nat) : Prop where
  below : Below w.heap.size w wx
  o : wx.heap[w.heap.size]? = some (.cells #[.int .i64 (k : Nat), .int .i64 (F : Nat), .int .i64 (E : Nat)] 72)
theorem TB.start {w : World} {k F E : Nat} : TB w (w.alloc (.cells #[.int .i64 (k : Nat), .int .i64 (F : Nat), .int .i64 (E : Nat)] 72)) k F E := ⟨(Below.refl _ _).alloc (Nat.le_refl _) _, heap_alloc_new _ _⟩
theorem TB.drew {w wx : World} {k F E : Nat} (h : TB w wx k F E) (n : Nat) : TB w (wx.drewN n) k F E := ⟨bdn h.below n, h.o⟩
theorem TB.on {w wx wy : World} {k F E : Nat} (h : TB w wx k F E) (hb : Below wx.heap.size wx wy) : TB w wy k F E := ⟨below_tr h.below hb, by rw [hb.block _ (lt_blk h.o)]; exact h.o⟩
theorem TB.cells {w wx : World} {k F E : Nat} (h : TB w wx k F E) : wx.cell? ⟨w.heap.size, 0, none⟩ = some (.int .i64 (k : Nat)) ∧ wx.cell? ⟨w.heap.size, 1, none⟩ = some (.int .i64 (F : Nat)) ∧ wx.cell? ⟨w.heap.size, 2, none⟩ = some (.int .i64 (E : Nat)) := by
  have := h.o
  refine ⟨?_, ?_, ?_⟩ <;> simp [World.cell?, this]
section
variable {W w w' : World} {P : Nat} {lv tv : Value} {en : Nat × Nat} {a fc fa : Nat} {lab : Nat → Own} {X : List Nx}
variable {l : Bs} {S : List Tok} {A AL : Option Addr} {n c N cL : Nat} {t : Tok}
/-- A token's bytes as a slice of the text's. -/
theorem RE.part (H : RE W P l S A AL n c N cL) (R : RP W w P (.slice A n c) (.slice AL N cL) en a tv fc fa lab X) (ht : t ∈ S) : ∃ b1 off1, A = some ⟨b1, off1, none⟩ ∧ b1 < P ∧ Byt w P (some ⟨b1, off1 + t.2.1, none⟩) (Jt.part l t.2) ∧ (Jt.part l t.2).length = t.2.2 - t.2.1 ∧ t.2.1 < t.2.2 ∧ t.2.2 ≤ n := by
  obtain ⟨k1, k2, _⟩ := H.hok t ht
  have hB := (H.on R).1
  obtain ⟨b1, off1, rfl, hb1, _⟩ := hB.at_ (show t.2.1 < l.length by omega)
  refine ⟨b1, off1, rfl, hb1, ?_, ?_, k1, by rw [H.hn]; exact k2⟩
  · have h9 : Byt w P ((some (⟨b1, off1, none⟩ : Addr)).map (·.add t.2.1)) ((l.take t.2.2).drop t.2.1) := (hB.take t.2.2).cut' (by rw [List.length_take]; omega)
    rw [show (some (⟨b1, off1, none⟩ : Addr)).map (·.add t.2.1) = some ⟨b1, off1 + t.2.1, none⟩ from congrArg some (addAt b1 off1 t.2.1)] at h9
    exact h9
  · show ((l.take t.2.2).drop t.2.1).length = _
    rw [List.length_drop, List.length_take]; omega
/-- What reading a text told, in letters. -/
theorem rval_let {p : Bs} (hp : p.length ≤ 10000) : ∃ (s0 : ByteArray) (C K : Nat), rval (Qu.rdq p) = .tuple #[.string s0, .agg #[.int .i64 (C : Nat), .int .i64 (K : Nat)]] ∧ C ≤ 6 ∧ K ≤ 10000 ∧
    ((C = 0 ∧ ∃ u, rqL p = .ok u ∧ s0 = txt u) ∨ (C ≠ 0 ∧ rqL p = .error (C, K))) := by
  unfold rqL
  cases h : Qu.rdq p with
  | ok u => exact ⟨txt u, 0, 0, rfl, by omega, by omega, .inl ⟨rfl, u, rfl, rfl⟩⟩
  | bad hf k =>
    have h1 := (Qu.rdq_more h).1
    cases hf with
    | true => exact ⟨⟨#[]⟩, 6, k, rfl, by omega, by omega, .inr ⟨by omega, rfl⟩⟩
    | false => exact ⟨⟨#[]⟩, 3, k, rfl, by omega, by omega, .inr ⟨by omega, rfl⟩⟩
/-- What quoted leaves. -/
def QP (W w : World) (P : Nat) (bv lv : Value) (en : Nat × Nat) (a : Nat) (tv : Value) (lab : Nat → Own) (X : List Nx) (l : Bs) (t : Tok) (e : Ending) (w' : World) : Prop :=
  match rqL (Jt.part l t.2) with
  | .ok s => e = .returned (.tuple #[.string (txt s), .bool true]) ∧ RP W w' P bv lv en (a + 1) tv 0 0 lab X ∧ ∀ b, b < w.heap.size → b ≠ P → w'.heap[b]? = w.heap[b]?
  | .error (c, k) => e = .returned (.tuple #[.string ⟨#[]⟩, .bool false]) ∧ RP W w' P bv lv en a tv c (t.2.1 + k) lab X
set_option maxHeartbeats 64000000 in
set_option maxRecDepth 100000 in
theorem quoted_any (H : RE W P l S A AL n c N cL) (R : RP W w P (.slice A n c) (.slice AL N cL) en a tv 0 0 lab X) (ht : S[a]? = some t) :
    Calls Tryz.prog 35 #[.pointer (some ⟨P, 0, none⟩)] w (QP W w P (.slice A n c) (.slice AL N cL) en a tv lab X l t) := by
  have haN : a < N := by rw [H.htk.1]; exact (List.getElem?_eq_some_iff.1 ht).1
  have hN6 := H.hsN
  have hn6 := H.hsm
  have hnc := H.hc
  obtain ⟨b1, off1, rfl, hbP, hby, hpl, hFE, hEn⟩ := H.part R (List.mem_of_getElem? ht)
  obtain ⟨g, eg, hg, hct⟩ := (H.on R).2.at_ (by omega)
  subst eg
  obtain ⟨q1, q2, q3⟩ := hct a t ht
  obtain ⟨kd, F, E⟩ := t
  simp only at q1 q2 q3 hby hpl hFE hEn
  obtain ⟨p, hp⟩ : ∃ p, p = Jt.part l (F, E) := ⟨_, rfl⟩
  rw [← hp] at hby hpl
  have HP := Lib.hid hp
  clear hp
  obtain ⟨s0, C, K, hrv, hC6, hK6, hCK⟩ := rval_let (p := p) (by omega)
  have HRD := Lib.hid (fun (wx : World) => show Calls Tryz.prog 54 #[.string (txt p)] wx fun e w' => e = .returned (.tuple #[.string s0, .agg #[.int .i64 (C : Nat), .int .i64 (K : Nat)]]) ∧ Below wx.heap.size wx w' from by
    have := rread_any (l := p) wx rfl (by omega)
    rwa [hrv] at this)
  have HRR := Lib.hid (fun (wx : World) (hb : Below w.heap.size w wx) => R.on hb)
  have HCV := Lib.hid (fun (wx : World) (hb : Below w.heap.size w wx) => conv_bytes (E - F) (c - F) (w := wx) hpl.symm (hby.below (hb.mono (Nat.le_of_lt R.plt))))
  have HCK := Lib.hid hCK
  have hcF : ¬ c = F := by omega
  obtain ⟨c0, c1, c2, c3, c4, _⟩ := R.cells
  have hgl : g < w.heap.size := lt_cell2 q1
  have hPl := R.plt
  have c1' : ∀ o, (w.alloc o).cell? ⟨P, 1, none⟩ = _ := fun o => (World.cell?_alloc_lt _ _ _ hPl).trans c1
  have c4' : ∀ o, (w.alloc o).cell? ⟨P, 4, none⟩ = _ := fun o => (World.cell?_alloc_lt _ _ _ hPl).trans c4
  have q1' : ∀ o, (w.alloc o).cell? ⟨g, a * 3, none⟩ = _ := fun o => (World.cell?_alloc_lt _ _ _ hgl).trans q1
  have q2' : ∀ o, (w.alloc o).cell? ⟨g, a * 3 + 1, none⟩ = _ := fun o => (World.cell?_alloc_lt _ _ _ hgl).trans q2
  have q3' : ∀ o, (w.alloc o).cell? ⟨g, a * 3 + 1 + 1, none⟩ = _ := fun o => (World.cell?_alloc_lt _ _ _ hgl).trans q3
  have q3a : w.cell? ⟨g, a * 3 + 1 + 1, none⟩ = _ := q3
  clear R H hct ht hby hrv hpl c0 c2 c3 hbP hg hCK
  go_enter Tryz.func35, Tryz.ntmps35
  go_upto_region 1 with fail
  go_region
  go_upto_region 2 with fail
  obtain ⟨V1, hV1⟩ : ∃ V, V = (w.alloc (.cells #[.int .i64 (kd : Nat), .int .i64 (F : Nat), .int .i64 (E : Nat)] 72)).drew := ⟨_, rfl⟩
  have hT1 : TB w V1 kd F E := by rw [hV1]; exact ⟨TB.start.below.drew, TB.start.o⟩
  rw [← hV1]
  clear hV1 c1 c4 q1 q2 q3 c1' c4' q1' q2' q3' q3a
  have HT1 := Lib.hid hT1
  have HKS := Lib.hid (fun (wx : World) (hb : Below V1.heap.size V1 wx) => show Below V1.heap.size V1 wx ∧ wx.cell? ⟨P, 0, none⟩ = some (.slice (some ⟨b1, off1, none⟩) n c) ∧ wx.cell? ⟨w.heap.size, 1, none⟩ = some (.int .i64 (F : Nat)) ∧ wx.cell? ⟨w.heap.size, 2, none⟩ = some (.int .i64 (E : Nat)) ∧ (convert 22 9 (.slice (some ⟨b1, off1 + F, none⟩) (E - F) (c - F))).run Tryz.prog wx = .ok (.string (txt p)) wx from by
    have hT := HT1.out.on hb
    exact ⟨hb, (HRR.out _ hT.below).cells.1, hT.cells.2.1, hT.cells.2.2, HCV.out _ hT.below⟩)
  clear hT1
  go_cut [5, 6] from 17 to 30 (fun s5 s6 wx => s5 = .string s0 ∧ ∃ q, s6 = .pointer (some ⟨q, 0, none⟩) ∧ Hid (Below V1.heap.size V1 wx ∧ wx.heap[q]? = some (fvO (C : Nat) (K : Nat))))
  case first =>
    obtain ⟨_, c0, z1, z2, v1⟩ := HKS.out V1 (Below.refl _ _)
    obtain ⟨_, _, _, _, v2⟩ := HKS.out V1.drew (Below.refl _ _).drew
    have c0' : ∀ o, (V1.alloc o).cell? ⟨P, 0, none⟩ = _ := fun o => (HKS.out _ (bal (Below.refl _ _) o)).2.1
    have z1' : ∀ o, (V1.alloc o).cell? ⟨w.heap.size, 1, none⟩ = _ := fun o => (HKS.out _ (bal (Below.refl _ _) o)).2.2.1
    have z2' : ∀ o, (V1.alloc o).cell? ⟨w.heap.size, 2, none⟩ = _ := fun o => (HKS.out _ (bal (Below.refl _ _) o)).2.2.2.1
    have v3 : ∀ o, (convert 22 9 (.slice (some ⟨b1, off1 + F, none⟩) (E - F) (c - F))).run Tryz.prog (V1.alloc o) = .ok (.string (txt p)) (V1.alloc o) := fun o => (HKS.out _ (bal (Below.refl _ _) o)).2.2.2.2
    have v4 : ∀ o, (convert 22 9 (.slice (some ⟨b1, off1 + F, none⟩) (E - F) (c - F))).run Tryz.prog (V1.alloc o).drew = .ok (.string (txt p)) (V1.alloc o).drew := fun o => (HKS.out _ (bal (Below.refl _ _) o).drew).2.2.2.2
    go_region_with (go_at_call 54; refine (HRD.out _).mono ?_; rintro en w9 ⟨rfl, hb⟩; (try have zz : w9.frozen? ⟨V1.heap.size, 0, none⟩ = false ∧ w9.frozen? ⟨V1.heap.size, 1, none⟩ = false ∧ w9.cell? ⟨V1.heap.size, 0, none⟩ = some (.int .i64 0) ∧ w9.cell? ⟨V1.heap.size, 1, none⟩ = some (.int .i64 0) := froz hb); (try obtain ⟨z5, z6, z7, z8⟩ := zz))
    all_goals
      go_wp2_with fail
      go_meet
      first
        | exact ⟨rfl, V1.heap.size, rfl, Lib.hid (frozS (V := V1) hb)⟩
        | exact ⟨rfl, w9.heap.size, rfl, Lib.hid (allocS (V := V1) hb)⟩
  case rest =>
    obtain ⟨rfl, q, rfl, HQ⟩ := hcut
    have HQ1 := Lib.hid HQ.out.1
    have hq := HQ.out.2
    have f0 : wc.cell? ⟨q, 0, none⟩ = some (.int .i64 (C : Nat)) := by simp [World.cell?, hq]
    have f1 : wc.cell? ⟨q, 1, none⟩ = some (.int .i64 (K : Nat)) := by simp [World.cell?, hq]
    have hT := HT1.out.on HQ1.out
    have RW := HRR.out _ hT.below
    have z1 := hT.cells.2.1
    clear hq HQ
    rcases HCK.out with ⟨hC0, u, hu, hs0⟩ | ⟨hC0, hu⟩
    · subst hC0
      subst hs0
      have HU := Lib.hid hu
      have c4 := RW.cells.2.2.2.2.1
      have z4 := RW.free 4
      have R4 := Lib.hid RW.next
      have HB := Lib.hid hT.below
      clear RW hT hu
      go_wp2_with fail
      refine bodyPost_ret (v := .tuple #[.string (txt u), .bool true]) (by simp [results, Tryz.results35, go_sem, *]) rfl ?_
      unfold QP
      rw [show Jt.part l (kd, F, E).2 = p from HP.out.symm, HU.out]
      exact ⟨rfl, R4.out, fun b hb hne => (heap_setCell_other _ _ _ _ hne).trans (HB.out.block b hb)⟩
    · have HU := Lib.hid hu
      have HF := Lib.hid (wrong_any (k1 := C) (k2 := F + K) RW (y1 := (C : Nat)) (y2 := (F : Int) + (K : Int)) rfl (by omega))
      have hCI : ¬ ((C : Nat) : Int) = 0 := by omega
      clear RW hT hu hC0
      go_wp2_with (go_at_call 25; refine HF.out.mono ?_; rintro e w8 ⟨rfl, R8⟩)
      refine bodyPost_ret (v := .tuple #[.string ⟨#[]⟩, .bool false]) (by simp [results, Tryz.results35, go_sem, *]) rfl ?_
      unfold QP
      rw [show Jt.part l (kd, F, E).2 = p from HP.out.symm, HU.out]
      exact ⟨rfl, R8⟩
end
end R9
end Jt
end Go.Proofs.YtdclhepjoifpiaaGreatDoor
