/- The document's parser: a whole document. -/
import Derived.Test.YtdclhepjoifpiaaGreatDoorMhm
import Derived.Test.YtdclhepjoifpiaaGreatDoorBy
import Derived.Test.YtdclhepjoifpiaaGreatDoorAz
import Derived.Test.YtdclhepjoifpiaaGreatDoorKqm
import Derived.Test.YtdclhepjoifpiaaGreatDoorBu
namespace Go.Proofs.YtdclhepjoifpiaaGreatDoor
open Go.RowKit
namespace Jt
namespace R9
open Jk (lt_blk below_tr TkR fvO tks RdP ftV own_tk tkL)

theorem few_tks {l : Bs} : ∀ (m i : Nat), l.length - i ≤ m → (tks l i).1.length ≤ l.length - i := by
  intro m
  induction m with
  | zero => intro i hi; rw [Jk.tks_end (by omega)]; exact Nat.zero_le _
  | succ m ih =>
    intro i hi
    by_cases hlt : i < l.length
    · cases hx : Jk.nx (l.drop i) with
      | bad n => rw [Jk.tks_bad hlt hx]; exact Nat.zero_le _
      | tok k n =>
        have hk := Jk.tk_of hx
        have hn := Jk.tk_len hk
        have h1 := ih (i + n) (by omega)
        rw [List.length_drop] at hn
        rw [Jk.tks_tok hk, List.length_cons]
        omega
    · rw [Jk.tks_end (by omega)]; exact Nat.zero_le _
theorem value_any {W : World} {P : Nat} {en : Nat × Nat} {l : Bs} {S : List Tok} {A AL : Option Addr} {n c N cL : Nat} (H : RE W P l S A AL n c N cL) (f : Nat) : ValC W P (.slice A n c) (.slice AL N cL) en l S f := by
  induction f using Nat.strongRecOn with
  | ind f ih => exact value_step H ih
/-- What the document's Parse leaves. -/
def ParseD (w : World) (l : Bs) (e : Ending) (w' : World) : Prop :=
  Below w.heap.size w w' ∧ match parseR l with
  | .bad c a => e = .returned (.tuple #[.agg #[.slice none 0 0, .int .i64 0], .agg #[.int .i64 (c : Nat), .int .i64 (a : Nat)]])
  | .ok nd => ∃ A n c lab X, e = .returned (.tuple #[.agg #[.slice A n c, .int .i64 0], .agg #[.int .i64 0, .int .i64 0]]) ∧ Tr w' w.heap.size lab (.slice A n c) X ∧ (n = X.length ∧ n ≤ 10000) ∧ X.map Nx.nd = nd
theorem Rr_low {w : World} {b B : Nat} {e : TypeId} {size : Nat} {v : Value} {n : Nat} {xs : List Value} (h : Rr w B e size v n xs) (hb : b ≤ B) : Rr w b e size v n xs := by
  refine ⟨h.1, ?_⟩
  rcases h.2 with h | ⟨g, cap, cur, e1, hB, r⟩
  · exact .inl h
  · exact .inr ⟨g, cap, cur, e1, by omega, r⟩
theorem Tr_low {w : World} {b B : Nat} {lab : Nat → Own} {v : Value} {X : List Nx} (h : Tr w B lab v X) (hb : b ≤ B) : Tr w b lab v X := ⟨Rr_low h.row hb, h.l, fun i x hx j hj => ⟨Rr_low (h.e i x hx j hj).1 hb, (h.e i x hx j hj).2⟩⟩
theorem PB_onP {w W wx : World} {sv : Value} {c a : Int} {P : Nat} (H : PB w W sv c a) (hb : Below P W wx) (hP : w.heap.size + 2 ≤ P) : PB w wx sv c a :=
  ⟨H.below.trans (hb.mono (by omega)), by rw [hb.block _ (by omega)]; exact H.t, by rw [hb.block _ (by omega)]; exact H.f⟩
theorem res_below {w wx : World} (h : Below w.heap.size w wx) (u1 u2 u3 u4 : Value) : Below w.heap.size w ((((wx.setCell ⟨w.heap.size, 0, none⟩ u1).setCell ⟨w.heap.size, 1, none⟩ u2).setCell ⟨w.heap.size + 1, 0, none⟩ u3).setCell ⟨w.heap.size + 1, 1, none⟩ u4) :=
  (((h.setCell (Nat.le_refl _) _).setCell (Nat.le_refl _) _).setCell (show w.heap.size ≤ w.heap.size + 1 by omega) _).setCell (show w.heap.size ≤ w.heap.size + 1 by omega) _
/-- The solid tokens so far, in the parser's own row. -/
structure PL (V wr : World) (P : Nat) (bv lv : Value) (L : List Tok) : Prop where
  obj : wr.heap[P]? = some (rpO bv lv (0, 0) 0 (.slice none 0 0) 0 0)
  row : wr.ownsRow V.heap.size 72 3 lv L.length (tkL .i64 L)
  keep : ∀ b, b < V.heap.size → b ≠ P → wr.heap[b]? = V.heap[b]?
  below : Below P V wr
theorem tkL_snoc (L : List Tok) (t : Tok) : tkL .i64 (L ++ [t]) = tkL .i64 L ++ [.int .i64 (t.1 : Nat), .int .i64 (t.2.1 : Nat), .int .i64 (t.2.2 : Nat)] := by
  unfold tkL; rw [List.flatMap_append]; rfl
theorem zc3 : (Value.agg #[.int .i64 0, .int .i64 0, .int .i64 0]).cells.size = 3 := by simp [Value.cells]
theorem one3 (a b c : Int) : ∀ u ∈ [Value.int .i64 a, .int .i64 b, .int .i64 c], u.oneCell' = true := by
  intro u hu
  simp at hu
  rcases hu with rfl | rfl | rfl <;> rfl
theorem take_filt {T : List Tok} {i : Nat} {t : Tok} (h : T[i]? = some t) : (T.take (i + 1)).filter solid = (T.take i).filter solid ++ (if solid t = true then [t] else []) := by
  rw [List.take_add_one, h, List.filter_append]
  congr 1
  cases hs : solid t <;> simp [hs]
set_option maxHeartbeats 32000000 in
set_option maxRecDepth 100000 in
theorem rparse_any {l : Bs} {A : Option Addr} {n c : Nat} {w : World} (hn : n = l.length) (hnc : n ≤ c) (hcm : c ≤ maxLen) (hA : Byt w w.heap.size A l) (hs : n ≤ 10000) :
    Calls Tryz.prog 10 #[.slice A n c] w (ParseD w l) := by
  obtain ⟨i7, hi7, hy0, hy1, hy2⟩ := info_parts (show (Tryz.prog.info? 72).map (fun i => (i.zero, i.size, i.bytes)) = some (some (.agg #[.int .i64 0, .int .i64 0, .int .i64 0]), 3, 24) by kernel_rfl)
  have h' : ¬ (16777216 : Int) < n := by omega
  have HF := Lib.hid (PB.start (w := w) (sv := .slice none 0 0) (c := 0) (a := 0))
  obtain ⟨V0, hV0⟩ : ∃ V, V = (w.alloc (trO (.slice none 0 0))).alloc (fvO 0 0) := ⟨_, rfl⟩
  have hsV0 : V0.heap.size = w.heap.size + 2 := by rw [hV0, alloc_size, alloc_size]
  rw [← hV0] at HF
  have HS0 := Lib.hid hsV0
  have HCK := Lib.hid (U8.rcheck_any (A := A) (B := w.heap.size) n c (w := V0) hn hnc (hA.below HF.out.below) hcm)
  have HA := Lib.hid hA
  have Hn := Lib.hid hn
  obtain ⟨ck, hck⟩ : ∃ b, b = U8.chkOk l := ⟨_, rfl⟩
  obtain ⟨ca, hca⟩ : ∃ v, v = U8.chkAt l := ⟨_, rfl⟩
  rw [← hck, ← hca] at HCK
  have HCA := Lib.hid (And.intro hck hca)
  have HHC := Lib.hid (And.intro hnc hcm)
  have HZ0 := Lib.hid hV0
  clear hA hn hsV0 hck hca hcm
  go_enter Tryz.func10, Tryz.ntmps10
  go_upto_region 3 with fail
  rw [← hV0]
  clear hV0
  cases ck with
  | false =>
    have hE : parseR l = .bad 2 (U8.scn l) := by unfold parseR; rw [if_neg (by rw [← HCA.out.1]; exact Bool.false_ne_true)]
    have hsc : ca = (U8.scn l : Nat) := by
      have h1 := HCA.out.1
      unfold U8.chkOk at h1
      have h2 := of_decide_eq_false h1.symm
      rw [HCA.out.2]; unfold U8.chkAt; rw [if_neg h2]
    have HE := Lib.hid hE
    obtain ⟨sc, hsc2⟩ : ∃ s, s = U8.scn l := ⟨_, rfl⟩
    rw [← hsc2] at HE hsc
    obtain ⟨t0, t1, f0, f1⟩ := HF.out.cells
    have ft : ∀ k, V0.frozen? ⟨w.heap.size, k, none⟩ = false := fun k => by simp [World.frozen?, HF.out.t]
    have ff : ∀ k, V0.frozen? ⟨w.heap.size + 1, k, none⟩ = false := fun k => by simp [World.frozen?, HF.out.f]
    subst hsc
    clear hE hsc2
    go_wp2_with (go_at_call 22; refine HCK.out.mono ?_; rintro e w2 ⟨rfl, rfl⟩)
    refine bodyPost_ret (v := .tuple #[.agg #[.slice none 0 0, .int .i64 0], .agg #[.int .i64 2, .int .i64 (sc : Nat)]]) (by simp [results, Tryz.results10, go_sem, *]) rfl ?_
    unfold ParseD
    rw [HE.out]
    exact ⟨res_below HF.out.below _ _ _ _, rfl⟩
  | true =>
    have HOK := Lib.hid (show parseR l = match doc (envL l (enOf l)) (tks l 0).2 (sol l) with | .ok v => .ok (v.nds 0) | .bad c a => .bad c a by unfold parseR; rw [if_pos HCA.out.1.symm, docP_doc]; rfl)
    go_upto_region 7 with (go_at_call 22; refine HCK.out.mono ?_; rintro e w2 ⟨rfl, rfl⟩)
    obtain ⟨V1, hV1⟩ : ∃ V, V = V0.alloc (rpO (.slice A n c) (.slice none 0 0) (0, 0) 0 (.slice none 0 0) 0 0) := ⟨_, rfl⟩
    have hP1 : V1.heap[V0.heap.size]? = some (rpO (.slice A n c) (.slice none 0 0) (0, 0) 0 (.slice none 0 0) 0 0) := by rw [hV1]; exact heap_alloc_new _ _
    have hb1 : Below V0.heap.size V0 V1 := by rw [hV1]; exact (Below.refl _ _).alloc (Nat.le_refl _) _
    change Code.wp _ _ _ _ (V0.alloc (rpO (.slice A n c) (.slice none 0 0) (0, 0) 0 (.slice none 0 0) 0 0))
    rw [← hV1]
    have HPW := Lib.hid (show w.heap.size + 2 ≤ V0.heap.size by rw [HS0.out]; exact Nat.le_refl _)
    obtain ⟨P, hP⟩ : ∃ P, P = V0.heap.size := ⟨_, rfl⟩
    have HPB1 := Lib.hid (HF.out.on hb1)
    have HB1 := Lib.hid (HPB1.out.below)
    rw [← hP] at hP1 HPW ⊢
    have hPl1 : P < V1.heap.size := lt_blk hP1
    have HP1 := Lib.hid hP1
    have HRD := Lib.hid (Jk.rread_is (A := A) (B := w.heap.size) n c V1 Hn.out HHC.out.1 HHC.out.2 (HA.out.below HB1.out) HB1.out.size (by omega))
    clear hV1 hb1 hP1 hP
    go_wp2_with fail
    refine HRD.out.mono ?_
    rintro e w2 ⟨tvv, he, hown, hb2⟩
    obtain ⟨FC, FA, hft, hFF⟩ : ∃ FC FA : Nat, ftV (tks l 0).2 = .agg #[.int .i64 (FC : Nat), .int .i64 (FA : Nat)] ∧ (((tks l 0).2 = none ∧ FC = 0 ∧ FA = 0) ∨ ((tks l 0).2 = some FA ∧ FC = 3)) := by
      cases h : (tks l 0).2 with
      | none => exact ⟨0, 0, rfl, .inl ⟨rfl, rfl, rfl⟩⟩
      | some a => exact ⟨3, a, rfl, .inr ⟨rfl, rfl⟩⟩
    rw [hft] at he
    subst he
    obtain ⟨A1, N1, c1, rfl, hNc, hcm1, _, hTk⟩ := own_tk hown
    have HFF := Lib.hid hFF
    have HB2 := Lib.hid hb2
    have HTk := Lib.hid hTk
    have hN1 : N1 ≤ 10000 := by rw [hTk.1]; have h1 := few_tks (l := l) _ 0 (Nat.le_refl _); have h2 := Hn.out; omega
    clear hown hb2 hft hFF hTk hcm1
    go_upto_region 8 with fail
    obtain ⟨V3, hV3⟩ : ∃ V, V = w2.alloc (fvO (FC : Nat) (FA : Nat)) := ⟨_, rfl⟩
    have hb3 : Below w2.heap.size w2 V3 := by rw [hV3]; exact (Below.refl _ _).alloc (Nat.le_refl _) _
    have hf3 : V3.heap[w2.heap.size]? = some (fvO (FC : Nat) (FA : Nat)) := by rw [hV3]; exact heap_alloc_new _ _
    rw [← hV3]
    have HB13 := Lib.hid (below_tr HB2.out hb3)
    have HF3 := Lib.hid hf3
    have HT3 := Lib.hid (HTk.out.below hb3 (Nat.le_refl _))
    have hsz : P < w2.heap.size := Nat.lt_of_lt_of_le hPl1 HB2.out.size
    have hsz3 : w2.heap.size < V3.heap.size := lt_blk hf3
    have HPL := Lib.hid (show PL V3 V3 P (.slice A n c) (.slice none 0 0) [] from ⟨by rw [HB13.out.block _ hPl1]; exact HP1.out, World.ownsRow_nil _ _ _ _, fun _ _ _ => rfl, Below.refl _ _⟩)
    have HPB3 := Lib.hid (HPB1.out.on HB13.out)
    clear hV3 hb3 hf3
    go_wp2_with fail
    go_loopw [9] (fun s wr => ∃ (i : Nat) (lv : Value), i ≤ N1 ∧ s = .int .i64 i ∧ Hid (PL V3 wr P (.slice A n c) lv (((tks l 0).1.take i).filter solid))) (fun s _ => N1 - (intOf s).toNat)
    case atStart => exact ⟨0, _, Nat.zero_le _, rfl, HPL⟩
    case round =>
      clear HPL
      obtain ⟨i, lv, hi, rfl, HR⟩ := hrel
      by_cases hlt : i < N1
      case pos =>
        obtain ⟨t, ht⟩ : ∃ t, (tks l 0).1[i]? = some t := ⟨_, List.getElem?_eq_getElem (by have := HT3.out.1; omega)⟩
        obtain ⟨g, rfl, hg, hct⟩ := HT3.out.at_ (by omega)
        obtain ⟨q1, q2, q3⟩ := hct i t ht
        have hgP : g ≠ P := by omega
        have hg3 := lt_cell2 q1
        have hgk : wr.heap[g]? = V3.heap[g]? := HR.out.keep g hg3 hgP
        replace q1 := (World.cell?_of_block (a := ⟨g, i * 3, none⟩) hgk).trans q1
        replace q2 := (World.cell?_of_block (a := ⟨g, i * 3 + 1, none⟩) hgk).trans q2
        have q3 : wr.cell? ⟨g, i * 3 + 1 + 1, none⟩ = _ := (World.cell?_of_block (a := ⟨g, i * 3 + 1 + 1, none⟩) hgk).trans q3
        have hsnoc := take_filt ht
        obtain ⟨kd, F, E⟩ := t
        simp only at q1 q2 q3
        by_cases hk : kd = 0
        case pos =>
          subst hk
          rw [if_neg (by simp [solid]), List.append_nil] at hsnoc
          have HR2 := Lib.hid (show PL V3 wr P (.slice A n c) lv (((tks l 0).1.take (i + 1)).filter solid) by rw [hsnoc]; exact HR.out)
          clear hct hsnoc q2 q3
          go_wp2_with fail
          refine ⟨⟨i + 1, lv, by omega, by go_num, HR2⟩, ?_⟩
          simp [intOf] <;> omega
        have hkI : ¬ ((kd : Nat) : Int) = 0 := by omega
        rw [if_pos (by simp [solid, hk])] at hsnoc
        obtain ⟨L, hL⟩ : ∃ L, L = ((tks l 0).1.take i).filter solid := ⟨_, rfl⟩
        rw [← hL] at hsnoc HR
        have hLl : L.length ≤ i := by rw [hL]; exact Nat.le_trans (List.length_filter_le _ _) (by rw [List.length_take]; omega)
        have HSN := Lib.hid hsnoc
        obtain ⟨AL, cL, elv, _⟩ := (Rr.of_own HR.out.row).shape
        obtain ⟨m, hm⟩ : ∃ m, m = L.length := ⟨_, rfl⟩
        rw [← hm] at elv hLl
        subst elv
        have HM := Lib.hid hm
        have hrow : wr.ownsRow V3.heap.size 72 3 (.slice AL m cL) m (tkL .i64 L) := by rw [hm]; have := HR.out.row; rw [hm] at this; exact this
        have HRow := Lib.hid hrow
        have hPr : P < wr.heap.size := lt_blk HR.out.obj
        have hgr : g < wr.heap.size := lt_cell2 q1
        have c1 : wr.cell? ⟨P, 1, none⟩ = some (.slice AL m cL) := by simp [World.cell?, HR.out.obj]
        have c1a : ∀ o, (wr.alloc o).cell? ⟨P, 1, none⟩ = some (.slice AL m cL) := fun o => by rw [World.cell?_alloc_lt _ _ _ hPr]; exact c1
        have q1a : ∀ o, (wr.alloc o).cell? ⟨g, i * 3, none⟩ = _ := fun o => (World.cell?_alloc_lt _ _ _ hgr).trans q1
        have q2a : ∀ o, (wr.alloc o).cell? ⟨g, i * 3 + 1, none⟩ = _ := fun o => (World.cell?_alloc_lt _ _ _ hgr).trans q2
        have q3a : ∀ o, (wr.alloc o).cell? ⟨g, i * 3 + 1 + 1, none⟩ = _ := fun o => (World.cell?_alloc_lt _ _ _ hgr).trans q3
        have hown3 : ∀ k, (Value.slice AL m cL).ownBlock = some k → V3.heap.size ≤ k := fun k e => (HRow.out.lt k e).1
        have hP3 : P < V3.heap.size := by omega
        have HPK := Lib.hid (show ∀ w6 o, (wr.alloc o).grownBy w6 (Value.slice AL m cL).ownBlock → ∀ b, b < V3.heap.size → w6.heap[b]? = wr.heap[b]? from fun w6 o hg b hb => by
          rw [hg.block b (by rw [alloc_size]; have := HR.out.below.size; omega) (fun e => by have := hown3 b e.symm; omega)]
          exact (World.grownBy_alloc wr o none).block b (by have := HR.out.below.size; omega) (by simp))
        have HTB := Lib.hid (show ∀ w6 o, (wr.alloc o).grownBy w6 (Value.slice AL m cL).ownBlock → w6.cell? ⟨P, 1, none⟩ = some (.slice AL m cL) ∧ w6.frozen? ⟨P, 1, none⟩ = false from fun w6 o hg => by
          have e := HPK.out w6 o hg P hP3
          exact ⟨(World.cell?_of_block (a := ⟨P, 1, none⟩) e).trans c1, (World.frozen?_of_block (a := ⟨P, 1, none⟩) e).trans (by simp [World.frozen?, HR.out.obj])⟩)
        have hbs : V3.heap.size ≤ wr.heap.size := HR.out.below.size
        clear hct hsnoc hm hrow hL hown3 hgk
        go_upto_region 12 with fail
        go_region_law (refine step_own rfl (.tmp 49) (.tmp 54) 66 rfl V3.heap.size 72 i7 _ 3 24 Tryz.underlying66 hi7 hy0 hy1 hy2 zc3 (by decide) _ m (tkL .i64 L) rfl (HRow.out.alloc _) ⟨wr.heap.size, 0, none⟩ 1 1 [.int .i64 (kd : Nat), .int .i64 (F : Nat), .int .i64 (E : Nat)] rfl rfl (Jk.cells_new _ _ rfl) (one3 _ _ _) (by unfold maxLen; omega) (by omega) (by simp; omega) ?_; intro v' w6 hown6 hg6 hl6; obtain ⟨c6, f6⟩ := HTB.out _ _ (by first | exact hg6 | exact gDrew hg6); obtain ⟨vA, vc, rfl, _⟩ := (Rr.of_own hown6).shape)
        all_goals
          have HPL := Lib.hid (show PL V3 (w6.setCell ⟨P, 1, none⟩ (.slice vA (m + 1) vc)) P (.slice A n c) (.slice vA (m + 1) vc) (((tks l 0).1.take (i + 1)).filter solid) from by
            have hk6 := HPK.out w6 _ (by first | exact hg6 | exact gDrew hg6)
            refine ⟨?_, ?_, fun b hb hne => by rw [heap_setCell_other _ _ _ _ hne, hk6 b hb]; exact HR.out.keep b hb hne, ?_⟩
            · exact heap_setCell_same w6 P 1 #[.slice A n c, .slice AL m cL, .int .i64 ((0 : Nat) : Int), .int .i64 ((0 : Nat) : Int), .int .i64 ((0 : Nat) : Int), .slice none 0 0, .int .i64 0, .int .i64 ((0 : Nat) : Int), .int .i64 ((0 : Nat) : Int)] _ _ (by rw [hk6 P hP3]; exact HR.out.obj)
            · rw [HSN.out, tkL_snoc, List.length_append, ← HM.out]
              exact own_keep hown6 fun k hk => heap_setCell_other _ _ _ _ (show k ≠ P by have := (hown6.lt k hk).1; omega)
            · have b9 : Below P wr (wr.alloc (.cells #[.int .i64 (kd : Nat), .int .i64 (F : Nat), .int .i64 (E : Nat)] 72)) := (Below.refl P wr).alloc (by omega) _
              exact (HR.out.below.trans ((b9.grown (by first | exact hg6 | exact gDrew hg6) (by rw [alloc_size]; omega) fun k e => by have := (HRow.out.lt k e).1; omega))).setCell (show P ≤ P from Nat.le_refl P) _)
          clear hown6 hg6 hl6 c6 f6
          go_wp2_with fail
          refine ⟨⟨i + 1, _, by omega, by go_num, HPL⟩, ?_⟩
          simp [intOf] <;> omega
      obtain rfl : i = N1 := by omega
      have hall : ((tks l 0).1.take i).filter solid = sol l := by rw [List.take_of_length_le (Nat.le_of_eq HT3.out.1.symm)]; rfl
      rw [hall] at HR
      clear hall
      obtain ⟨AL, cL, elv, hNc2, hcL, _⟩ := (Rr.of_own HR.out.row).shape
      obtain ⟨NS, hNS⟩ : ∃ m, m = (sol l).length := ⟨_, rfl⟩
      rw [← hNS] at elv hNc2
      subst elv
      have HNS := Lib.hid hNS
      have hNS6 : NS ≤ 10000 := by
        rw [hNS]; have h1 : (sol l).length ≤ (tks l 0).1.length := List.length_filter_le _ _
        have h2 := HT3.out.1; omega
      have hfk : wr.heap[w2.heap.size]? = some (fvO (FC : Nat) (FA : Nat)) := by rw [HR.out.keep _ hsz3 (by omega)]; exact HF3.out
      have g0 : wr.cell? ⟨w2.heap.size, 0, none⟩ = some (.int .i64 (FC : Nat)) := by simp [World.cell?, hfk]
      have g1 : wr.cell? ⟨w2.heap.size, 1, none⟩ = some (.int .i64 (FA : Nat)) := by simp [World.cell?, hfk]
      have o2 : wr.cell? ⟨P, 2, none⟩ = some (.int .i64 ((0 : Nat) : Int)) := by simp [World.cell?, HR.out.obj]
      have o3 : wr.cell? ⟨P, 3, none⟩ = some (.int .i64 ((0 : Nat) : Int)) := by simp [World.cell?, HR.out.obj]
      have zo : ∀ k, wr.frozen? ⟨P, k, none⟩ = false := fun k => by simp [World.frozen?, HR.out.obj]
      clear hfk hNS
      go_upto_region 14 with fail
      obtain ⟨W4, hW4⟩ : ∃ V, V = (wr.setCell ⟨P, 2, none⟩ (.int .i64 (FC : Nat))).setCell ⟨P, 3, none⟩ (.int .i64 (FA : Nat)) := ⟨_, rfl⟩
      have key4 : ∀ b, b ≠ P → W4.heap[b]? = wr.heap[b]? := fun b hb => by rw [hW4, heap_setCell_other _ _ _ _ hb, heap_setCell_other _ _ _ _ hb]
      have obj4 : W4.heap[P]? = some (rpO (.slice A n c) (.slice AL NS cL) (FC, FA) 0 (.slice none 0 0) 0 0) := by rw [hW4]; exact heap_setCell_same _ _ _ _ _ _ (heap_setCell_same _ _ _ _ _ _ HR.out.obj)
      have bel4 : Below P V3 W4 := by rw [hW4]; exact (HR.out.below.setCell (show P ≤ P from Nat.le_refl P) _).setCell (show P ≤ P from Nat.le_refl P) _
      rw [← hW4]
      clear hW4 g0 g1 o2 o3 zo
      have hPV3 : P < V3.heap.size := by omega
      have hrow4 : W4.ownsRow V3.heap.size 72 3 (.slice AL NS cL) NS (tkL .i64 (sol l)) := by
        have h := HR.out.row
        rw [← HNS.out] at h
        exact own_keep h fun k hk => key4 k (by have := (h.lt k hk).1; omega)
      have keep4 : ∀ b, b < V3.heap.size → b ≠ P → W4.heap[b]? = V3.heap[b]? := fun b h1 h2 => (key4 b h2).trans (HR.out.keep b h1 h2)
      have hfk4 : W4.heap[w2.heap.size]? = some (fvO (FC : Nat) (FA : Nat)) := by rw [keep4 _ hsz3 (by omega)]; exact HF3.out
      have g0 : W4.cell? ⟨w2.heap.size, 0, none⟩ = some (.int .i64 (FC : Nat)) := by simp [World.cell?, hfk4]
      have o2 : W4.cell? ⟨P, 2, none⟩ = some (.int .i64 (FC : Nat)) := by simp [World.cell?, obj4]
      have o3 : W4.cell? ⟨P, 3, none⟩ = some (.int .i64 (FA : Nat)) := by simp [World.cell?, obj4]
      have zo : ∀ k, W4.frozen? ⟨P, k, none⟩ = false := fun k => by simp [World.frozen?, obj4]
      clear key4 hfk4
      rcases HFF.out with ⟨hnone, rfl, rfl⟩ | ⟨hsome, rfl⟩
      · have HNO := Lib.hid hnone
        have HOB4 := Lib.hid obj4
        have HRW4 := Lib.hid hrow4
        have HKP4 := Lib.hid keep4
        have HBL4 := Lib.hid bel4
        clear hnone obj4 hrow4 keep4 bel4 HR HFF
        go_upto_region 16 with fail
        obtain ⟨W5, hW5⟩ : ∃ V, V = (W4.setCell ⟨P, 2, none⟩ (.int .i64 ((3 : Nat) : Int))).setCell ⟨P, 3, none⟩ (.int .i64 (n : Nat)) := ⟨_, rfl⟩
        have hW5' : W5 = (W4.setCell ⟨P, 2, none⟩ (.int .i64 3)).setCell ⟨P, 3, none⟩ (.int .i64 (n : Nat)) := hW5
        have key5 : ∀ b, b ≠ P → W5.heap[b]? = W4.heap[b]? := fun b hb => by rw [hW5, heap_setCell_other _ _ _ _ hb, heap_setCell_other _ _ _ _ hb]
        have obj5 : W5.heap[P]? = some (rpO (.slice A n c) (.slice AL NS cL) (3, n) 0 (.slice none 0 0) 0 0) := by rw [hW5]; exact heap_setCell_same _ _ _ _ _ _ (heap_setCell_same _ _ _ _ _ _ HOB4.out)
        have bel5 : Below P V3 W5 := by rw [hW5]; exact (HBL4.out.setCell (show P ≤ P from Nat.le_refl P) _).setCell (show P ≤ P from Nat.le_refl P) _
        have hrow5 := own_keep HRW4.out fun k hk => key5 k (by have := (HRW4.out.lt k hk).1; omega)
        have keep5 : ∀ b, b < V3.heap.size → b ≠ P → W5.heap[b]? = V3.heap[b]? := fun b h1 h2 => (key5 b h2).trans (HKP4.out b h1 h2)
        have hen : enOf l = (3, n) := by unfold enOf; rw [HNO.out, Hn.out]
        rw [← hW5']
        clear hW5 hW5' key5 g0 o2 o3 zo
        obtain ⟨EA, hEA⟩ : ∃ EA : Nat, EA = n := ⟨_, rfl⟩
        replace obj5 : W5.heap[P]? = some (rpO (.slice A n c) (.slice AL NS cL) (3, EA) 0 (.slice none 0 0) 0 0) := by rw [hEA]; exact obj5
        rw [← hEA] at hen
        clear hEA
        have HPBW := Lib.hid (PB_onP HPB3.out bel5 HPW.out)
        obtain ⟨AL', NS', cL', eAL, _, _, _, hTk5⟩ := own_tk (ts := sol l) (by rw [← HNS.out]; exact hrow5)
        injection eAL with e1 e2 e3
        subst e1; subst e2; subst e3
        have HFB := Lib.hid (show W5.heap[w2.heap.size]? = some (fvO (0 : Nat) (0 : Nat)) by rw [keep5 _ hsz3 (by omega)]; exact HF3.out)
        have hW5s : V3.heap.size ≤ W5.heap.size := bel5.size
        have HRE := Lib.hid (show RE W5 P l (sol l) A AL n c NS cL from ⟨(HA.out.below HPBW.out.below).more (by have := HPW.out; omega), Hn.out, HHC.out.1, HHC.out.2, hTk5.low (by omega), hNc2, hcL, hs, hNS6, fun t ht => by
          have hm := (List.mem_filter.1 ht).1
          have h1 := tks_mem hm
          have h2 := (sol_sol l t ht).2
          exact ⟨h1.1, h1.2, h2⟩⟩)
        have HRP := Lib.hid (show RP W5 W5 P (.slice A n c) (.slice AL NS cL) (enOf l) 0 (.slice none 0 0) 0 0 (fun _ => .no) [] from ⟨by rw [hen]; exact obj5, NT.start, fun _ _ _ => rfl, Below.refl _ _, lt_blk obj5, Nat.le_refl _, fun i x h => by simp at h⟩)
        have HVAL := Lib.hid (value_any HRE.out (2 * (sol l).length + 2) W5 0 (.slice none 0 0) (fun _ => .no) [] 0 (by omega) (by rw [List.drop_zero]; omega) HRP.out)
        clear obj5 bel5 hrow5 keep5 hTk5
        go_wp2_with fail
        refine (show Calls Tryz.prog 24 #[.pointer (some ⟨P, 0, none⟩), .int .i64 0] W5 _ from HVAL.out).mono ?_
        rintro e wv hv
        unfold ValP at hv
        rw [List.drop_zero] at hv
        cases hpv : pv (envL l (enOf l)) (2 * (sol l).length + 2) 0 (sol l) with
        | out => exact absurd hpv (pv_in _ _ _ (by omega))
        | bad cc kk =>
          rw [hpv] at hv
          obtain ⟨z, rfl, a', tv', lab', X', RB⟩ := hv
          have HE := Lib.hid (show parseR l = .bad cc kk by rw [HOK.out]; unfold doc; rw [hpv])
          clear hpv
          have c4 := RB.cells.2.2.2.2.1
          have c1 := RB.cells.2.1
          go_upto_region 17 with fail
          go_quiet (fail)
          have HPB := Lib.hid (PB_onP HPBW.out RB.below HPW.out)
          obtain ⟨t0, t1, f0, f1⟩ := HPB.out.cells
          have ft : ∀ k, wv.frozen? ⟨w.heap.size, k, none⟩ = false := fun k => by simp [World.frozen?, HPB.out.t]
          have ff : ∀ k, wv.frozen? ⟨w.heap.size + 1, k, none⟩ = false := fun k => by simp [World.frozen?, HPB.out.f]
          have c7 := RB.cells.2.2.2.2.2.2.1
          have c8 := RB.cells.2.2.2.2.2.2.2
          clear RB
          go_upto_region 22 with fail
          go_region
          all_goals
            go_wp2_with fail
            refine bodyPost_ret (v := .tuple #[.agg #[.slice none 0 0, .int .i64 0], .agg #[.int .i64 (cc : Nat), .int .i64 (kk : Nat)]]) (by simp [results, Tryz.results10, go_sem, *]) rfl ?_
            unfold ParseD
            rw [HE.out]
            exact ⟨by repeat first | exact HPB.out.below | refine Below.drew ?_ | refine bdn ?_ _ | refine Below.setCell ?_ (by first | exact Nat.le_refl _ | exact Nat.le_succ _) _, rfl⟩
        | ok v r =>
          rw [hpv] at hv
          obtain ⟨rfl, a', tv', lab', X', RV, hdr, hmap, hlt', htop⟩ := hv
          have HRV := Lib.hid RV
          have c4 := RV.cells.2.2.2.2.1
          have c1 := RV.cells.2.1
          have hfv : wv.heap[w2.heap.size]? = some (fvO (0 : Nat) (0 : Nat)) := by rw [RV.keep _ (by omega) (by omega)]; exact HFB.out
          have g0 : wv.cell? ⟨w2.heap.size, 0, none⟩ = some (.int .i64 (0 : Nat)) := by simp [World.cell?, hfv]
          have g1 : wv.cell? ⟨w2.heap.size, 1, none⟩ = some (.int .i64 (0 : Nat)) := by simp [World.cell?, hfv]
          clear hfv
          cases r with
          | cons t2 r2 =>
            have haS : a' < (sol l).length := by have := congrArg List.length hdr; rw [List.length_drop, List.length_cons] at this; omega
            obtain ⟨t3, ht3⟩ : ∃ t, (sol l)[a']? = some t := ⟨_, List.getElem?_eq_getElem haS⟩
            have ht32 : t3 = t2 := by have := drop_at ht3; rw [hdr] at this; injection this with this _; exact this.symm
            subst ht32
            obtain ⟨gT, eT, _, hct⟩ := (HRE.out.on RV).2.at_ (by have := HNS.out; omega)
            subst eT
            obtain ⟨_, q2, _⟩ := hct a' t3 ht3
            have hq2 : gT < wv.heap.size := lt_cell2 q2
            have haN : a' < NS := by rw [HNS.out]; exact haS
            have HWR := Lib.hid (fun (wx : World) (hb : Below wv.heap.size wv wx) => wrong_any (k1 := 3) (k2 := t3.2.1) (HRV.out.on hb) (y1 := 3) (y2 := (t3.2.1 : Nat)) rfl rfl)
            have HE := Lib.hid (show parseR l = .bad 3 t3.2.1 by rw [HOK.out]; unfold doc; rw [hpv])
            clear RV hct hdr hmap hpv ht3
            go_upto_region 17 with fail
            go_quiet (fail)
            go_upto_region 18 with fail
            go_region_with (go_at_call 25; refine (HWR.out _ (by first | exact bdn (Below.refl _ _) _ | exact (bdn (Below.refl _ _) _).drew)).mono ?_; rintro e w8 ⟨rfl, R8⟩)
            all_goals
              clear c4 c1 g0 g1 q2
              have HPB := Lib.hid (PB_onP HPBW.out R8.below HPW.out)
              obtain ⟨t0, t1, f0, f1⟩ := HPB.out.cells
              have ft : ∀ k, w8.frozen? ⟨w.heap.size, k, none⟩ = false := fun k => by simp [World.frozen?, HPB.out.t]
              have ff : ∀ k, w8.frozen? ⟨w.heap.size + 1, k, none⟩ = false := fun k => by simp [World.frozen?, HPB.out.f]
              have c7 := R8.cells.2.2.2.2.2.2.1
              have c8 := R8.cells.2.2.2.2.2.2.2
              clear R8
              go_upto_region 22 with fail
              go_region
              all_goals
                go_wp2_with fail
                refine bodyPost_ret (v := .tuple #[.agg #[.slice none 0 0, .int .i64 0], .agg #[.int .i64 (3 : Nat), .int .i64 (t3.2.1 : Nat)]]) (by simp [results, Tryz.results10, go_sem, *]) rfl ?_
                unfold ParseD
                rw [HE.out]
                exact ⟨by repeat first | exact HPB.out.below | refine Below.drew ?_ | refine bdn ?_ _ | refine Below.setCell ?_ (by first | exact Nat.le_refl _ | exact Nat.le_succ _) _, rfl⟩
          | nil =>
            have haN : ¬ a' < NS := by
              have := congrArg List.length hdr
              rw [List.length_drop, List.length_nil] at this; have := HNS.out; omega
            have HE := Lib.hid (show parseR l = .ok (v.nds 0) by rw [HOK.out]; unfold doc; rw [hpv, HNO.out])
            obtain ⟨tA, tc, etv⟩ : ∃ A c, tv' = .slice A X'.length c := by
              obtain ⟨A, c, e, _⟩ := (Rr.of_own RV.nt.row).shape
              exact ⟨A, c, e⟩
            subst etv
            obtain ⟨xl, hxl⟩ : ∃ xl, xl = X'.length := ⟨_, rfl⟩
            have HXL := Lib.hid hxl
            have HPB := Lib.hid (PB_onP HPBW.out RV.below HPW.out)
            have c5 := RV.cells.2.2.2.2.2.1
            rw [← hxl] at c5
            have c6 : wv.cell? ⟨P, 6, none⟩ = some (.int .i64 0) := by simp [World.cell?, RV.obj]
            have HMP := Lib.hid hmap
            clear RV hdr hmap hpv hxl
            go_upto_region 17 with fail
            go_quiet (fail)
            go_upto_region 23 with fail
            obtain ⟨t0, t1, f0, f1⟩ := HPB.out.cells
            have ft : ∀ k, wv.frozen? ⟨w.heap.size, k, none⟩ = false := fun k => by simp [World.frozen?, HPB.out.t]
            have ff : ∀ k, wv.frozen? ⟨w.heap.size + 1, k, none⟩ = false := fun k => by simp [World.frozen?, HPB.out.f]
            go_wp2_with fail
            refine bodyPost_ret (v := .tuple #[.agg #[.slice tA xl tc, .int .i64 0], .agg #[.int .i64 0, .int .i64 0]]) (by simp [results, Tryz.results10, go_sem, *]) rfl ?_
            unfold ParseD
            rw [HE.out]
            refine ⟨by repeat first | exact HPB.out.below | refine Below.drew ?_ | refine bdn ?_ _ | refine Below.setCell ?_ (by first | exact Nat.le_refl _ | exact Nat.le_succ _) _, tA, xl, tc, lab', X', rfl, ?_, ⟨HXL.out, by rw [HXL.out]; have h1 := HRV.out.few.1; have h2 := HNS.out; omega⟩, by rw [HMP.out]; rfl⟩
            have hlow : w.heap.size + 1 < W5.heap.size := lt_blk HPBW.out.f
            rw [HXL.out]
            refine Tr_low (NT.tr (HRV.out.nt.keep (fun k hk _ _ => ?_) (fun _ _ => rfl) fun _ q => q)) (by omega)
            rw [heap_setCell_other _ _ _ _ (show k ≠ w.heap.size + 1 by omega), heap_setCell_other _ _ _ _ (show k ≠ w.heap.size + 1 by omega), heap_setCell_other _ _ _ _ (show k ≠ w.heap.size by omega), heap_setCell_other _ _ _ _ (show k ≠ w.heap.size by omega)]
            rfl
      · have HSO := Lib.hid hsome
        have HOB4 := Lib.hid obj4
        have HRW4 := Lib.hid hrow4
        have HKP4 := Lib.hid keep4
        have HBL4 := Lib.hid bel4
        clear obj4 hrow4 keep4 bel4
        go_upto_region 16 with fail
        obtain ⟨W5, hW5⟩ : ∃ V, V = W4 := ⟨_, rfl⟩
        have obj4 := HOB4.out
        have hrow4 := HRW4.out
        have keep4 := HKP4.out
        have bel4 := HBL4.out
        rw [← hW5] at obj4 hrow4 keep4 bel4 ⊢
        have obj5 := obj4
        have bel5 := bel4
        have hrow5 := hrow4
        have keep5 := keep4
        have hen : enOf l = (3, FA) := by unfold enOf; rw [HSO.out]
        clear hsome obj4 hrow4 keep4 bel4 HR HFF o2 o3 zo hW5 g0
        obtain ⟨EA, hEA⟩ : ∃ EA : Nat, EA = FA := ⟨_, rfl⟩
        replace obj5 : W5.heap[P]? = some (rpO (.slice A n c) (.slice AL NS cL) (3, EA) 0 (.slice none 0 0) 0 0) := by rw [hEA]; exact obj5
        rw [← hEA] at hen
        clear hEA
        have HPBW := Lib.hid (PB_onP HPB3.out bel5 HPW.out)
        obtain ⟨AL', NS', cL', eAL, _, _, _, hTk5⟩ := own_tk (ts := sol l) (by rw [← HNS.out]; exact hrow5)
        injection eAL with e1 e2 e3
        subst e1; subst e2; subst e3
        have HFB := Lib.hid (show W5.heap[w2.heap.size]? = some (fvO (3 : Nat) (FA : Nat)) by rw [keep5 _ hsz3 (by omega)]; exact HF3.out)
        have hW5s : V3.heap.size ≤ W5.heap.size := bel5.size
        have HRE := Lib.hid (show RE W5 P l (sol l) A AL n c NS cL from ⟨(HA.out.below HPBW.out.below).more (by have := HPW.out; omega), Hn.out, HHC.out.1, HHC.out.2, hTk5.low (by omega), hNc2, hcL, hs, hNS6, fun t ht => by
          have hm := (List.mem_filter.1 ht).1
          have h1 := tks_mem hm
          have h2 := (sol_sol l t ht).2
          exact ⟨h1.1, h1.2, h2⟩⟩)
        have HRP := Lib.hid (show RP W5 W5 P (.slice A n c) (.slice AL NS cL) (enOf l) 0 (.slice none 0 0) 0 0 (fun _ => .no) [] from ⟨by rw [hen]; exact obj5, NT.start, fun _ _ _ => rfl, Below.refl _ _, lt_blk obj5, Nat.le_refl _, fun i x h => by simp at h⟩)
        have HVAL := Lib.hid (value_any HRE.out (2 * (sol l).length + 2) W5 0 (.slice none 0 0) (fun _ => .no) [] 0 (by omega) (by rw [List.drop_zero]; omega) HRP.out)
        clear obj5 bel5 hrow5 keep5 hTk5
        go_wp2_with fail
        refine (show Calls Tryz.prog 24 #[.pointer (some ⟨P, 0, none⟩), .int .i64 0] W5 _ from HVAL.out).mono ?_
        rintro e wv hv
        unfold ValP at hv
        rw [List.drop_zero] at hv
        cases hpv : pv (envL l (enOf l)) (2 * (sol l).length + 2) 0 (sol l) with
        | out => exact absurd hpv (pv_in _ _ _ (by omega))
        | bad cc kk =>
          rw [hpv] at hv
          obtain ⟨z, rfl, a', tv', lab', X', RB⟩ := hv
          have HE := Lib.hid (show parseR l = .bad cc kk by rw [HOK.out]; unfold doc; rw [hpv])
          clear hpv
          have c4 := RB.cells.2.2.2.2.1
          have c1 := RB.cells.2.1
          go_upto_region 17 with fail
          go_quiet (fail)
          have HPB := Lib.hid (PB_onP HPBW.out RB.below HPW.out)
          obtain ⟨t0, t1, f0, f1⟩ := HPB.out.cells
          have ft : ∀ k, wv.frozen? ⟨w.heap.size, k, none⟩ = false := fun k => by simp [World.frozen?, HPB.out.t]
          have ff : ∀ k, wv.frozen? ⟨w.heap.size + 1, k, none⟩ = false := fun k => by simp [World.frozen?, HPB.out.f]
          have c7 := RB.cells.2.2.2.2.2.2.1
          have c8 := RB.cells.2.2.2.2.2.2.2
          clear RB
          go_upto_region 22 with fail
          go_region
          all_goals
            go_wp2_with fail
            refine bodyPost_ret (v := .tuple #[.agg #[.slice none 0 0, .int .i64 0], .agg #[.int .i64 (cc : Nat), .int .i64 (kk : Nat)]]) (by simp [results, Tryz.results10, go_sem, *]) rfl ?_
            unfold ParseD
            rw [HE.out]
            exact ⟨by repeat first | exact HPB.out.below | refine Below.drew ?_ | refine bdn ?_ _ | refine Below.setCell ?_ (by first | exact Nat.le_refl _ | exact Nat.le_succ _) _, rfl⟩
        | ok v r =>
          rw [hpv] at hv
          obtain ⟨rfl, a', tv', lab', X', RV, hdr, hmap, hlt', htop⟩ := hv
          have HRV := Lib.hid RV
          have c4 := RV.cells.2.2.2.2.1
          have c1 := RV.cells.2.1
          have hfv : wv.heap[w2.heap.size]? = some (fvO (3 : Nat) (FA : Nat)) := by rw [RV.keep _ (by omega) (by omega)]; exact HFB.out
          have g0 : wv.cell? ⟨w2.heap.size, 0, none⟩ = some (.int .i64 (3 : Nat)) := by simp [World.cell?, hfv]
          have g1 : wv.cell? ⟨w2.heap.size, 1, none⟩ = some (.int .i64 (FA : Nat)) := by simp [World.cell?, hfv]
          clear hfv
          cases r with
          | cons t2 r2 =>
            have haS : a' < (sol l).length := by have := congrArg List.length hdr; rw [List.length_drop, List.length_cons] at this; omega
            obtain ⟨t3, ht3⟩ : ∃ t, (sol l)[a']? = some t := ⟨_, List.getElem?_eq_getElem haS⟩
            have ht32 : t3 = t2 := by have := drop_at ht3; rw [hdr] at this; injection this with this _; exact this.symm
            subst ht32
            obtain ⟨gT, eT, _, hct⟩ := (HRE.out.on RV).2.at_ (by have := HNS.out; omega)
            subst eT
            obtain ⟨_, q2, _⟩ := hct a' t3 ht3
            have hq2 : gT < wv.heap.size := lt_cell2 q2
            have haN : a' < NS := by rw [HNS.out]; exact haS
            have HWR := Lib.hid (fun (wx : World) (hb : Below wv.heap.size wv wx) => wrong_any (k1 := 3) (k2 := t3.2.1) (HRV.out.on hb) (y1 := 3) (y2 := (t3.2.1 : Nat)) rfl rfl)
            have HE := Lib.hid (show parseR l = .bad 3 t3.2.1 by rw [HOK.out]; unfold doc; rw [hpv])
            clear RV hct hdr hmap hpv ht3
            go_upto_region 17 with fail
            go_quiet (fail)
            go_upto_region 18 with fail
            go_region_with (go_at_call 25; refine (HWR.out _ (by first | exact bdn (Below.refl _ _) _ | exact (bdn (Below.refl _ _) _).drew)).mono ?_; rintro e w8 ⟨rfl, R8⟩)
            all_goals
              clear c4 c1 g0 g1 q2
              have HPB := Lib.hid (PB_onP HPBW.out R8.below HPW.out)
              obtain ⟨t0, t1, f0, f1⟩ := HPB.out.cells
              have ft : ∀ k, w8.frozen? ⟨w.heap.size, k, none⟩ = false := fun k => by simp [World.frozen?, HPB.out.t]
              have ff : ∀ k, w8.frozen? ⟨w.heap.size + 1, k, none⟩ = false := fun k => by simp [World.frozen?, HPB.out.f]
              have c7 := R8.cells.2.2.2.2.2.2.1
              have c8 := R8.cells.2.2.2.2.2.2.2
              clear R8
              go_upto_region 22 with fail
              go_region
              all_goals
                go_wp2_with fail
                refine bodyPost_ret (v := .tuple #[.agg #[.slice none 0 0, .int .i64 0], .agg #[.int .i64 (3 : Nat), .int .i64 (t3.2.1 : Nat)]]) (by simp [results, Tryz.results10, go_sem, *]) rfl ?_
                unfold ParseD
                rw [HE.out]
                exact ⟨by repeat first | exact HPB.out.below | refine Below.drew ?_ | refine bdn ?_ _ | refine Below.setCell ?_ (by first | exact Nat.le_refl _ | exact Nat.le_succ _) _, rfl⟩
          | nil =>
            have haN : ¬ a' < NS := by
              have := congrArg List.length hdr
              rw [List.length_drop, List.length_nil] at this; have := HNS.out; omega
            have HE := Lib.hid (show parseR l = .bad 3 FA by rw [HOK.out]; unfold doc; rw [hpv, HSO.out])
            have HWR := Lib.hid (fun (wx : World) (hb : Below wv.heap.size wv wx) => wrong_any (k1 := 3) (k2 := FA) (HRV.out.on hb) (y1 := 3) (y2 := (FA : Nat)) rfl rfl)
            clear RV hdr hmap hpv
            go_upto_region 17 with fail
            go_quiet (fail)
            go_upto_region 21 with (go_at_call 25; refine (HWR.out _ (by first | exact bdn (Below.refl _ _) _ | exact Below.refl _ _)).mono ?_; rintro e w8 ⟨rfl, R8⟩)
            clear c4 c1 g0 g1
            have HPB := Lib.hid (PB_onP HPBW.out R8.below HPW.out)
            obtain ⟨t0, t1, f0, f1⟩ := HPB.out.cells
            have ft : ∀ k, w8.frozen? ⟨w.heap.size, k, none⟩ = false := fun k => by simp [World.frozen?, HPB.out.t]
            have ff : ∀ k, w8.frozen? ⟨w.heap.size + 1, k, none⟩ = false := fun k => by simp [World.frozen?, HPB.out.f]
            have c7 := R8.cells.2.2.2.2.2.2.1
            have c8 := R8.cells.2.2.2.2.2.2.2
            clear R8
            go_upto_region 22 with fail
            go_region
            all_goals
              go_wp2_with fail
              refine bodyPost_ret (v := .tuple #[.agg #[.slice none 0 0, .int .i64 0], .agg #[.int .i64 (3 : Nat), .int .i64 (FA : Nat)]]) (by simp [results, Tryz.results10, go_sem, *]) rfl ?_
              unfold ParseD
              rw [HE.out]
              exact ⟨by repeat first | exact HPB.out.below | refine Below.drew ?_ | refine bdn ?_ _ | refine Below.setCell ?_ (by first | exact Nat.le_refl _ | exact Nat.le_succ _) _, rfl⟩
end R9
end Jt
end Go.Proofs.YtdclhepjoifpiaaGreatDoor
