/- The law TreesBack: a value is that of the root of its tree, each node is one of its parts, and a tree with a node more, or a Sub twice, may not be; proved of every value and number in the bounds of the form. -/
import Derived.Test.YtggeiajbcehkjaaGreatDoorRows
import Derived.Test.YtggeiajbcehkjaaGreatDoorCards
import Derived.Test.YtggeiajbcehkjaaGreatDoorTie
import Derived.Test.YtggeiajbcehkjaaGreatDoorHba
import Derived.Test.YtggeiajbcehkjaaGreatDoorGbu
import Derived.Test.YtggeiajbcehkjaaGreatDoorGbg
import Derived.SevenTiedAt
import Derived.Deep.DeepHandedRow
import Derived.Laws.IdiomArrays
import Derived.ChangeMaps5
namespace Go.Proofs.YtggeiajbcehkjaaGreatDoor
open Go.ChangeShapes Go.WideShapes Go.ChangeAt Go.RowKit Go.ChangeMaps

theorem treesBackUpto_reads (os : Os) {H : Type} (enc : TypeId × Value → H) : (DataW.whole enc Tryz.prog ((World.laidAll Tryz.prog os Tt.laid5).forCall (fun _ _ => 0) ⟨#[], #[.agg #[.int .u8 0, .string ⟨#[]⟩, .slice none 0 0, .slice none 0 0], .int .u16 0], []⟩).memory Tryz.f5.params.toList Rows.treesBackSpec.vars false #[.agg #[.int .u8 0, .string ⟨#[]⟩, .slice none 0 0, .slice none 0 0], .int .u16 0].toList 8).isSome = true := by kernel_rfl

theorem treesBackUpto_bulk (os : Os) {H : Type} (enc : TypeId × Value → H) {x : List (DataW H) × List (DataW H) × List MemPlace} (hx : DataW.whole enc Tryz.prog ((World.laidAll Tryz.prog os Tt.laid5).forCall (fun _ _ => 0) ⟨#[], #[.agg #[.int .u8 0, .string ⟨#[]⟩, .slice none 0 0, .slice none 0 0], .int .u16 0], []⟩).memory Tryz.f5.params.toList Rows.treesBackSpec.vars false #[.agg #[.int .u8 0, .string ⟨#[]⟩, .slice none 0 0, .slice none 0 0], .int .u16 0].toList 8 = some x) : Rows.uptoSmall H (x.1 ++ x.2.1) = true := by
  have e : ((DataW.whole enc Tryz.prog ((World.laidAll Tryz.prog os Tt.laid5).forCall (fun _ _ => 0) ⟨#[], #[.agg #[.int .u8 0, .string ⟨#[]⟩, .slice none 0 0, .slice none 0 0], .int .u16 0], []⟩).memory Tryz.f5.params.toList Rows.treesBackSpec.vars false #[.agg #[.int .u8 0, .string ⟨#[]⟩, .slice none 0 0, .slice none 0 0], .int .u16 0].toList 8).map fun y => Rows.uptoSmall H (y.1 ++ y.2.1)) = some true := by kernel_rfl
  rw [hx] at e
  simpa using e

set_option maxRecDepth 100000 in
theorem treesBackUpto_lifted (os : Os) (started : os.Started) (H : Type) (enc : TypeId × Value → H) (F : Stop.Interp) :
    ReturnsInHanded {} Tryz.checked os 5 .any ((Rows.OpenSpec.upto Rows.treesBackSpec).preRow enc Tryz.prog Tryz.f5 [] false Tt.laid5) (((Rows.OpenSpec.upto Rows.treesBackSpec).at F).post enc Tryz.prog Tryz.f5 false true false false) := by
  obtain ⟨wx, hx⟩ := Option.isSome_iff_exists.1 (treesBackUpto_reads os enc)
  refine returnsInHanded_of_row (C := Tryz.checked) (s := Rows.OpenSpec.upto Rows.treesBackSpec) Tt.own started (by kernel_rfl) Tryz.func5
    ⟨World.laidAll Tryz.prog os Tt.laid5, fun _ _ => 0, ⟨#[], #[.agg #[.int .u8 0, .string ⟨#[]⟩, .slice none 0 0, .slice none 0 0], .int .u16 0], []⟩, World.laidAll_os _ _ _, World.shaped_of_ZipB (by kernel_rfl) (by kernel_rfl), rfl, (Input.okWide_of_okWideB (P := Tryz.prog) (f := 5) (by kernel_rfl)).2,
      OpenSpec.preRow_of_cond 8 hx rfl (fun k hk => by cases hk; exact treesBackUpto_bulk os enc hx) (by kernel_rfl) (Tt.door_met os _), by
        simp only [Assume.holds]
        refine ⟨?_, ?_, ?_, ?_, ?_⟩ <;> intros <;> simp_all⟩ ?_
  intro W base args ds gs before hval0 hW _ hcond _ hL hsh _
  have hbulk : Rows.uptoBulkAll (ds ++ gs) ≤ 1048576 := of_decide_eq_true (hcond _ rfl)
  have hval : ∀ (j : Nat) t v, Tryz.f5.params[j]? = some t → args[j]? = some v → Value.okWide Tryz.prog W .any base t v := hval0
  have hW' := hW
  obtain ⟨p, q, hA0, hV, rfl, hfz, hnd⟩ := hW
  have hA : DataW.TrodAll enc Tryz.prog W 0 (fun _ => true) true Tryz.f5.params.toList args.toList ds p := hA0
  rw [Tryz.params5] at hA hval
  obtain ⟨v0, vs0, d0, ds0, p0, q0, hargs, rfl, rfl, h0, r0⟩ := trodAll_cons hA
  obtain ⟨v1, vs1, d1, ds1, p1, q1, rfl, rfl, rfl, h1, r1⟩ := trodAll_cons r0
  obtain ⟨rfl, rfl, rfl⟩ := trodAll_nil r1
  obtain rfl : args = #[v0, v1] := by cases args; simp_all
  obtain ⟨rfl, rfl⟩ := trodVars_none hV
  have lt0 : ∀ x ∈ p0, x.block < W.heap.size := by obtain ⟨m, hm⟩ := h0; exact DataW.trod_lt m _ _ _ hm
  obtain ⟨x0, m0, w0⟩ := Va.argv_of (hval 0 33 v0 rfl rfl) h0
  have b0 : Va.wt x0 ≤ 1048576 := by simp only [List.cons_append, List.nil_append, Rows.uptoBulkAll] at hbulk; omega
  obtain ⟨x1, rfl, rfl, rfl, w1⟩ := open_int Tryz.underlying53 (hval 1 53 v1 rfl rfl) h1
  have b1 : 0 ≤ x1 ∧ x1 ≤ 65535 := by simpa [Lit.wf, IntKind.min, IntKind.max, IntKind.signed, IntKind.bits] using w1
  clear hA0 hval0
  refine (Tt.backU_any m0 b0 b1.1 b1.2 W (Tt.tab_of_laid hL hsh)).mono fun e W' ⟨he, bel⟩ => ?_
  subst he
  exact ⟨_, rfl, _, _, _, [], _, [], hW', trodAll_mk1 (shut_bool Tryz.underlying4 _), (trodAll_cons_mk (Below.trod Tt.laidOut (by kernel_rfl) (of_decide_eq_true (by kernel_rfl)) h0 bel lt0) (trodAll_cons_mk (shut_int Tryz.underlying53 w1) trodAll_mk0)), rfl, bel.frame _, fun h => by cases h⟩

theorem treesBack_both {a b : Bool} (ha : a = true) (hb : b = true) : (a && b) = true := by rw [ha, hb]; rfl

set_option maxHeartbeats 64000000 in
theorem treesBackUpto_closed : joinedFacts Tryz.pinned.checked.prog 5 Tryz.f5 (Rows.OpenSpec.upto Rows.treesBackSpec).bare Rows.treesBackUptoRow = true := by
  unfold joinedFacts
  repeat' (with_reducible refine treesBack_both ?_ ?_)
  all_goals (as_aux_lemma => kernel_rfl)

theorem treesBackUpto_holds : Rows.TreesBackUptoSaid :=
  OpenClaim.holds_of_cond 5 Tryz.f5 rfl rfl rfl rfl rfl rfl rfl ⟨rfl, rfl, rfl, rfl, rfl⟩ rfl rfl rfl rfl rfl (by as_aux_lemma => kernel_rfl) Tryz.func5 treesBackUpto_closed
    (of_decide_eq_true (by as_aux_lemma => kernel_rfl)) (by unfold Func.isWrapper; first | (rw [if_pos (by decide +kernel)]; kernel_rfl) | (rw [if_neg (by decide +kernel)]; exact ⟨rfl, rfl⟩))
    (fun os started H enc _ F => by rw [OpenClaim.pre_eq_preRow]; exact treesBackUpto_lifted os started H enc F)

theorem treesBackUpto_card_holds : Rows.TreesBackUptoCardSaid :=
  Claim7.holds_tied_plain_at .later [] [.data, .data, .data, .data, .data, .data, .data, .pinned, .pinned] true (true, "02a888ba91c626c8e479c6c1502ab114d729db50408a68f45c341633183c9452") true
    treesBackUpto_holds (fun _ h => by cases h) (by as_aux_lemma => kernel_rfl) (fun _ h => by cases h) treesBackUpto_row_tie rfl ⟨rfl, rfl⟩ (by as_aux_lemma => kernel_rfl) rfl
    (fun f fn hf hfn => by
      obtain rfl : f = 5 := Option.some.inj ((show Tryz.prog.funcNamed "inarch/inarchlaw15.TreesBack" = some 5 by kernel_rfl).symm.trans hf) |>.symm
      obtain rfl : fn = Tryz.f5 := (Option.some.inj (Tryz.func5.symm.trans hfn)).symm
      exact ⟨by as_aux_lemma => kernel_rfl, fun j t ht => by
        rw [Tryz.params5] at ht
        have hm : t ∈ [33, 53] := by simpa using Array.mem_of_getElem? ht
        have hall : ([33, 53].all fun u => !Tryz.prog.wantsStandIn u) = true := by kernel_rfl
        exact (show Tryz.prog.wantsStandIn t = false by simpa using List.all_eq_true.1 hall t hm)⟩)
    (by as_aux_lemma => kernel_rfl)
end Go.Proofs.YtggeiajbcehkjaaGreatDoor
