/- The row and the card of valuesTurned. -/
import Derived.Test.YtnnlgodgaolkkaaDoorRows
import Derived.Test.YtnnlgodgaolkkaaDoorCards
import Derived.Test.YtnnlgodgaolkkaaDoorTie
import Derived.Test.YtnnlgodgaolkkaaDoorVfm
import Derived.Test.YtnnlgodgaolkkaaDoorHn
import Derived.SevenTiedAt
import Derived.Deep.DeepHandedRow
import Derived.Laws.IdiomArrays
import Derived.ChangeMaps5
namespace Go.Proofs.YtnnlgodgaolkkaaDoor
open Go.ChangeShapes Go.WideShapes Go.ChangeAt Go.RowKit Go.ChangeMaps

theorem valuesTurnedUpto_reads (os : Os) {H : Type} (enc : TypeId × Value → H) : (DataW.whole enc Tryd.prog ((World.laidAll Tryd.prog os Va.laidF).forCall (fun _ _ => 0) ⟨#[], #[.agg #[.int .u8 0, .string ⟨#[]⟩, .slice none 0 0, .slice none 0 0], .int .u8 0, .int .u16 0], []⟩).memory Tryd.f3.params.toList Rows.valuesTurnedSpec.vars false #[.agg #[.int .u8 0, .string ⟨#[]⟩, .slice none 0 0, .slice none 0 0], .int .u8 0, .int .u16 0].toList 8).isSome = true := by kernel_rfl

theorem valuesTurnedUpto_bulk (os : Os) {H : Type} (enc : TypeId × Value → H) {x : List (DataW H) × List (DataW H) × List MemPlace} (hx : DataW.whole enc Tryd.prog ((World.laidAll Tryd.prog os Va.laidF).forCall (fun _ _ => 0) ⟨#[], #[.agg #[.int .u8 0, .string ⟨#[]⟩, .slice none 0 0, .slice none 0 0], .int .u8 0, .int .u16 0], []⟩).memory Tryd.f3.params.toList Rows.valuesTurnedSpec.vars false #[.agg #[.int .u8 0, .string ⟨#[]⟩, .slice none 0 0, .slice none 0 0], .int .u8 0, .int .u16 0].toList 8 = some x) : Rows.uptoSmall H (x.1 ++ x.2.1) = true := by
  have e : ((DataW.whole enc Tryd.prog ((World.laidAll Tryd.prog os Va.laidF).forCall (fun _ _ => 0) ⟨#[], #[.agg #[.int .u8 0, .string ⟨#[]⟩, .slice none 0 0, .slice none 0 0], .int .u8 0, .int .u16 0], []⟩).memory Tryd.f3.params.toList Rows.valuesTurnedSpec.vars false #[.agg #[.int .u8 0, .string ⟨#[]⟩, .slice none 0 0, .slice none 0 0], .int .u8 0, .int .u16 0].toList 8).map fun y => Rows.uptoSmall H (y.1 ++ y.2.1)) = some true := by kernel_rfl
  rw [hx] at e
  simpa using e

set_option maxRecDepth 100000 in
theorem valuesTurnedUpto_lifted (os : Os) (started : os.Started) (H : Type) (enc : TypeId × Value → H) (F : Stop.Interp) :
    ReturnsInHanded {} Tryd.checked os 3 .any ((Rows.OpenSpec.upto Rows.valuesTurnedSpec).preRow enc Tryd.prog Tryd.f3 [] false Va.laidF) (((Rows.OpenSpec.upto Rows.valuesTurnedSpec).at F).post enc Tryd.prog Tryd.f3 false true false false) := by
  obtain ⟨wx, hx⟩ := Option.isSome_iff_exists.1 (valuesTurnedUpto_reads os enc)
  refine returnsInHanded_of_row (C := Tryd.checked) (s := Rows.OpenSpec.upto Rows.valuesTurnedSpec) Va.own started (by kernel_rfl) Tryd.func3
    ⟨World.laidAll Tryd.prog os Va.laidF, fun _ _ => 0, ⟨#[], #[.agg #[.int .u8 0, .string ⟨#[]⟩, .slice none 0 0, .slice none 0 0], .int .u8 0, .int .u16 0], []⟩, World.laidAll_os _ _ _, World.shaped_of_ZipB (by kernel_rfl) (by kernel_rfl), rfl, (Input.okWide_of_okWideB (P := Tryd.prog) (f := 3) (by kernel_rfl)).2,
      OpenSpec.preRow_of_cond 8 hx rfl (fun k hk => by cases hk; exact valuesTurnedUpto_bulk os enc hx) (by kernel_rfl) (Va.door_metF os _), by
        simp only [Assume.holds]
        refine ⟨?_, ?_, ?_, ?_, ?_⟩ <;> intros <;> simp_all⟩ ?_
  intro W base args ds gs before hval0 hW _ hcond _ hL hsh _
  have hbulk : Rows.uptoBulkAll (ds ++ gs) ≤ 1048576 := of_decide_eq_true (hcond _ rfl)
  have hval : ∀ (j : Nat) t v, Tryd.f3.params[j]? = some t → args[j]? = some v → Value.okWide Tryd.prog W .any base t v := hval0
  have hW' := hW
  obtain ⟨p, q, hA0, hV, rfl, hfz, hnd⟩ := hW
  have hA : DataW.TrodAll enc Tryd.prog W 0 (fun _ => true) true Tryd.f3.params.toList args.toList ds p := hA0
  rw [Tryd.params3] at hA hval
  obtain ⟨v0, vs0, d0, ds0, p0, q0, hargs, rfl, rfl, h0, r0⟩ := trodAll_cons hA
  obtain ⟨v1, vs1, d1, ds1, p1, q1, rfl, rfl, rfl, h1, r1⟩ := trodAll_cons r0
  obtain ⟨v2, vs2, d2, ds2, p2, q2, rfl, rfl, rfl, h2, r2⟩ := trodAll_cons r1
  obtain ⟨rfl, rfl, rfl⟩ := trodAll_nil r2
  obtain rfl : args = #[v0, v1, v2] := by cases args; simp_all
  obtain ⟨rfl, rfl⟩ := trodVars_none hV
  have lt0 : ∀ x ∈ p0, x.block < W.heap.size := by obtain ⟨m, hm⟩ := h0; exact DataW.trod_lt m _ _ _ hm
  obtain ⟨x0, m0, w0⟩ := Va.argv_of (hval 0 26 v0 rfl rfl) h0
  have b0 : Va.wt x0 ≤ 1048576 := by simp only [List.cons_append, List.nil_append, Rows.uptoBulkAll] at hbulk; omega
  obtain ⟨x1, rfl, rfl, rfl, w1⟩ := open_int Tryd.underlying5 (hval 1 5 v1 rfl rfl) h1
  have b1 : 0 ≤ x1 ∧ x1 ≤ 255 := by simpa [Lit.wf, IntKind.min, IntKind.max, IntKind.signed, IntKind.bits] using w1
  obtain ⟨x2, rfl, rfl, rfl, w2⟩ := open_int Tryd.underlying27 (hval 2 27 v2 rfl rfl) h2
  have b2 : 0 ≤ x2 ∧ x2 ≤ 65535 := by simpa [Lit.wf, IntKind.min, IntKind.max, IntKind.signed, IntKind.bits] using w2
  clear hA0 hval0
  refine (Va.turnedU_any m0 b0 b1.1 b1.2 b2.1 b2.2 W (Va.tab_of_laidF hL hsh)).mono fun e W' ⟨he, bel⟩ => ?_
  subst he
  exact ⟨_, rfl, _, _, _, [], _, [], hW', trodAll_mk1 (shut_bool Tryd.underlying4 _), (trodAll_cons_mk (Below.trod Va.laidOut (by kernel_rfl) (of_decide_eq_true (by kernel_rfl)) h0 bel lt0) (trodAll_cons_mk (shut_int Tryd.underlying5 w1) (trodAll_cons_mk (shut_int Tryd.underlying27 w2) trodAll_mk0))), rfl, bel.frame _, fun h => by cases h⟩

theorem valuesTurnedUpto_holds : Rows.ValuesTurnedUptoSaid :=
  OpenClaim.holds_of_cond 3 Tryd.f3 rfl rfl rfl rfl rfl rfl rfl ⟨rfl, rfl, rfl, rfl, rfl⟩ rfl rfl rfl rfl rfl (by kernel_rfl) Tryd.func3 (by kernel_rfl)
    (of_decide_eq_true (by kernel_rfl)) (by unfold Func.isWrapper; first | (rw [if_pos (by decide +kernel)]; kernel_rfl) | (rw [if_neg (by decide +kernel)]; exact ⟨rfl, rfl⟩))
    (fun os started H enc _ F => by rw [OpenClaim.pre_eq_preRow]; exact valuesTurnedUpto_lifted os started H enc F)

theorem valuesTurnedUpto_card_holds : Rows.ValuesTurnedUptoCardSaid :=
  Claim7.holds_tied_plain_at .later [] [.data] true (true, "d1ff02bee116ae8d3dcbf61b1afca500b995236c10173648bc284d5abf88c808") false
    valuesTurnedUpto_holds (fun _ h => by cases h) (by kernel_rfl) (fun _ h => by cases h) valuesTurnedUpto_row_tie rfl ⟨rfl, rfl⟩ (by kernel_rfl) rfl
    (fun f fn hf hfn => by
      obtain rfl : f = 3 := Option.some.inj ((show Tryd.prog.funcNamed "inarch/inarchlaw14.ValuesTurned" = some 3 by kernel_rfl).symm.trans hf) |>.symm
      obtain rfl : fn = Tryd.f3 := (Option.some.inj (Tryd.func3.symm.trans hfn)).symm
      exact ⟨by kernel_rfl, fun j t ht => by
        rw [Tryd.params3] at ht
        have hm : t ∈ [26, 5, 27] := by simpa using Array.mem_of_getElem? ht
        have hall : ([26, 5, 27].all fun u => !Tryd.prog.wantsStandIn u) = true := by kernel_rfl
        exact (show Tryd.prog.wantsStandIn t = false by simpa using List.all_eq_true.1 hall t hm)⟩)
    (by kernel_rfl)
end Go.Proofs.YtnnlgodgaolkkaaDoor
