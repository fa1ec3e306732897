/- The row and the card of valuesAny. -/
import Derived.Test.YtnnlgodgaolkkaaGreatDoorRows
import Derived.Test.YtnnlgodgaolkkaaGreatDoorCards
import Derived.Test.YtnnlgodgaolkkaaGreatDoorTie
import Derived.Test.YtnnlgodgaolkkaaGreatDoorVfm
import Derived.Test.YtnnlgodgaolkkaaGreatDoorHn
import Derived.SevenTiedAt
import Derived.Deep.DeepHandedRow
import Derived.Laws.IdiomArrays
import Derived.ChangeMaps5
namespace Go.Proofs.YtnnlgodgaolkkaaGreatDoor
open Go.ChangeShapes Go.WideShapes Go.ChangeAt Go.RowKit Go.ChangeMaps

theorem valuesAnyUpto_reads (os : Os) {H : Type} (enc : TypeId × Value → H) : (DataW.whole enc Tryz.prog ((World.laidAll Tryz.prog os Va.laidF).forCall (fun _ _ => 0) ⟨#[], #[.agg #[.int .u8 0, .string ⟨#[]⟩, .slice none 0 0, .slice none 0 0], .agg #[.int .u8 0, .string ⟨#[]⟩, .slice none 0 0, .slice none 0 0], .string ⟨#[]⟩], []⟩).memory Tryz.f3.params.toList Rows.valuesAnySpec.vars false #[.agg #[.int .u8 0, .string ⟨#[]⟩, .slice none 0 0, .slice none 0 0], .agg #[.int .u8 0, .string ⟨#[]⟩, .slice none 0 0, .slice none 0 0], .string ⟨#[]⟩].toList 8).isSome = true := by kernel_rfl

theorem valuesAnyUpto_bulk (os : Os) {H : Type} (enc : TypeId × Value → H) {x : List (DataW H) × List (DataW H) × List MemPlace} (hx : DataW.whole enc Tryz.prog ((World.laidAll Tryz.prog os Va.laidF).forCall (fun _ _ => 0) ⟨#[], #[.agg #[.int .u8 0, .string ⟨#[]⟩, .slice none 0 0, .slice none 0 0], .agg #[.int .u8 0, .string ⟨#[]⟩, .slice none 0 0, .slice none 0 0], .string ⟨#[]⟩], []⟩).memory Tryz.f3.params.toList Rows.valuesAnySpec.vars false #[.agg #[.int .u8 0, .string ⟨#[]⟩, .slice none 0 0, .slice none 0 0], .agg #[.int .u8 0, .string ⟨#[]⟩, .slice none 0 0, .slice none 0 0], .string ⟨#[]⟩].toList 8 = some x) : Rows.uptoSmall H (x.1 ++ x.2.1) = true := by
  have e : ((DataW.whole enc Tryz.prog ((World.laidAll Tryz.prog os Va.laidF).forCall (fun _ _ => 0) ⟨#[], #[.agg #[.int .u8 0, .string ⟨#[]⟩, .slice none 0 0, .slice none 0 0], .agg #[.int .u8 0, .string ⟨#[]⟩, .slice none 0 0, .slice none 0 0], .string ⟨#[]⟩], []⟩).memory Tryz.f3.params.toList Rows.valuesAnySpec.vars false #[.agg #[.int .u8 0, .string ⟨#[]⟩, .slice none 0 0, .slice none 0 0], .agg #[.int .u8 0, .string ⟨#[]⟩, .slice none 0 0, .slice none 0 0], .string ⟨#[]⟩].toList 8).map fun y => Rows.uptoSmall H (y.1 ++ y.2.1)) = some true := by kernel_rfl
  rw [hx] at e
  simpa using e

set_option maxRecDepth 100000 in
theorem valuesAnyUpto_lifted (os : Os) (started : os.Started) (H : Type) (enc : TypeId × Value → H) (F : Stop.Interp) :
    ReturnsInHanded {} Tryz.checked os 3 .any ((Rows.OpenSpec.upto Rows.valuesAnySpec).preRow enc Tryz.prog Tryz.f3 [] false Va.laidF) (((Rows.OpenSpec.upto Rows.valuesAnySpec).at F).post enc Tryz.prog Tryz.f3 false true false false) := by
  obtain ⟨wx, hx⟩ := Option.isSome_iff_exists.1 (valuesAnyUpto_reads os enc)
  refine returnsInHanded_of_row (C := Tryz.checked) (s := Rows.OpenSpec.upto Rows.valuesAnySpec) Va.own started (by kernel_rfl) Tryz.func3
    ⟨World.laidAll Tryz.prog os Va.laidF, fun _ _ => 0, ⟨#[], #[.agg #[.int .u8 0, .string ⟨#[]⟩, .slice none 0 0, .slice none 0 0], .agg #[.int .u8 0, .string ⟨#[]⟩, .slice none 0 0, .slice none 0 0], .string ⟨#[]⟩], []⟩, World.laidAll_os _ _ _, World.shaped_of_ZipB (by kernel_rfl) (by kernel_rfl), rfl, (Input.okWide_of_okWideB (P := Tryz.prog) (f := 3) (by kernel_rfl)).2,
      OpenSpec.preRow_of_cond 8 hx rfl (fun k hk => by cases hk; exact valuesAnyUpto_bulk os enc hx) (by kernel_rfl) (Va.door_metF os _), by
        simp only [Assume.holds]
        refine ⟨?_, ?_, ?_, ?_, ?_⟩ <;> intros <;> simp_all⟩ ?_
  intro W base args ds gs before hval0 hW _ hcond _ hL hsh _
  have hbulk : Rows.uptoBulkAll (ds ++ gs) ≤ 1048576 := of_decide_eq_true (hcond _ rfl)
  have hval : ∀ (j : Nat) t v, Tryz.f3.params[j]? = some t → args[j]? = some v → Value.okWide Tryz.prog W .any base t v := hval0
  have hW' := hW
  obtain ⟨p, q, hA0, hV, rfl, hfz, hnd⟩ := hW
  have hA : DataW.TrodAll enc Tryz.prog W 0 (fun _ => true) true Tryz.f3.params.toList args.toList ds p := hA0
  rw [Tryz.params3] at hA hval
  obtain ⟨v0, vs0, d0, ds0, p0, q0, hargs, rfl, rfl, h0, r0⟩ := trodAll_cons hA
  obtain ⟨v1, vs1, d1, ds1, p1, q1, rfl, rfl, rfl, h1, r1⟩ := trodAll_cons r0
  obtain ⟨v2, vs2, d2, ds2, p2, q2, rfl, rfl, rfl, h2, r2⟩ := trodAll_cons r1
  obtain ⟨rfl, rfl, rfl⟩ := trodAll_nil r2
  obtain rfl : args = #[v0, v1, v2] := by cases args; simp_all
  obtain ⟨rfl, rfl⟩ := trodVars_none hV
  have lt0 : ∀ x ∈ p0, x.block < W.heap.size := by obtain ⟨m, hm⟩ := h0; exact DataW.trod_lt m _ _ _ hm
  obtain ⟨x0, m0, w0⟩ := Va.argv_of (hval 0 26 v0 rfl rfl) h0
  have b0 : Va.wt x0 ≤ 1048576 := by simp only [List.cons_append, List.nil_append, Rows.uptoBulkAll] at hbulk; omega
  have lt1 : ∀ x ∈ p1, x.block < W.heap.size := by obtain ⟨m, hm⟩ := h1; exact DataW.trod_lt m _ _ _ hm
  obtain ⟨x1, m1, w1⟩ := Va.argv_of (hval 1 26 v1 rfl rfl) h1
  have b1 : Va.wt x1 ≤ 1048576 := by simp only [List.cons_append, List.nil_append, Rows.uptoBulkAll] at hbulk; omega
  obtain ⟨s2, rfl, rfl, rfl, w2⟩ := open_string Tryz.underlying9 (hval 2 9 v2 rfl rfl) h2
  have b2 : s2.size ≤ 1048576 := by
    have e : s2.data.toList.length = s2.size := by rw [Array.length_toList]; rfl
    simp only [List.cons_append, List.nil_append, Rows.uptoBulkAll, Rows.uptoBulk] at hbulk; omega
  clear hA0 hval0
  refine (Va.anyU_any m0 b0 m1 b1 s2 b2 W (Va.tab_of_laidF hL hsh)).mono fun e W' ⟨he, bel⟩ => ?_
  subst he
  exact ⟨_, rfl, _, _, _, [], _, [], hW', trodAll_mk1 (shut_bool Tryz.underlying4 _), (trodAll_cons_mk (Below.trod Va.laidOut (by kernel_rfl) (of_decide_eq_true (by kernel_rfl)) h0 bel lt0) (trodAll_cons_mk (Below.trod Va.laidOut (by kernel_rfl) (of_decide_eq_true (by kernel_rfl)) h1 bel lt1) (trodAll_cons_mk (shut_string Tryz.underlying9 w2) trodAll_mk0))), rfl, bel.frame _, fun h => by cases h⟩

theorem valuesAnyUpto_holds : Rows.ValuesAnyUptoSaid :=
  OpenClaim.holds_of_cond 3 Tryz.f3 rfl rfl rfl rfl rfl rfl rfl ⟨rfl, rfl, rfl, rfl, rfl⟩ rfl rfl rfl rfl rfl (by kernel_rfl) Tryz.func3 (by kernel_rfl)
    (of_decide_eq_true (by kernel_rfl)) (by unfold Func.isWrapper; first | (rw [if_pos (by decide +kernel)]; kernel_rfl) | (rw [if_neg (by decide +kernel)]; exact ⟨rfl, rfl⟩))
    (fun os started H enc _ F => by rw [OpenClaim.pre_eq_preRow]; exact valuesAnyUpto_lifted os started H enc F)

theorem valuesAnyUpto_card_holds : Rows.ValuesAnyUptoCardSaid :=
  Claim7.holds_tied_plain_at .later [] [.data, .data, .data, .data] true (true, "2dc9545c8ffc6d21fb826e0d92231a45ce33955fc2770211512aa1074661e3d0") false
    valuesAnyUpto_holds (fun _ h => by cases h) (by kernel_rfl) (fun _ h => by cases h) valuesAnyUpto_row_tie rfl ⟨rfl, rfl⟩ (by kernel_rfl) rfl
    (fun f fn hf hfn => by
      obtain rfl : f = 3 := Option.some.inj ((show Tryz.prog.funcNamed "inarch/inarchlaw14.ValuesAny" = some 3 by kernel_rfl).symm.trans hf) |>.symm
      obtain rfl : fn = Tryz.f3 := (Option.some.inj (Tryz.func3.symm.trans hfn)).symm
      exact ⟨by kernel_rfl, fun j t ht => by
        rw [Tryz.params3] at ht
        have hm : t ∈ [26, 26, 9] := by simpa using Array.mem_of_getElem? ht
        have hall : ([26, 26, 9].all fun u => !Tryz.prog.wantsStandIn u) = true := by kernel_rfl
        exact (show Tryz.prog.wantsStandIn t = false by simpa using List.all_eq_true.1 hall t hm)⟩)
    (by kernel_rfl)
end Go.Proofs.YtnnlgodgaolkkaaGreatDoor
