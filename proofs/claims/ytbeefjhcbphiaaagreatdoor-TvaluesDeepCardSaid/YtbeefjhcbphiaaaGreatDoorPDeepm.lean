/- TvaluesDeep: whatever the two numbers, the chapter's examples come out true, and lists, tables, or words of a dotted key within one another, as many as the first number's remainder by 300 says, around which so many stand as the second one's says, are read, to a tree of a node more than there are of them, where these are no more than 256 together, and else answered by fault 4 at the first that is too deep. Conditions: none besides what the row lists (the tables as the program lays them), which the card ties to the project. -/
import Derived.Test.YtbeefjhcbphiaaaGreatDoorRows
import Derived.Test.YtbeefjhcbphiaaaGreatDoorCards
import Derived.Test.YtbeefjhcbphiaaaGreatDoorTie
import Derived.Test.YtbeefjhcbphiaaaGreatDoorGu
import Derived.SevenTiedAt
import Derived.Laws.IdiomArrays
import Derived.ChangeMaps5
namespace Go.Proofs.YtbeefjhcbphiaaaGreatDoor
open Go.ChangeShapes Go.WideShapes Go.ChangeAt Go.RowKit Go.ChangeMaps

set_option maxRecDepth 100000 in
theorem tvaluesDeep_lifted (os : Os) (started : os.Started) (H : Type) (enc : TypeId × Value → H) :
    ReturnsInHanded {} Tryz.checked os 6 .any (fun w args => (Rows.tvaluesDeepSpec.pre enc Tryz.prog Tryz.f6 [] false w args ∧ laidMetH Tryz.prog Tv.laidF w) ∧ sizedMet enc Tryz.prog Tryz.f6 (OpenSpec.ofChange Rows.tvaluesDeepSpec) false w args)
      (Rows.tvaluesDeepSpec.post enc Tryz.prog Tryz.f6 false true false false) := by
  refine Tv.handed_shaped (C := Tryz.checked) (X := fun w _ => laidMetH Tryz.prog Tv.laidF w) (fun _ _ _ hh h => h.of_heap hh) Tv.own started (by kernel_rfl) Tryz.func6
    (ChangeSpec.witness_shaped (enc := enc) (C := Tryz.checked) (os := os) (X := fun w _ => laidMetH Tryz.prog Tv.laidF w) false (World.laidAll Tryz.prog os Tv.laidF) #[.int .u16 0, .int .u16 0] 8 (World.laidAll_os _ _ _)
      (World.shaped_of_ZipB (by kernel_rfl) (by kernel_rfl)) (by kernel_rfl) (by kernel_rfl) (by kernel_rfl) (Tv.door_metF os _)) ?_
  intro W base args ds gs before hval0 hW _ hL hsh _
  have hval : ∀ (j : Nat) t v, Tryz.f6.params[j]? = some t → args[j]? = some v → Value.okWide Tryz.prog W .any base t v := hval0
  have hW' := hW
  obtain ⟨p, q, hA0, hV, rfl, hfz, hnd⟩ := hW
  have hA : DataW.TrodAll enc Tryz.prog W 0 (fun _ => true) true Tryz.f6.params.toList args.toList ds p := hA0
  rw [Tryz.params6] at hA hval
  obtain ⟨v0, vs0, d0, ds0, p0, q0, hargs, rfl, rfl, h0, r0⟩ := trodAll_cons hA
  obtain ⟨v1, vs1, d1, ds1, p1, q1, rfl, rfl, rfl, h1, r1⟩ := trodAll_cons r0
  obtain ⟨rfl, rfl, rfl⟩ := trodAll_nil r1
  obtain rfl : args = #[v0, v1] := by cases args; simp_all
  obtain ⟨rfl, rfl⟩ := trodVars_none hV
  obtain ⟨x0, rfl, rfl, rfl, w0⟩ := open_int Tryz.underlying56 (hval 0 56 v0 rfl rfl) h0
  have b0 : 0 ≤ x0 ∧ x0 ≤ 65535 := by simpa [Lit.wf, IntKind.min, IntKind.max, IntKind.signed, IntKind.bits] using w0
  obtain ⟨x1, rfl, rfl, rfl, w1⟩ := open_int Tryz.underlying56 (hval 1 56 v1 rfl rfl) h1
  have b1 : 0 ≤ x1 ∧ x1 ≤ 65535 := by simpa [Lit.wf, IntKind.min, IntKind.max, IntKind.signed, IntKind.bits] using w1
  clear hA0 hval0
  refine (Tv.deepW_any b0.1 b0.2 b1.1 b1.2 W (Tv.tab_of_laidF hL hsh)).mono fun e W' ⟨he, bel⟩ => ?_
  subst he
  exact ⟨_, rfl, _, _, _, [], _, [], hW', trodAll_mk1 (shut_bool Tryz.underlying4 _), (trodAll_cons_mk (shut_int Tryz.underlying56 w0) (trodAll_cons_mk (shut_int Tryz.underlying56 w1) trodAll_mk0)), rfl, bel.frame _, fun h => by cases h⟩

theorem tvaluesDeep_holds : Rows.TvaluesDeepSaid :=
  OpenClaim.holds_of_wide 6 Tryz.f6 rfl rfl rfl rfl rfl rfl rfl ⟨rfl, rfl, rfl, rfl, rfl⟩ rfl rfl rfl rfl rfl (by kernel_rfl) Tryz.func6 (by kernel_rfl)
    (of_decide_eq_true (by kernel_rfl)) (by unfold Func.isWrapper; first | (rw [if_pos (by decide +kernel)]; kernel_rfl) | (rw [if_neg (by decide +kernel)]; exact ⟨rfl, rfl⟩))
    (fun os started H enc _ => tvaluesDeep_lifted os started H enc)

theorem tvaluesDeep_card_holds : Rows.TvaluesDeepCardSaid :=
  Claim7.holds_tied_plain_at .later [] [.data, .data, .data, .data, .data, .pinned, .pinned] true (true, "aa3f20038b888a9e0c44c059abc055e10957f9e85671cf3edea1644efb791831") true
    tvaluesDeep_holds (fun _ h => by cases h) (by kernel_rfl) (fun _ h => by cases h) tvaluesDeep_row_tie rfl ⟨rfl, rfl⟩ (by kernel_rfl) rfl
    (fun f fn hf hfn => by
      obtain rfl : f = 6 := Option.some.inj ((show Tryz.prog.funcNamed "inarch/inarchlaw11.TvaluesDeep" = some 6 by kernel_rfl).symm.trans hf) |>.symm
      obtain rfl : fn = Tryz.f6 := (Option.some.inj (Tryz.func6.symm.trans hfn)).symm
      exact ⟨by kernel_rfl, fun j t ht => by
        rw [Tryz.params6] at ht
        have hm : t ∈ [56, 56] := by simpa using Array.mem_of_getElem? ht
        have hall : ([56, 56].all fun u => !Tryz.prog.wantsStandIn u) = true := by kernel_rfl
        exact (show Tryz.prog.wantsStandIn t = false by simpa using List.all_eq_true.1 hall t hm)⟩)
    (by kernel_rfl)
end Go.Proofs.YtbeefjhcbphiaaaGreatDoor
