/- The law TvaluesGap, walked. -/
import Derived.Test.YtbeefjhcbphiaaaGreatDoorHp
import Derived.Test.YtbeefjhcbphiaaaGreatDoorGq
import Derived.Test.YtbeefjhcbphiaaaGreatDoorRows
import Derived.ProofKit
import Derived.LaidMore
import Derived.OpenShut
import Derived.Stop.Joined
import Derived.Lib.LaidTab
import Derived.ChangeOld
import Derived.ChangeSame
import Derived.Lay
import Derived.Shelf.Vars
namespace Go.Proofs.YtbeefjhcbphiaaaGreatDoor
open Go.RowKit
namespace Tv
open Ty (WR1 KR Ky Bs blK endP)

/-- What a gap answers, both sides. -/
theorem gap_both {s : ByteArray} {y : Int} (h3 : s.size ≤ 3000) : ∃ (E a c : Int), ∀ w : World,
    Calls Tryz.prog 13 #[.string s, .int .i64 y] w (fun e w' => e = .returned (.tuple #[.int .i64 E, .agg #[.int .i64 c, .int .i64 a]]) ∧ Below w.heap.size w w') ∧
    Calls Tryz.prog 14 #[.string s, .int .i64 y] w (fun e w' => e = .returned (.tuple #[.int .i64 E, .agg #[.int .i64 c, .int .i64 a]]) ∧ Below w.heap.size w w') := by
  by_cases ho : Off s y
  · exact ⟨y, 0, 0, fun w => ⟨gap_out w ho, rgap_out w ho⟩⟩
  · obtain ⟨p, rfl⟩ : ∃ p : Nat, y = p := ⟨y.toNat, by unfold Off at ho; omega⟩
    obtain ⟨l, rfl⟩ : ∃ l, s = txt l := ⟨s.data.toList, by simp [txt]⟩
    have hl : l.length ≤ 1000000 := by rw [txt_size] at h3; omega
    have hp : p ≤ l.length := by unfold Off at ho; rw [txt_size] at ho; omega
    cases hg : gap l p with
    | ok e => exact ⟨(e : Nat), 0, 0, fun w => ⟨by have := gap_in w (l := l) (p := p) rfl hl hp rfl; rw [hg] at this; exact this, by have := rgap_in w (l := l) (p := p) rfl hl hp; rw [show gapD l p = .ok e from hg] at this; exact this⟩⟩
    | bad a => exact ⟨0, (a : Nat), 3, fun w => ⟨by have := gap_in w (l := l) (p := p) rfl hl hp rfl; rw [hg] at this; exact this, by have := rgap_in w (l := l) (p := p) rfl hl hp; rw [show gapD l p = .bad a from hg] at this; exact this⟩⟩
theorem comment_both {s : ByteArray} {y : Int} (h3 : s.size ≤ 3000) : ∃ (E : Int), ∀ w : World,
    Calls Tryz.prog 12 #[.string s, .int .i64 y] w (fun e w' => e = .returned (.tuple #[.int .i64 E, .agg #[.int .i64 0, .int .i64 0]]) ∧ Below w.heap.size w w') ∧
    Calls Tryz.prog 15 #[.string s, .int .i64 y] w (fun e w' => e = .returned (.int .i64 E) ∧ w = w') := by
  by_cases ho : Off s y
  · exact ⟨y, fun w => ⟨comment_out w ho, rcomment_out w ho⟩⟩
  · obtain ⟨p, rfl⟩ : ∃ p : Nat, y = p := ⟨y.toNat, by unfold Off at ho; omega⟩
    obtain ⟨l, rfl⟩ : ∃ l, s = txt l := ⟨s.data.toList, by simp [txt]⟩
    have hl : l.length ≤ 1000000 := by rw [txt_size] at h3; omega
    have hp : p ≤ l.length := by unfold Off at ho; rw [txt_size] at ho; omega
    exact ⟨(cm l p : Nat), fun w => ⟨comment_in w rfl hl hp rfl rfl, rcomment_in w rfl hl hp rfl⟩⟩
set_option maxHeartbeats 8000000 in
set_option maxRecDepth 100000 in
theorem gap_law {s : ByteArray} {y : Int} (w : World) (hT : Fl.AllT w) :
    Calls Tryz.prog 4 #[.string s, .int .i64 y] w fun e w' => e = .returned (.bool true) ∧ Below w.heap.size w w' := by
  have HTB := Lib.hid hT
  clear hT
  by_cases h3 : s.size ≤ 3000
  · obtain ⟨E, CM⟩ := comment_both (y := y) h3
    obtain ⟨G, a, c, GM⟩ := gap_both (y := y) h3
    have HCM := Lib.hid CM
    have HGM := Lib.hid GM
    have h4 : ¬ (3000 : Int) < s.size := by omega
    clear CM GM h3
    go_enter Tryz.func4, Tryz.ntmps4
    go_wp2_with fail
    refine (HCM.out _).1.mono ?_
    rintro e w1 ⟨rfl, hb1⟩
    have HB1 := Lib.hid hb1
    clear hb1
    go_upto_region 4 with fail
    obtain ⟨V1, hV1⟩ : ∃ V, V = w1.alloc (.cells #[.int .i64 0, .int .i64 0] 28) := ⟨_, rfl⟩
    have hb1 : Below w1.heap.size w1 V1 := by rw [hV1]; exact (Below.refl _ _).alloc (Nat.le_refl _) _
    have hh1 : V1.heap[w1.heap.size]? = some (.cells #[.int .i64 0, .int .i64 0] 28) := by rw [hV1]; exact heap_alloc_new _ _
    have x1 : V1.cell? ⟨w1.heap.size, 0, none⟩ = some (.int .i64 0) := by simp [World.cell?, hh1]
    have y1 : V1.cell? ⟨w1.heap.size, 1, none⟩ = some (.int .i64 0) := by simp [World.cell?, hh1]
    rw [← hV1]
    have HV1 := Lib.hid (below_tr HB1.out hb1)
    have HS1 := Lib.hid hb1
    have X1 := Lib.hid (And.intro x1 y1)
    clear hV1 hh1 hb1 x1 y1
    go_wp2_with fail
    refine (HGM.out _).1.mono ?_
    rintro e w2 ⟨rfl, hb2⟩
    have HB2 := Lib.hid (below_tr HV1.out hb2)
    have HG2 := Lib.hid hb2
    clear hb2
    go_upto_region 5 with fail
    obtain ⟨V2, hV2⟩ : ∃ V, V = w2.alloc (.cells #[.int .i64 c, .int .i64 a] 28) := ⟨_, rfl⟩
    have hb2 : Below w2.heap.size w2 V2 := by rw [hV2]; exact (Below.refl _ _).alloc (Nat.le_refl _) _
    have hh2 : V2.heap[w2.heap.size]? = some (.cells #[.int .i64 c, .int .i64 a] 28) := by rw [hV2]; exact heap_alloc_new _ _
    have x2 : V2.cell? ⟨w2.heap.size, 0, none⟩ = some (.int .i64 c) := by simp [World.cell?, hh2]
    have y2 : V2.cell? ⟨w2.heap.size, 1, none⟩ = some (.int .i64 a) := by simp [World.cell?, hh2]
    rw [← hV2]
    have HV2 := Lib.hid (below_tr HB2.out hb2)
    have HS2 := Lib.hid hb2
    have X2 := Lib.hid (And.intro x2 y2)
    clear hV2 hh2 hb2 x2 y2
    go_wp2_with fail
    refine (HGM.out _).2.mono ?_
    rintro e w3 ⟨rfl, hb3⟩
    have HB3 := Lib.hid (below_tr HV2.out hb3)
    have HG3 := Lib.hid hb3
    clear hb3
    go_upto_region 6 with fail
    obtain ⟨V3, hV3⟩ : ∃ V, V = w3.alloc (.cells #[.int .i64 c, .int .i64 a] 28) := ⟨_, rfl⟩
    have hb3 : Below w3.heap.size w3 V3 := by rw [hV3]; exact (Below.refl _ _).alloc (Nat.le_refl _) _
    have hh3 : V3.heap[w3.heap.size]? = some (.cells #[.int .i64 c, .int .i64 a] 28) := by rw [hV3]; exact heap_alloc_new _ _
    have x3 : V3.cell? ⟨w3.heap.size, 0, none⟩ = some (.int .i64 c) := by simp [World.cell?, hh3]
    have y3 : V3.cell? ⟨w3.heap.size, 1, none⟩ = some (.int .i64 a) := by simp [World.cell?, hh3]
    rw [← hV3]
    have HV3 := Lib.hid (below_tr HB3.out hb3)
    have HS3 := Lib.hid hb3
    have X3 := Lib.hid (And.intro x3 y3)
    clear hV3 hh3 hb3 x3 y3
    have T2 := below_tr HG3.out HS3.out
    have T1 := below_tr (below_tr HG2.out HS2.out) T2
    have p1 := cell_old T1 (lt_blk2 X1.out.1) X1.out.1
    have p2 := cell_old T1 (lt_blk2 X1.out.2) X1.out.2
    have p3 := cell_old T2 (lt_blk2 X2.out.1) X2.out.1
    have p4 := cell_old T2 (lt_blk2 X2.out.2) X2.out.2
    obtain ⟨p5, p6⟩ := X3.out
    have HT3 := Lib.hid (HTB.out.below HV3.out)
    clear T1 T2
    go_wp2_with fail
    refine (HCM.out _).2.mono ?_
    rintro e w4 ⟨rfl, rfl⟩
    go_wp2_with fail
    refine (lives_any HT3.out).mono ?_
    rintro e w5 ⟨rfl, hb5⟩
    have HF := Lib.hid (below_tr HV3.out hb5)
    clear hb5
    go_wp2_with fail
    go_ret
    exact ⟨rfl, HF.out⟩
  · have h4 : (3000 : Int) < s.size := by omega
    clear h3
    go_enter Tryz.func4, Tryz.ntmps4
    go_wp2_with fail
    refine (lives_any HTB.out).mono ?_
    rintro e w1 ⟨rfl, hb1⟩
    have HF := Lib.hid hb1
    clear hb1
    go_wp2_with fail
    go_ret
    exact ⟨rfl, HF.out⟩
end Tv
end Go.Proofs.YtbeefjhcbphiaaaGreatDoor
/- What a law finds when it is called: the tables as the program lays them, the library's bound by the world's shape; the wrap that keeps both. -/
namespace Go.Proofs.YtbeefjhcbphiaaaGreatDoor
open Go.ChangeShapes Go.WideShapes Go.ChangeAt Go.RowKit
namespace Tv

theorem own : ownKnob Tryz.prog.godebug = none := by kernel_rfl
theorem laidOut : laidOutB Tryz.prog = true := by kernel_rfl
/-- What the rows list. -/
def laidF : List (String × DataW Unit) := [("math/bits.deBruijn32tab", Rows.laid_math_bits_deBruijn32tab), ("math/bits.deBruijn64tab", Rows.laid_math_bits_deBruijn64tab), ("internal/strconv.uint64pow10", Rows.laid_internal_strconv_uint64pow10), ("unicode/utf8.acceptRanges", Rows.laid_unicode_utf8_acceptRanges), ("inarch/ints.radixes", Rows.laid_inarch_ints_radixes), ("unicode.CaseRanges", Rows.laid_unicode_CaseRanges), ("unicode/utf8.first", Rows.laid_unicode_utf8_first)]
theorem plainF {w : World} : laidMetH Tryz.prog laidF w = laidMet Tryz.prog laidF w := MakeChecks.laidMetH_plain _ _ _ (by kernel_rfl)
set_option maxRecDepth 100000 in
theorem door_metF (os : Os) (args : Array Value) : laidMetH Tryz.prog laidF ((World.laidAll Tryz.prog os laidF).forCall (fun _ _ => 0) ⟨#[], args, []⟩).memory := by
  rw [plainF]; exact laidMet_laidAll _ (by kernel_rfl) (by kernel_rfl)
theorem gPow : Tryz.prog.globalNamed "internal/strconv.uint64pow10" = some 1 := by kernel_rfl
theorem tPow : (Tryz.prog.globals[1]?).map (·.type) = some 151 := by kernel_rfl
theorem pow_tab : (Rows.laid_internal_strconv_uint64pow10 : DataW Unit) = Lib.tabData .u64 Lib.pow10Tab := by kernel_rfl
theorem gRad : Tryz.prog.globalNamed "inarch/ints.radixes" = some 6 := by kernel_rfl
theorem tRad : (Tryz.prog.globals[6]?).map (·.type) = some 272 := by kernel_rfl
section
variable {enc : TypeId × Value → Unit} {w : World} {base : Nat} {sp : Nat → Bool} {held : Bool} {fuel : Nat} {cs : List Value}
/-- The array of radixes that reads so holds them, cell for cell. -/
theorem rads_of {zs : List (Int × Int × Int)} {p : List MemPlace} (hz : zs.length = 3)
    (h : DataW.trod enc Tryz.prog w base sp held fuel 272 cs = some (.agg (zs.map fun z => .agg [.agg [.lit (.int .u8 z.1), .lit (.int .u8 z.2.1)], .lit (.int .i64 z.2.2)]), p)) :
    ∀ i z, zs[i]? = some z → cs[i * 3]? = some (.int .u8 z.1) ∧ cs[i * 3 + 1]? = some (.int .u8 z.2.1) ∧ cs[i * 3 + 2]? = some (.int .i64 z.2.2) := by
  intro i z hi
  have hi3 : i < 3 := by
    rcases Nat.lt_or_ge i 3 with h1 | h1
    · exact h1
    · rw [List.getElem?_eq_none (by omega)] at hi; cases hi
  obtain ⟨xs, m, _, hx, hl, hxl, hel⟩ := DataW.trod_array Tryz.underlying272 h
  have hxs := congrArg Prod.fst hx
  simp only [DataW.agg.injEq] at hxs
  have h1 := hel i hi3
  have h2 : xs[i]? = some (xs[i]'(by omega)) := List.getElem?_eq_getElem (by omega)
  rw [h2] at h1
  have h3 : (xs[i]'(by omega)).1 = .agg [.agg [.lit (.int .u8 z.1), .lit (.int .u8 z.2.1)], .lit (.int .i64 z.2.2)] := by
    have := congrArg (·[i]?) hxs
    simp only [List.getElem?_map, hi, h2, Option.map_some, Option.some.injEq] at this
    exact this.symm
  have cu : Tryz.prog.cellsOf 271 = 3 := by kernel_rfl
  have cp : Tryz.prog.cellsOf 269 = 2 := by kernel_rfl
  have c5 : Tryz.prog.cellsOf 5 = 1 := by kernel_rfl
  have ci : Tryz.prog.cellsOf 3 = 1 := by kernel_rfl
  rw [cu] at h1
  obtain ⟨y0, y1, n, hy, hlen, t0, t1⟩ := trod_struct2 Tryz.underlying271 h1
  rw [hy] at h3
  simp only [DataW.agg.injEq, List.cons.injEq, and_true] at h3
  obtain ⟨a0, a1⟩ := h3
  simp only [cp, ci] at t0 t1
  obtain ⟨u0, u1, n', hy', hlen', s0, s1⟩ := trod_struct2 Tryz.underlying269 t0
  rw [hy'] at a0
  simp only [DataW.agg.injEq, List.cons.injEq, and_true] at a0
  obtain ⟨b0, b1⟩ := a0
  simp only [c5] at s0 s1
  obtain ⟨x0, e0, f0, _⟩ := DataW.trod_int Tryz.underlying5 s0
  obtain ⟨x1, e1, f1, _⟩ := DataW.trod_int Tryz.underlying5 s1
  obtain ⟨x2, e2, f2, _⟩ := DataW.trod_int Tryz.underlying3 t1
  rw [f0] at b0
  rw [f1] at b1
  rw [f2] at a1
  simp only [DataW.lit.injEq, Lit.int.injEq, true_and] at b0 b1 a1
  subst b0 b1 a1
  refine ⟨?_, ?_, ?_⟩
  · have := congrArg (·[0]?) e0
    simpa [List.getElem?_take, List.getElem?_drop] using this
  · have := congrArg (·[0]?) e1
    simpa [List.getElem?_take, List.getElem?_drop] using this
  · have := congrArg (·[0]?) e2
    simpa [List.getElem?_take, List.getElem?_drop] using this
end
theorem rads_of_laid {W : World} {f : Nat} {cs : Array Value} {p : List MemPlace} {base : Nat} {sp : Nat → Bool} {held : Bool} {enc : TypeId × Value → Unit} (hv : W.var? Tryz.prog "inarch/ints.radixes" = some cs) (hd : DataW.trod enc Tryz.prog W base sp held f 272 cs.toList = some (Rows.laid_inarch_ints_radixes, p)) : II.Rads W := by
  have e1 := rads_of (zs := [(48, 120, 16), (48, 111, 8), (48, 98, 2)]) rfl hd
  have k1 : ∀ i, W.cell? ⟨6, i, none⟩ = cs[i]? := fun i => World.var?_cell gRad hv i
  have a1 : ∀ i z, ([(48, 120, 16), (48, 111, 8), (48, 98, 2)] : List (Int × Int × Int))[i]? = some z → W.cell? ⟨6, i * 3, none⟩ = some (.int .u8 z.1) ∧ W.cell? ⟨6, i * 3 + 1, none⟩ = some (.int .u8 z.2.1) ∧ W.cell? ⟨6, i * 3 + 2, none⟩ = some (.int .i64 z.2.2) := fun i z h => by
    obtain ⟨h1, h2, h3⟩ := e1 i z h
    rw [k1, k1, k1, ← Array.getElem?_toList, ← Array.getElem?_toList, ← Array.getElem?_toList]; exact ⟨h1, h2, h3⟩
  exact ⟨(a1 0 _ rfl).1, (a1 0 _ rfl).2.1, (a1 0 _ rfl).2.2, (a1 1 _ rfl).1, (a1 1 _ rfl).2.1, (a1 1 _ rfl).2.2, (a1 2 _ rfl).1, (a1 2 _ rfl).2.1, (a1 2 _ rfl).2.2⟩
theorem max_of_shape {W : World} (h : W.ShapedOpen Tryz.prog) : Fl.MxL W :=
  cell_of_shapedOpen_int (t := 3) (zero := #[.int .i64 0]) h (of_decide_eq_true (by kernel_rfl)) (by kernel_rfl) rfl (by kernel_rfl) (by kernel_rfl) Tryz.underlying3
theorem tab_of_laidF {W : World} (h : laidMetH Tryz.prog laidF W) (hsh : W.ShapedOpen Tryz.prog) : Fl.AllT W := by
  rw [plainF] at h
  obtain ⟨ps, ⟨g0, t0, cs0, f0, p0, q0, hg0, ht0, hv0, hd0, ⟨g1, t1, cs1, f1, p1, q1, hg1, ht1, hv1, hd1, ⟨g2, t2, cs2, f2, p2, q2, hg2, ht2, hv2, hd2, ⟨g3, t3, cs3, f3, p3, q3, hg3, ht3, hv3, hd3, ⟨g4, t4, cs4, f4, p4, q4, hg4, ht4, hv4, hd4, _⟩, _⟩, _⟩, _⟩, _⟩, _, _⟩ := h
  obtain rfl := Option.some.inj (gPow.symm.trans hg2)
  obtain rfl := Option.some.inj (tPow.symm.trans ht2)
  obtain rfl := Option.some.inj (gRad.symm.trans hg4)
  obtain rfl := Option.some.inj (tRad.symm.trans ht4)
  have c79 : Tryz.prog.cellsOf 113 = 1 := by kernel_rfl
  have ct : Tryz.prog.cellsOf 151 = 20 := by kernel_rfl
  rw [pow_tab] at hd2
  have e := Lib.cells_of_tab Tryz.underlying151 Tryz.underlying113 c79 ct hd2
  have t10 : De.Tab W := by
    unfold De.Tab Lib.TabIs
    rw [hv2, ← e]
  exact ⟨t10, ⟨rads_of_laid hv4 hd4, t10⟩, max_of_shape hsh⟩
/-- The wrap of a row that lists variables, the world's shape kept. -/
theorem handed_shaped {H : Type} {enc : TypeId × Value → H} {a : Assume} {C : Checked} {os : Os} {f : FuncId} {fn : Func} {s : ChangeSpec} {conds : List PathCond} {apart fresh handsOn again : Bool} {X : World → Array Value → Prop}
    (hX : ∀ (w w' : World) (args : Array Value), w.heap = w'.heap → X w args → X w' args)
    (own : ownKnob C.prog.godebug = none) (started : os.Started) (noInit : C.prog.inits.idxOf? f = none) (hfn : C.prog.funcs[f]? = some fn)
    (witness : ∃ (w : World) (tape : Tape) (i : Input), w.os = os ∧ (w.forCall tape i).Shaped C.prog ∧ i.vars = [] ∧ Input.okWide C.prog (w.forCall tape i) .any w.heap.size f i ∧
      ((s.pre enc C.prog fn conds apart (w.forCall tape i).memory i.args ∧ X (w.forCall tape i).memory i.args) ∧ sizedMet enc C.prog fn (OpenSpec.ofChange s) apart (w.forCall tape i).memory i.args) ∧ a.holds C.prog (lone (Frame.enter C.prog f i.args .normal) [] (w.forCall tape i)))
    (contract : ∀ (W : World) (base : Nat) (args : Array Value) (ds gs : List (DataW H)) (before : List MemPlace),
      (∀ (j : Nat) t v, fn.params[j]? = some t → args[j]? = some v → Value.okWide C.prog W .any base t v) →
      DataW.Whole enc C.prog fn.params.toList s.vars apart W args.toList ds gs before →
      conds.all (PathCond.test C.prog ⟨fn.params.toList, ds, s.plain.varTypes C.prog, gs⟩) = true → X W args → W.ShapedOpen C.prog →
      a.holds C.prog (lone (Frame.enter C.prog f args .normal) [] W) →
      Calls C.prog f args W fun e W' => ∃ v, e = .returned v ∧ s.post enc C.prog fn apart fresh handsOn again W args v W') :
    ReturnsInHanded a C os f .any (fun w args => (s.pre enc C.prog fn conds apart w args ∧ X w args) ∧ sizedMet enc C.prog fn (OpenSpec.ofChange s) apart w args) (s.post enc C.prog fn apart fresh handsOn again) := by
  refine returnsInHanded_of_calls own started noInit witness ?_
  intro w tape i _ hsh _ hok hpre hholds
  obtain ⟨_, _, _, fn', hfn', _, _, _, _, hval⟩ := hok
  have e : fn' = fn := Option.some.inj (hfn'.symm.trans hfn)
  subst e
  obtain ⟨⟨⟨ds, gs, before, hw, hc⟩, hx⟩, _⟩ := hpre
  have hw' := DataW.Whole.of_heap (w' := w.forCall tape i) (by rfl) hw
  refine (contract (w.forCall tape i) w.heap.size i.args ds gs before hval hw' hc (hX _ _ _ (by rfl) hx) hsh hholds).mono fun e W' ⟨v, he, hp⟩ => ?_
  subst he
  exact ChangeSpec.post_blind hp
/-- The law as its row asks it. -/
theorem gapW_any (s : ByteArray) (y : Int) (w : World) (h : Fl.AllT w) : Calls Tryz.prog 4 #[.string s, .int .i64 y] w fun e w' => e = .returned (.bool true) ∧ Below w.heap.size w w' := gap_law w h
end Tv
end Go.Proofs.YtbeefjhcbphiaaaGreatDoor
