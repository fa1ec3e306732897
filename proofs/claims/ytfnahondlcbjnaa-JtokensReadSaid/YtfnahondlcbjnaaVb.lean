/- The document's Read: all tokens, and the first fault. -/
import Derived.Test.YtfnahondlcbjnaaVa
namespace Go.Proofs.Ytfnahondlcbjnaa
open Go.RowKit
namespace Jk

/-- What Read leaves. -/
def RdP (kd : IntKind) (ty : TypeId) (w : World) (l : List UInt8) (e : Ending) (w' : World) : Prop :=
  ∃ v, e = .returned (.tuple #[v, ftV (tks l 0).2]) ∧ w'.ownsRow w.heap.size ty 3 v (tks l 0).1.length (tkL kd (tks l 0).1) ∧ Below w.heap.size w w'
/-- What holds at each round's head. -/
structure RR (kd : IntKind) (ty : TypeId) (w : World) (l : List UInt8) (i : Nat) (v : Value) (ts : List Tok) (wr : World) : Prop where
  all : tks l 0 = (ts ++ (tks l i).1, (tks l i).2)
  few : ts.length ≤ i
  own : wr.ownsRow (w.heap.size + 1) ty 3 v ts.length (tkL kd ts)
  fb : FB w wr 0 0
section
variable {kd : IntKind} {ty : TypeId} {w wr : World} {l : List UInt8} {i : Nat} {v : Value} {ts : List Tok}
theorem RR.start (h : FB w wr 0 0) : RR kd ty w l 0 (.slice none 0 0) [] wr := ⟨by simp, Nat.le_refl _, World.ownsRow_nil _ _ _ _, h⟩
theorem RR.next (h : RR kd ty w l i v ts wr) {k m : Nat} (ht : TK (l.drop i) k m) {v2 : Value} {w1 W2' w3 : World} {o o2 : Obj} {c a : Int} {news : List Value} (hb : Below wr.heap.size wr w1) (hw : W2 w1 W2' o c a)
    (hn : news = tkC kd (k, i, i + m)) (h5 : w3.ownsRow (w.heap.size + 1) ty 3 v2 (ts.length + 1) (tkL kd ts ++ news)) (h6 : (W2'.alloc o2).grownBy w3 v.ownBlock) : RR kd ty w l (i + m) v2 (ts ++ [(k, i, i + m)]) w3 := by
  obtain ⟨h1, h2, h3, h4⟩ := h
  subst hn
  have hm := (tk_len ht).1
  rw [tks_tok ht] at h1
  refine ⟨by rw [h1]; simp, by rw [List.length_append, List.length_singleton]; omega, ?_, ((((h4.on hb).on hw.below).alloc o2).grown h6 fun g e => (h3.lt g e).1)⟩
  rw [tkL_app, List.length_append, List.length_singleton]
  simpa [tkL] using h5
theorem RR.done (h : RR kd ty w l i v ts wr) (hi : l.length ≤ i) : tks l 0 = (ts, none) := by rw [h.all, tks_end hi, List.append_nil]
theorem RR.stop (h : RR kd ty w l i v ts wr) (hi : i < l.length) {m : Nat} (hx : nx (l.drop i) = .bad m) : tks l 0 = (ts, some (i + m)) := by rw [h.all, tks_bad hi hx, List.append_nil]
end
section
variable {l : List UInt8} {A : Option Addr}
set_option maxHeartbeats 8000000 in
set_option maxRecDepth 100000 in
theorem rread_is (n c : Nat) {B : Nat} (w : World) (hn : n = l.length) (hnc : n ≤ c) (hc6 : c ≤ maxLen) (hA : Byt w B A l) (hB : B ≤ w.heap.size) (hm : n ≤ 1000000) :
    Calls Try.prog 9 #[.slice A n c] w (RdP .i64 40 w l) := by
  obtain ⟨i4, hi, hz0, hz1, hz2⟩ := info_parts (show (Try.prog.info? 40).map (fun i => (i.zero, i.size, i.bytes)) = some (some (.agg #[.int .i64 0, .int .i64 0, .int .i64 0]), 3, 24) by kernel_rfl)
  have Hn := Lib.hid hn
  have HA := Lib.hid hA
  have HB := Lib.hid hB
  have HC := Lib.hid (And.intro hnc hc6)
  have HM := Lib.hid hm
  have F0 := Lib.hid (RR.start (kd := .i64) (ty := 40) (l := l) (FB.start (w := w) (c := 0) (a := 0)))
  clear hn hA hB hnc hc6
  go_enter Try.func9, Try.ntmps9
  go_wp2_with fail
  go_loopw [4, 5, 6, 7] (fun v s _ _ wr => ∃ (i : Nat) (ts : List Tok), i ≤ n ∧ s = .int .i64 i ∧ Hid (RR .i64 40 w l i v ts wr)) (fun _ s _ _ _ => n - (intOf s).toNat)
  case atStart => exact ⟨0, [], Nat.zero_le _, rfl, F0⟩
  case round =>
    obtain ⟨i, ts, hin, rfl, HR⟩ := hrel
    clear F0
    by_cases hlt : i < n
    · have HLT := Lib.hid (show i < l.length by rw [← Hn.out]; exact hlt)
      have C := Lib.hid (rnext_is (A := A) (B := B) n c i (x := i) wr Hn.out HC.out.1 HC.out.2 (HA.out.below (HR.out.fb.below.mono HB.out)) (Nat.le_trans HB.out HR.out.fb.below.size) hm rfl)
      obtain ⟨r, HRX⟩ : ∃ r, Hid (r = nx (l.drop i)) := ⟨_, rfl⟩
      rw [← HRX.out] at C
      go_wp2_with fail
      refine C.out.mono ?_
      rintro e w1 ⟨rfl, hb1⟩
      have HB1 := Lib.hid hb1
      clear hb1 C
      cases r with
      | bad m =>
        have HT := Lib.hid (HR.out.stop HLT.out HRX.out.symm)
        simp only [nxA]
        go_upto_region 6 with fail
        have HW := Lib.hid (W2.start (W := w1) (o := rtO 0 0 0) (c := 3) (a := (i : Int) + m))
        obtain ⟨W', hW'⟩ : ∃ W', W' = (w1.alloc (rtO 0 0 0)).alloc (fvO 3 ((i : Int) + m)) := ⟨_, rfl⟩
        rw [← hW'] at HW ⊢
        have FW := Lib.hid ((HR.out.fb.on HB1.out).on HW.out.below)
        have OW := Lib.hid (own_below (own_below HR.out.own HB1.out (Nat.le_refl _)) HW.out.below (Nat.le_refl _))
        obtain ⟨g0, g1⟩ := HW.out.faults
        obtain ⟨⟨c0, c1⟩, f0, f1⟩ := FW.out.cells
        clear hW'
        go_region
        go_wp2_with fail
        refine bodyPost_ret (v := .tuple #[u4, fvV 3 ((i : Int) + m)]) (by simp [results, Try.results9, go_sem, *]) rfl ?_
        refine ⟨u4, by rw [HT.out]; rfl, ?_, (FW.out.set.below).drew⟩
        rw [HT.out]
        exact (own_base (own_set (own_set OW.out (by simp)) (by simp)) (Nat.le_succ _)).drew
      | tok k m =>
        have HT := Lib.hid (tk_of HRX.out.symm)
        have hml : i + m ≤ n := by
          have h1 := (tk_len HT.out).2
          rw [List.length_drop, ← Hn.out] at h1
          omega
        have hm0 : 0 < m := (tk_len HT.out).1
        simp only [nxA]
        go_upto_region 7 with fail
        have HW := Lib.hid (W2.start (W := w1) (o := rtO k i ((i : Int) + m)) (c := 0) (a := 0))
        obtain ⟨W', hW'⟩ : ∃ W', W' = (w1.alloc (rtO k i ((i : Int) + m))).alloc (fvO 0 0) := ⟨_, rfl⟩
        rw [← hW'] at HW ⊢
        have OW := Lib.hid (own_below (own_below HR.out.own HB1.out (Nat.le_refl _)) HW.out.below (Nat.le_refl _))
        obtain ⟨t0, t1, t2⟩ := HW.out.toks
        have hts : ts.length ≤ 1000000 := Nat.le_trans HR.out.few (by omega)
        have hws : w.heap.size + 1 ≤ (W'.alloc (.cells #[.int .i64 k, .int .i64 i, .int .i64 ((i : Int) + m)] 40)).heap.size := by
          have h1 := HR.out.fb.lt
          have h2 := HB1.out.size
          have h3 := HW.out.size
          have h4 := (World.grownBy_alloc W' (.cells #[.int .i64 k, .int .i64 i, .int .i64 ((i : Int) + m)] 40) none).size
          omega
        have HT2 : Hid (∀ w2, (W'.alloc (.cells #[.int .i64 k, .int .i64 i, .int .i64 ((i : Int) + m)] 40)).grownBy w2 u4.ownBlock → w2.cell? ⟨w1.heap.size, 2, none⟩ = some (.int .i64 ((i : Int) + m))) := Lib.hid fun w2 hg => by
          refine hg.cell (a := ⟨w1.heap.size, 2, none⟩) (by rw [World.cell?_alloc_lt _ _ _ (by have := HW.out.size; simp; omega)]; exact t2) (fun e => ?_)
          have h1 := (HR.out.own.lt w1.heap.size e.symm).2
          have h2 := HB1.out.size
          omega
        clear hW'
        go_wp2_with (at_builtin; refine wpList_append_own _ rfl (.tmp 23) (.tmp 25) 31 rfl (w.heap.size + 1) 40 i4 (.agg #[.int .i64 0, .int .i64 0, .int .i64 0]) 3 24 Try.underlying31 hi hz0 hz1 hz2 rfl (by decide) _ ts.length (tkL .i64 ts) rfl (OW.out.alloc _) ⟨W'.heap.size, 0, none⟩ 1 1 [.int .i64 k, .int .i64 i, .int .i64 ((i : Int) + m)] rfl rfl (cells_new _ _ rfl) (one3 _ _ _ _) (by unfold maxLen; omega) (by omega) hws ?_; intro v2 w2 hown2 hg2 _; have cT := HT2.out _ hg2)
        have N := Lib.hid (HR.out.next HT.out HB1.out HW.out (news := [.int .i64 k, .int .i64 i, .int .i64 ((i : Int) + m)]) rfl hown2 hg2)
        clear hown2 hg2
        go_roundw
        case rel => exact ⟨i + m, _, hml, by go_num, N⟩
        case measure => simp [intOf]; omega
    · obtain rfl : i = n := by omega
      have HT := Lib.hid (HR.out.done (by rw [← Hn.out]; exact Nat.le_refl _))
      have OW := HR.out.own
      obtain ⟨⟨c0, c1⟩, f0, f1⟩ := HR.out.fb.cells
      go_wp2_with fail
      refine bodyPost_ret (v := .tuple #[u4, fvV 0 0]) (by simp [results, Try.results9, go_sem, *]) rfl ?_
      refine ⟨u4, by rw [HT.out]; rfl, ?_, HR.out.fb.set.below⟩
      rw [HT.out]
      exact own_base (own_set (own_set OW (by simp)) (by simp)) (Nat.le_succ _)
end
end Jk
end Go.Proofs.Ytfnahondlcbjnaa
