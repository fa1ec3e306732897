/- What landed: token, document. -/
import Derived.Test.YtdclhepjoifpiaaGreatDoorKmm
import Derived.Test.YtdclhepjoifpiaaGreatDoorAz
import Derived.Test.YtdclhepjoifpiaaGreatDoorAy
import Derived.Test.YtdclhepjoifpiaaGreatDoorBl
import Derived.Test.YtdclhepjoifpiaaGreatDoorAr
import Derived.Recover
namespace Go.Proofs.YtdclhepjoifpiaaGreatDoor
open Go.RowKit
namespace Jt
section
variable {w : World} {P : Nat} {sv nv : Value} {lab : Nat → Own} {op : Nat → Prop} {mb : Nat → Nat} {ks : Nat → List Bs} {X : List Nx} {l : List UInt8} {A : Option Addr} {N C : Nat} {en : Nat × Nat} {E : Env}
theorem Step.relab {bv : Value} {_lab' : Nat → Own} {r : SR} {e : Ending} {w1 w' : World} (hb : Below w.heap.size w w1) (hP : P ≤ w.heap.size) (h : Step w1 P bv lab r e w') : Step w P bv lab r e w' := by
  refine ⟨(hb.mono hP).trans h.1, ?_⟩
  cases r with
  | bad c a => exact h.2
  | ok s => exact ⟨h.2.1, (Fr.of hb).on hb.size (fun _ _ => rfl) h.2.2.1, h.2.2.2⟩
set_option maxRecDepth 100000 in
set_option maxHeartbeats 4000000 in
theorem token_any {s : St} {k f t nn : Nat} {ky : Int} (hky : ky = (k : Nat)) (hk4 : k ≤ 4) (he : E = envL l en) (h : PM w P (.slice A N C) s.wd s.sk lab op mb ks sv nv X) (hX : X.map Nx.nd = s.nd) (hK : ∀ a, (a, true) ∈ s.sk → ks a = keysAt s.nd a) (hw : Wf nn s) (hnn : nn ≤ 1000000) (hT : Txt w P A N C l) (hTb : Tabs P w) (hft : f < t) (ht : t ≤ N) :
    Calls Tryz.prog 30 #[.pointer (some ⟨P, 0, none⟩), .agg #[.int .u8 ky, .int .i64 (f : Nat), .int .i64 (t : Nat)]] w (Step w P (.slice A N C) lab (step E s (k, f, t))) := by
  obtain ⟨w1, hw1⟩ : ∃ w1, w1 = w.alloc (.cells #[.int .u8 ky, .int .i64 (f : Nat), .int .i64 (t : Nat)] 52) := ⟨_, rfl⟩
  have hb1 : Below w.heap.size w w1 := by rw [hw1]; exact (Below.refl _ _).alloc (Nat.le_refl _) _
  have hM := h.below hb1
  have hP := Nat.le_of_lt h.lt
  have hb1P := hb1.mono hP
  have HB := Lib.hid hb1
  have HP := Lib.hid hP
  obtain ⟨r, hr⟩ : ∃ r, r = Jt.step E s (k, f, t) := ⟨_, rfl⟩
  rw [← hr]
  have tail : ∀ {e : Ending} {w' : World} {R : Ending → World → Prop}, Step w1 P (.slice A N C) lab r e w' → (∀ s', r = .ok s' → e = .returned (.tuple #[]) → R e w') → (∀ c a, r = .bad c a → R e w') → R e w' := fun {e w' R} hs h1 h2 => by
    cases r with
    | bad c a => exact h2 c a rfl
    | ok s' => exact h1 s' rfl hs.2.1
  have k5 : k = 0 ∨ k = 1 ∨ k = 2 ∨ k = 3 ∨ k = 4 := by omega
  rcases k5 with rfl | rfl | rfl | rfl | rfl
  · have R := Lib.hid (hr.trans (show Jt.step E s (0, f, t) = .ok s by
      unfold Jt.step
      rw [if_neg (show ¬ (0 : Nat) = 2 by decide), if_neg (show ¬ (0 : Nat) = 3 by decide), if_neg (show ¬ (0 : Nat) = 4 by decide), if_neg (show ¬ (0 : Nat) = 1 by decide)]))
    have HH := Lib.hid hM
    have HX := Lib.hid hX
    have HK := Lib.hid hK
    obtain rfl : ky = 0 := hky
    clear hM h hX hK hw hT hTb tail hb1 hb1P hr he hft ht hP
    go_enter Tryz.func30, Tryz.ntmps30
    go_wp2_with fail
    rw [← hw1]
    refine bodyPost_end (results_none rfl _ _ _) rfl ?_
    exact Step.ok (HB.out.mono HP.out) R.out rfl HH.out HX.out HK.out (Fr.of HB.out)
  · have C := Lib.hid (mark_any (E := E) he hM hX hK hw hnn (hT.below hb1P) hft ht)
    rw [← hr] at C
    obtain rfl : ky = 1 := hky
    clear hM h hX hK hw hT hTb tail hb1 hb1P hr he hft ht hP
    go_enter Tryz.func30, Tryz.ntmps30
    go_wp2_with fail
    rw [← hw1]
    refine C.out.mono ?_
    rintro e w' hs
    have HS := Lib.hid (Step.relab (_lab' := lab) HB.out HP.out hs)
    cases r with
    | bad c a => obtain ⟨_, rfl⟩ := hs; exact ⟨rfl, HS.out⟩
    | ok s' =>
      obtain ⟨_, rfl, _⟩ := hs
      go_wp2_with fail
      refine bodyPost_end (results_none rfl _ _ _) rfl ?_
      exact HS.out
  · have C := Lib.hid (word_any (E := E) he hM hX hK hw hnn (hT.below hb1P) (hTb.below hb1P) hft ht)
    rw [← hr] at C
    obtain rfl : ky = 2 := hky
    clear hM h hX hK hw hT hTb tail hb1 hb1P hr he hft ht hP
    go_enter Tryz.func30, Tryz.ntmps30
    go_wp2_with fail
    rw [← hw1]
    refine C.out.mono ?_
    rintro e w' hs
    have HS := Lib.hid (Step.relab (_lab' := lab) HB.out HP.out hs)
    cases r with
    | bad c a => obtain ⟨_, rfl⟩ := hs; exact ⟨rfl, HS.out⟩
    | ok s' =>
      obtain ⟨_, rfl, _⟩ := hs
      go_wp2_with fail
      refine bodyPost_end (results_none rfl _ _ _) rfl ?_
      exact HS.out
  · have C := Lib.hid (number_any (E := E) he hM hX hK hw hnn (hT.below hb1P) (hTb.below hb1P) hft ht)
    rw [← hr] at C
    obtain rfl : ky = 3 := hky
    clear hM h hX hK hw hT hTb tail hb1 hb1P hr he hft ht hP
    go_enter Tryz.func30, Tryz.ntmps30
    go_wp2_with fail
    rw [← hw1]
    refine C.out.mono ?_
    rintro e w' hs
    have HS := Lib.hid (Step.relab (_lab' := lab) HB.out HP.out hs)
    cases r with
    | bad c a => obtain ⟨_, rfl⟩ := hs; exact ⟨rfl, HS.out⟩
    | ok s' =>
      obtain ⟨_, rfl, _⟩ := hs
      go_wp2_with fail
      refine bodyPost_end (results_none rfl _ _ _) rfl ?_
      exact HS.out
  · have C := Lib.hid (text_any (E := E) he hM hX hK hw hnn (hT.below hb1P) (hTb.below hb1P) hft ht)
    rw [← hr] at C
    obtain rfl : ky = 4 := hky
    clear hM h hX hK hw hT hTb tail hb1 hb1P hr he hft ht hP
    go_enter Tryz.func30, Tryz.ntmps30
    go_wp2_with fail
    rw [← hw1]
    refine C.out.mono ?_
    rintro e w' hs
    have HS := Lib.hid (Step.relab (_lab' := lab) HB.out HP.out hs)
    cases r with
    | bad c a => obtain ⟨_, rfl⟩ := hs; exact ⟨rfl, HS.out⟩
    | ok s' =>
      obtain ⟨_, rfl, _⟩ := hs
      go_wp2_with fail
      refine bodyPost_end (results_none rfl _ _ _) rfl ?_
      exact HS.out
theorem token_is {s : St} {k f t nn : Nat} {ky fy ty : Int} (hky : ky = (k : Nat)) (hfy : fy = (f : Nat)) (hty : ty = (t : Nat)) (hk4 : k ≤ 4) (he : E = envL l en) (h : PM w P (.slice A N C) s.wd s.sk lab op mb ks sv nv X) (hX : X.map Nx.nd = s.nd) (hK : ∀ a, (a, true) ∈ s.sk → ks a = keysAt s.nd a) (hw : Wf nn s) (hnn : nn ≤ 1000000) (hT : Txt w P A N C l) (hTb : Tabs P w) (hft : f < t) (ht : t ≤ N) {r : SR} (hr : r = step E s (k, f, t)) :
    Calls Tryz.prog 30 #[.pointer (some ⟨P, 0, none⟩), .agg #[.int .u8 ky, .int .i64 fy, .int .i64 ty]] w (Step w P (.slice A N C) lab r) := by
  subst hfy; subst hty; subst hr; exact token_any hky hk4 he h hX hK hw hnn hT hTb hft ht
theorem tk_kind {l : Bs} {k n : Nat} (h : Jk.TK l k n) : k ≤ 4 := by cases h <;> omega
/-- What the memory holds between two tokens. -/
def MS (w : World) (P : Nat) (bv : Value) (s : St) : Prop :=
  ∃ lab op mb ks sv nv X, PM w P bv s.wd s.sk lab op mb ks sv nv X ∧ X.map Nx.nd = s.nd ∧ ∀ a, (a, true) ∈ s.sk → ks a = keysAt s.nd a
theorem MS.below {bv : Value} {s : St} {w' : World} (h : MS w P bv s) (hb : Below w.heap.size w w') : MS w' P bv s := by
  obtain ⟨lab, op, mb, ks, sv, nv, X, h1, h2, h3⟩ := h
  exact ⟨lab, op, mb, ks, sv, nv, X, h1.below hb, h2, h3⟩
theorem MS.po {bv : Value} {s : St} (h : MS w P bv s) : ∃ sv nv, PO w P bv s.wd sv nv := by
  obtain ⟨lab, op, mb, ks, sv, nv, X, h1, h2, h3⟩ := h
  exact ⟨sv, nv, h1.po⟩
structure DRl (w0 : World) (P : Nat) (bv : Value) (E : Env) (i : Nat) (s : St) (wr : World) : Prop where
  run : run E ⟨1, [], []⟩ (Jk.tks E.l 0).1 = run E s (Jk.tks E.l i).1
  flt : (Jk.tks E.l 0).2 = (Jk.tks E.l i).2
  wf : Wf i s
  ms : MS wr P bv s
  bel : Below P w0 wr
  low : P < wr.heap.size
/-- What document leaves. -/
def DocL (w : World) (P : Nat) (bv : Value) (r : NR) (e : Ending) (w' : World) : Prop :=
  Below P w w' ∧ match r with
  | .bad c a => e = .panicked [{ v := FV (c : Nat) (a : Nat), recovered := false }]
  | .ok nd => e = .returned (.tuple #[]) ∧ ∃ s, s.nd = nd ∧ MS w' P bv s
theorem DocL.bad {bv : Value} {w' : World} {r : NR} {c a : Nat} {e : Ending} (hb : Below P w w') (hr : r = .bad c a) (he : e = .panicked [{ v := FV (c : Nat) (a : Nat), recovered := false }]) : DocL w P bv r e w' := by subst hr; exact ⟨hb, he⟩
theorem DocL.ok {bv : Value} {w' : World} {r : NR} {s : St} {e : Ending} (hb : Below P w w') (hr : r = .ok s.nd) (he : e = .returned (.tuple #[])) (h : MS w' P bv s) : DocL w P bv r e w' := by subst hr; exact ⟨hb, he, s, rfl, h⟩
set_option maxRecDepth 100000 in
set_option maxHeartbeats 8000000 in
theorem document_any (he : E = envL l en) (hM : MS w P (.slice A N C) ⟨1, [], []⟩) (hT : Txt w P A N C l) (hTb : Tabs P w) :
    Calls Tryz.prog 20 #[.pointer (some ⟨P, 0, none⟩)] w (DocL w P (.slice A N C) (docP E (Jk.tks l 0).2 (Jk.tks l 0).1)) := by
  have hel : E.l = l := by rw [he]; rfl
  obtain ⟨sv0, nv0, hpo⟩ := hM.po
  have D0 := Lib.hid (show DRl w P (.slice A N C) E 0 ⟨1, [], []⟩ w from ⟨rfl, rfl, Wf.start, hM, Below.refl _ _, hpo.lt⟩)
  obtain ⟨r, hr⟩ : ∃ r, r = docP E (Jk.tks l 0).2 (Jk.tks l 0).1 := ⟨_, rfl⟩
  rw [← hr]
  have HR := Lib.hid hr
  have HT := Lib.hid hT
  have HTB := Lib.hid hTb
  have HE := Lib.hid he
  have HEL := Lib.hid hel
  have HP := Lib.hid hpo.lt
  have hfew := hT.few
  have hc6 := hT.c6
  unfold maxLen at hc6
  clear hM hT hTb hr he hel hpo
  go_enter Tryz.func20, Tryz.ntmps20
  go_wp2_with fail
  go_loopw [2, 3, 4] (fun v _ _ wr => ∃ (i : Nat) (s : St), i ≤ N ∧ v = .int .i64 i ∧ Hid (DRl w P (.slice A N C) E i s wr)) (fun v _ _ _ => N - (intOf v).toNat)
  case atStart => exact ⟨0, _, Nat.zero_le _, rfl, D0⟩
  case round =>
    obtain ⟨i, s, hiN, rfl, HD⟩ := hrel
    clear D0
    obtain ⟨sv, nv, hpo⟩ := HD.out.ms.po
    have c0 := hpo.cells.1
    have c1 := hpo.cells.2.1
    by_cases hlt : i < N
    · have hli : i < l.length := by have := HT.out.n; omega
      have HLI := Lib.hid hli
      have CX := Lib.hid (Jk.lnext_in (l := l) (A := A) (B := P) N C i (x := i) wr Jk.forms_ok HT.out.n HT.out.c HT.out.c6 (HT.out.byt.below HD.out.bel) (Nat.le_of_lt hpo.lt) hfew rfl hli)
      obtain ⟨q, HQ⟩ : ∃ q, Hid (q = Jk.nx (l.drop i)) := ⟨_, rfl⟩
      rw [← HQ.out] at CX
      clear hpo hli c1
      go_wp2_with fail
      refine CX.out.mono ?_
      rintro e w1 ⟨rfl, hb1⟩
      have HB1 := Lib.hid hb1
      have HD1 := Lib.hid (HD.out.ms.below hb1)
      have HBP := Lib.hid (HD.out.bel.trans (hb1.mono (Nat.le_of_lt HD.out.low)))
      have HLW := Lib.hid (Nat.lt_of_lt_of_le HD.out.low hb1.size)
      clear hb1 CX c0
      cases q with
      | bad m =>
        have R := Lib.hid (HR.out.trans (show docP E (Jk.tks l 0).2 (Jk.tks l 0).1 = .bad 3 (i + m) by
          have h1 := HD.out.run
          have h2 := HD.out.flt
          rw [HEL.out, Jk.tks_bad HLI.out HQ.out.symm] at h1 h2
          unfold docP
          rw [h1, h2]
          rfl))
        simp only [Jk.lnA]
        go_upto_region 3 with fail
        go_wp2_with fail
        refine (fail_any _ _ _).mono ?_
        rintro e w2 ⟨rfl, rfl⟩
        exact ⟨rfl, DocL.bad ((HBP.out.alloc (Nat.le_of_lt HLW.out) _).alloc (by have := HLW.out; simp; omega) _) R.out (by rw [Int.natCast_add]; rfl)⟩
      | tok k m =>
        have hTK := Jk.tk_of HQ.out.symm
        have htl := Jk.tk_len hTK
        have htk := Jk.tks_tok hTK
        rw [List.length_drop] at htl
        have hk4 := tk_kind hTK
        simp only [Jk.lnA]
        obtain ⟨lab, op, mb, ks, sv, nv, X, hM, hX, hK⟩ := HD.out.ms
        obtain ⟨W2, hW2⟩ : ∃ W2, W2 = (w1.alloc (.cells #[.int .u8 (k : Nat), .int .i64 (i : Nat), .int .i64 ((i : Int) + m)] 52)).alloc (.cells #[.int .i64 0, .int .i64 0] 30) := ⟨_, rfl⟩
        have hbW : Below w1.heap.size w1 W2 := by rw [hW2]; exact ((Below.refl _ _).alloc (Nat.le_refl _) _).alloc (by simp) _
        have hzW : w1.heap.size < W2.heap.size := by rw [hW2]; simp; omega
        have hPW := Nat.le_of_lt HLW.out
        have hM2 := (hM.relabel (lab' := fun b => if b = w1.heap.size then .no else lab b) (fun b hb => if_neg (by have := HB1.out.size; omega))).below (Jk.below_tr HB1.out hbW)
        have hbP := HBP.out.trans (hbW.mono hPW)
        obtain ⟨r', hr'⟩ : ∃ r', r' = Jt.step E s (k, i, i + m) := ⟨_, rfl⟩
        have CC := Lib.hid (token_is (ky := (k : Nat)) (k := k) (f := i) (t := i + m) (fy := (i : Nat)) (ty := (i : Int) + m) rfl rfl (by rw [Int.natCast_add]) hk4 HE.out hM2 hX hK HD.out.wf (by omega) (HT.out.below hbP) (HTB.out.below hbP) (by omega) (by have := HT.out.n; omega) hr')
        have tc : W2.cell? ⟨w1.heap.size, 2, none⟩ = some (.int .i64 ((i : Int) + m)) := by rw [hW2]; simp [go_sem]
        have HTC := Lib.hid tc
        have HBW := Lib.hid hbP
        have HTKS := Lib.hid htk
        have HRR := Lib.hid hr'
        have HWF2 := Lib.hid (fun s' (e : Jt.step E s (k, i, i + m) = .ok s') => (HD.out.wf.step e).more (show i + 1 ≤ i + m by omega))
        have hmN : i + m ≤ N := by have := HT.out.n; omega
        have hm0 : 0 < m := htl.1
        clear hTK htl htk hk4 hM hX hK hM2 hbP hr' tc hbW
        go_wp2_with fail
        rw [← hW2]
        clear hW2
        refine CC.out.mono ?_
        rintro e w3 hs
        cases r' with
        | bad c a =>
          obtain ⟨hb3, rfl⟩ := hs
          have R := HR.out.trans (show docP E (Jk.tks l 0).2 (Jk.tks l 0).1 = .bad c a by
            have h1 := HD.out.run
            rw [HEL.out, HTKS.out] at h1
            unfold docP
            rw [h1, run_bad HRR.out.symm])
          exact ⟨rfl, DocL.bad (HBW.out.trans hb3) R rfl⟩
        | ok s' =>
          obtain ⟨hb3, rfl, hf3, hms⟩ := hs
          have c2 : w3.cell? ⟨w1.heap.size, 2, none⟩ = some (.int .i64 ((i : Int) + m)) :=
            (World.cell?_of_block (a := ⟨w1.heap.size, 2, none⟩) (hf3 w1.heap.size hzW (by have := HLW.out; omega) (if_pos rfl))).trans HTC.out
          have N1 := Lib.hid (show DRl w P (.slice A N C) E (i + m) s' w3 from ⟨by
              have h1 := HD.out.run
              rw [HEL.out, HTKS.out] at h1
              rw [HEL.out, h1, run_cons HRR.out.symm], by
              have h2 := HD.out.flt
              rw [HEL.out, HTKS.out] at h2
              rw [HEL.out, h2], HWF2.out s' HRR.out.symm, hms, HBW.out.trans hb3, Nat.lt_of_lt_of_le HLW.out (Nat.le_trans (Nat.le_of_lt hzW) hb3.size)⟩)
          clear hb3 hf3 hms CC
          go_wp2_with fail
          go_roundw
          case rel => exact ⟨i + m, s', hmN, by go_num, N1⟩
          case measure => simp [intOf]; omega
    · obtain rfl : i = N := by omega
      have htk := Jk.tks_end (l := l) (i := i) (by have := HT.out.n; omega)
      have hdoc : docP E (Jk.tks l 0).2 (Jk.tks l 0).1 = if s.wd = 0 then .ok s.nd else .bad 3 l.length := by
        have h1 := HD.out.run
        have h2 := HD.out.flt
        rw [HEL.out, htk] at h1 h2
        unfold docP
        rw [h1, h2, HEL.out]
        rfl
      have HDOC := Lib.hid (HR.out.trans hdoc)
      have HNN := Lib.hid HT.out.n
      have hwd := HD.out.wf.wd
      clear htk hdoc hpo
      by_cases h0 : s.wd = 0
      · have R := Lib.hid (HDOC.out.trans (if_pos h0))
        rw [h0] at c1
        clear h0 hwd
        go_wp2_with fail
        refine bodyPost_end (results_none rfl _ _ _) rfl ?_
        exact DocL.ok HD.out.bel R.out rfl HD.out.ms
      · have R := Lib.hid (HDOC.out.trans (if_neg h0))
        obtain ⟨z, hz⟩ : ∃ z : Int, z = (s.wd : Nat) := ⟨_, rfl⟩
        have hz0 : (z != 0) = true := by rw [hz]; simp; omega
        rw [← hz] at c1
        clear h0 hwd hz
        go_wp2_with fail
        refine (fail_any _ _ _).mono ?_
        rintro e w2 ⟨rfl, rfl⟩
        exact ⟨rfl, DocL.bad HD.out.bel R.out (by rw [← HNN.out]; rfl)⟩
end
end Jt
end Go.Proofs.YtdclhepjoifpiaaGreatDoor
/- What landed: check; what the face does with a fault. -/
namespace Go.Proofs.YtdclhepjoifpiaaGreatDoor
open Go.RowKit
namespace Jt
/-- A fault's value. -/
def ftN (c a : Int) : Value := .agg #[.int .i64 c, .int .i64 a]
theorem ta_fault (c a : Int) (w : World) : (Instr.typeAssert (.iface 30 (.agg #[.int .i64 c, .int .i64 a])) 20 30 false).run Tryz.prog w = .ok (.agg #[.int .i64 c, .int .i64 a]) w := by kernel_rfl
theorem catch_panicking {p : Nat} {c0 a0 : Value} (c a : Int) (older : List PanicEntry) (w : World) (h0 : w.cell? ⟨p, 0, none⟩ = some c0) (h1 : w.cell? ⟨p, 1, none⟩ = some a0) (f0 : w.frozen? ⟨p, 0, none⟩ = false) (f1 : w.frozen? ⟨p, 1, none⟩ = false) :
    CallsD Tryz.prog 18 #[.pointer (some ⟨p, 0, none⟩)] (.panicking ({ v := FV c a, recovered := false } :: older)) w fun e u' w' =>
      e = .returned (.tuple #[]) ∧ u' = .panicking ({ v := FV c a, recovered := true } :: older) ∧ w' = (w.setCell ⟨p, 0, none⟩ (.int .i64 c)).setCell ⟨p, 1, none⟩ (.int .i64 a) := by
  have td := ta_fault c a
  refine callsD_of_wpS Tryz.func18 rfl fun k0 cs hu => ?_
  apply wpS_seq
  apply wpS_region
  simp [wpOpsS, go_sem, recoverD, hu, Tryz.ntmps18, Exit.thenS]
  refine wpS_of_wp ?_
  change Code.wp _ _ _ { tmps := #[.pointer (some ⟨p, 0, none⟩), .iface 30 (.agg #[.int .i64 c, .int .i64 a]), .iface 30 (.agg #[.int .i64 c, .int .i64 a]), undef, undef, undef, undef], defers := [] } _
  go_wp2_with fail
  exact ⟨rfl, _, rfl, _, results_none rfl _ _ _, rfl, rfl, rfl⟩
theorem catch_idle (p : Addr) (w : World) :
    CallsD Tryz.prog 18 #[.pointer (some p)] .returning w fun e u' w' => e = .returned (.tuple #[]) ∧ u' = .returning ∧ w' = w := by
  refine callsD_of_wpS Tryz.func18 rfl fun k0 cs hu => ?_
  apply wpS_seq
  apply wpS_region
  simp [wpOpsS, go_sem, recoverD, hu, Tryz.ntmps18, Exit.thenS]
  refine wpS_of_wp ?_
  change Code.wp _ _ _ { tmps := #[.pointer (some p), .nilIface, .nilIface, undef, undef, undef, undef], defers := [] } _
  go_wp2_with fail
  exact ⟨rfl, .returning, by rw [← hu], _, results_none rfl _ _ _, rfl, rfl, rfl⟩
theorem check_ok {l : List UInt8} {B : Nat} {A : Option Addr} (n c : Nat) {w : World} (hn : n = l.length) (hnc : n ≤ c) (hA : Byt w B A l) (hm : c ≤ maxLen) (hs : n ≤ 1000000) (hk : U8.chkOk l = true) :
    Calls Tryz.prog 19 #[.slice A n c] w fun e w' => e = .returned (.tuple #[]) ∧ w = w' := by
  have C := Lib.hid (U8.check_any n c hn hnc hA hm)
  rw [hk] at C
  clear hn hA hnc hm hk
  go_enter Tryz.func19, Tryz.ntmps19
  go_wp2_with fail
  refine C.out.mono ?_
  rintro e w' ⟨rfl, rfl⟩
  go_wp2_with fail
  refine bodyPost_end (results_none rfl _ _ _) rfl ?_
  exact ⟨rfl, rfl⟩
theorem check_bad {l : List UInt8} {B : Nat} {A : Option Addr} (n c : Nat) {w : World} (hn : n = l.length) (hnc : n ≤ c) (hA : Byt w B A l) (hm : c ≤ maxLen) (hs : n ≤ 1000000) (hk : U8.chkOk l = false) :
    Calls Tryz.prog 19 #[.slice A n c] w fun e w' => e = .panicked [{ v := FV 2 (U8.chkAt l), recovered := false }] ∧ w = w' := by
  have C := Lib.hid (U8.check_any n c hn hnc hA hm)
  rw [hk] at C
  clear hn hA hnc hm hk
  go_enter Tryz.func19, Tryz.ntmps19
  go_wp2_with fail
  refine C.out.mono ?_
  rintro e w' ⟨rfl, rfl⟩
  go_wp2_with fail
  refine (fail_any _ _ _).mono ?_
  rintro e w' ⟨rfl, rfl⟩
  exact ⟨rfl, rfl, rfl⟩
end Jt
end Go.Proofs.YtdclhepjoifpiaaGreatDoor
/- What landed: Parse. -/
namespace Go.Proofs.YtdclhepjoifpiaaGreatDoor
open Go.RowKit
namespace Jt
/-- A tree's nodes, to read. -/
structure Tr (w : World) (base : Nat) (lab : Nat → Own) (v : Value) (X : List Nx) : Prop where
  row : Rr w base 44 7 v X.length (ndL X)
  l : ∀ b, v.ownBlock = some b → lab b = .nd
  e : ∀ i x, X[i]? = some x → ∀ j, j < 3 → Rr w base (ety j) (esz j) (x.v j) (ecn x.nd j) (ecs x.nd j) ∧ ∀ b, (x.v j).ownBlock = some b → lab b = .fld j i
theorem Tr.keep {w w' : World} {base : Nat} {lab : Nat → Own} {v : Value} {X : List Nx} (h : Tr w base lab v X) (hb : ∀ k, base ≤ k → k < w.heap.size → w'.heap[k]? = w.heap[k]?) : Tr w' base lab v X :=
  ⟨h.row.keep fun k hk => hb k (h.row.lt k hk).1 (h.row.lt k hk).2, h.l, fun i x hx j hj => ⟨(h.e i x hx j hj).1.keep fun k hk => hb k ((h.e i x hx j hj).1.lt k hk).1 ((h.e i x hx j hj).1.lt k hk).2, (h.e i x hx j hj).2⟩⟩
theorem Tr.below {w w' : World} {base B : Nat} {lab : Nat → Own} {v : Value} {X : List Nx} (h : Tr w base lab v X) (hb : Below B w w') (hB : w.heap.size ≤ B) : Tr w' base lab v X := h.keep fun k _ hk => hb.block k (by omega)
theorem Tr.clip {w : World} {base : Nat} {lab : Nat → Own} {v : Value} {X : List Nx} (h : Tr w base lab v X) : Tr w base lab (clipV v) X := ⟨h.row.clip, fun b hb => h.l b (by rw [← clip_block]; exact hb), h.e⟩
theorem NT.tr {w : World} {base : Nat} {lab : Nat → Own} {op : Nat → Prop} {v : Value} {X : List Nx} (h : NT w base lab op v X) : Tr w base lab v X := ⟨Rr.of_own h.row, h.l, fun i x hx j hj => ⟨(h.e i x hx j hj).r, (h.e i x hx j hj).l⟩⟩
/-- A document's nodes, or its first fault. -/
def parseR (l : Bs) : NR := if U8.chkOk l = true then docP (envL l (0, 0)) (Jk.tks l 0).2 (Jk.tks l 0).1 else .bad 2 (U8.scn l)
/-- What Parse leaves. -/
def ParseL (w : World) (l : Bs) (e : Ending) (w' : World) : Prop :=
  Below w.heap.size w w' ∧ match parseR l with
  | .bad c a => e = .returned (.tuple #[.agg #[.slice none 0 0, .int .i64 0], .agg #[.int .i64 (c : Nat), .int .i64 (a : Nat)]])
  | .ok nd => ∃ A n lab X, e = .returned (.tuple #[.agg #[.slice A n n, .int .i64 0], .agg #[.int .i64 0, .int .i64 0]]) ∧ Tr w' w.heap.size lab (.slice A n n) X ∧ X.map Nx.nd = nd
/-- The tables that the code reads, in whatever world. -/
structure Tabs0 (w : World) : Prop where
  tab : De.Tab w
  heads : Heads w
  shorts : Shorts w
  z : 3 < w.heap.size
theorem Tabs0.below {w w' : World} (h : Tabs0 w) (hb : Below w.heap.size w w') : Tabs0 w' := by
  have := (show Tabs w.heap.size w from ⟨h.tab, h.heads, h.shorts, h.z, Nat.le_refl _⟩).below hb
  exact ⟨this.tab, this.heads, this.shorts, Nat.lt_of_lt_of_le h.z hb.size⟩
/-- A fault goes through the door. -/
theorem door_bad {w w9 : World} {l : Bs} {c a : Nat} {chain : List PanicEntry} {tmps : Array Value} (hb : Below (w.heap.size + 2) ((w.alloc (.cells #[.slice none 0 0, .int .i64 0] 27)).alloc (.cells #[.int .i64 0, .int .i64 0] 30)) w9)
    (hr : parseR l = .bad c a) (hc : chain = [{ v := FV (c : Nat) (a : Nat), recovered := false }]) (h2 : tmps[2]? = some (.pointer (some ⟨w.heap.size, 0, none⟩))) (h3 : tmps[3]? = some (.pointer (some ⟨w.heap.size + 1, 0, none⟩))) :
    Leaves Tryz.prog Tryz.f9 tmps (ParseL w l) [{ target := Target.fn (Fn.func 18) #[.pointer (some ⟨w.heap.size + 1, 0, none⟩)], args := #[] }] (.panicking chain) w9 := by
  obtain ⟨w2, hw2⟩ : ∃ w2, w2 = (w.alloc (.cells #[.slice none 0 0, .int .i64 0] 27)).alloc (.cells #[.int .i64 0, .int .i64 0] 30) := ⟨_, rfl⟩
  rw [← hw2] at hb
  have k := fun (b j : Nat) (hbz : b < w.heap.size + 2) => hb.cell (p := ⟨b, j, none⟩) hbz
  have kf := fun (b j : Nat) (hbz : b < w.heap.size + 2) => hb.frozen (p := ⟨b, j, none⟩) hbz
  have t0 : w9.cell? ⟨w.heap.size, 0, none⟩ = some (.slice none 0 0) := (k _ 0 (by omega)).trans (by rw [hw2]; simp [go_sem])
  have t1 : w9.cell? ⟨w.heap.size, 1, none⟩ = some (.int .i64 0) := (k _ 1 (by omega)).trans (by rw [hw2]; simp [go_sem])
  have f0 : w9.cell? ⟨w.heap.size + 1, 0, none⟩ = some (.int .i64 0) := (k _ 0 (by omega)).trans (by rw [hw2]; simp [go_sem])
  have f1 : w9.cell? ⟨w.heap.size + 1, 1, none⟩ = some (.int .i64 0) := (k _ 1 (by omega)).trans (by rw [hw2]; simp [go_sem])
  have z0 : w9.frozen? ⟨w.heap.size + 1, 0, none⟩ = false := (kf _ 0 (by omega)).trans (by rw [hw2]; simp [go_sem])
  have z1 : w9.frozen? ⟨w.heap.size + 1, 1, none⟩ = false := (kf _ 1 (by omega)).trans (by rw [hw2]; simp [go_sem])
  have hb2 : Below w.heap.size w w2 := by rw [hw2]; exact ((Below.refl _ _).alloc (Nat.le_refl _) _).alloc (by simp) _
  have hbw : Below w.heap.size w w9 := hb2.trans (hb.mono (by omega))
  clear hw2 k kf hb
  subst hc
  refine leaves_cons (f := 18) (args := #[.pointer (some ⟨w.heap.size + 1, 0, none⟩)]) (by simp) (by simp [go_sem]) ?_
  refine (catch_panicking (c : Nat) (a : Nat) [] _ f0 f1 z0 z1).mono ?_
  rintro e u' w'' ⟨rfl, rfl, rfl⟩
  refine ⟨.tuple #[.agg #[.slice none 0 0, .int .i64 0], .agg #[.int .i64 (c : Nat), .int .i64 (a : Nat)]], ?_, ?_⟩
  · simp [results, Tryz.results9, go_sem, h2, h3, t0, t1, f0, f1]
  · unfold ParseL
    rw [hr]
    exact ⟨(hbw.setCell (p := ⟨w.heap.size + 1, 0, none⟩) (by simp) _).setCell (p := ⟨w.heap.size + 1, 1, none⟩) (by simp) _, rfl⟩
set_option maxRecDepth 100000 in
set_option maxHeartbeats 8000000 in
theorem parse_any {l : List UInt8} {B N C : Nat} {A : Option Addr} {w : World} (hn : N = l.length) (hnc : N ≤ C) (hA : Byt w B A l) (hB : B ≤ w.heap.size) (hm : C ≤ maxLen) (hs : N ≤ 1000000) (hT : Tabs0 w) :
    Calls Tryz.prog 9 #[.slice A N C] w (ParseL w l) := by
  have hmf : ∀ (fn : Fn) (first cap : Array Value) (w : World), (Instr.makeFunc fn first cap).run Tryz.prog w = .ok (.func fn first cap) w := fun _ _ _ _ => rfl
  obtain ⟨w2, hw2⟩ : ∃ w2, w2 = (w.alloc (.cells #[.slice none 0 0, .int .i64 0] 27)).alloc (.cells #[.int .i64 0, .int .i64 0] 30) := ⟨_, rfl⟩
  have hb2 : Below w.heap.size w w2 := by rw [hw2]; exact ((Below.refl _ _).alloc (Nat.le_refl _) _).alloc (by simp) _
  have hz2 : w2.heap.size = w.heap.size + 2 := by rw [hw2]; simp
  have hr : parseR l = if U8.chkOk l = true then docP (envL l (0, 0)) (Jk.tks l 0).2 (Jk.tks l 0).1 else .bad 2 (U8.scn l) := rfl
  have HN := Lib.hid hn
  have HA := Lib.hid hA
  have HTB := Lib.hid hT
  have HC := Lib.hid (And.intro hnc hm)
  have HBB := Lib.hid hB
  have HB2 := Lib.hid hb2
  have HZ2 := Lib.hid hz2
  have HR := Lib.hid hr
  have hP2 : Below (w.heap.size + 2) w2 w2 := Below.refl _ _
  have hCs : ∀ {P : Nat} {wx : World}, Below w.heap.size w wx → P = w.heap.size + 2 → P ≤ wx.heap.size → Txt wx P A N C l ∧ Tabs P wx := fun {P wx} hb hP hPs => by
    have h1 := hT.below hb
    exact ⟨⟨(hA.below (hb.mono hB)).more (by omega), hn, hnc, hm, hs⟩, ⟨h1.tab, h1.heads, h1.shorts, by have := hT.z; omega, hPs⟩⟩
  by_cases hk : U8.chkOk l = true
  · have hR := Lib.hid (hr.trans (if_pos hk))
    have CC := Lib.hid (check_ok (l := l) (A := A) (B := w.heap.size) N C (w := w2) hn hnc ((hA.more hB).below hb2) hm hs hk)
    obtain ⟨W3, hW3⟩ : ∃ W3, W3 = w2.alloc (.cells #[.slice A N C, .int .u8 1, .slice none 0 0, .slice none 0 0] 61) := ⟨_, rfl⟩
    have hb3 : Below w2.heap.size w2 W3 := by rw [hW3]; exact (Below.refl _ _).alloc (Nat.le_refl _) _
    have hms : MS W3 w2.heap.size (.slice A N C) ⟨1, [], []⟩ := by
      refine ⟨fun _ => .no, fun _ => False, fun _ => 0, fun _ => [], .slice none 0 0, .slice none 0 0, [], ⟨?_, NT.start, World.ownsRow_nil _ _ _ _, fun b h => (by cases h), fun p h => (by cases h), fun a h => (by cases h)⟩, rfl, fun a h => (by cases h)⟩
      rw [hW3]; exact heap_alloc_new _ _
    have hbw3 := Jk.below_tr hb2 hb3
    obtain ⟨hT1, hT2⟩ := hCs hbw3 hz2 (by rw [hW3]; simp)
    have CD := Lib.hid (document_any (E := envL l (0, 0)) rfl hms hT1 hT2)
    obtain ⟨r, hrr⟩ : ∃ r, r = docP (envL l (0, 0)) (Jk.tks l 0).2 (Jk.tks l 0).1 := ⟨_, rfl⟩
    rw [← hrr] at CD hR
    rw [hz2] at CD
    have HB3 := Lib.hid hb3
    have HBW3 := Lib.hid hbw3
    have HP2 := Lib.hid hP2
    clear hn hnc hA hB hm hs hT hb2 hr hk hms hb3 hbw3 hT1 hT2 hCs hrr hP2
    go_enter_defers Tryz.func9, Tryz.ntmps9
    go_wp2_with fail
    rw [← hw2]
    refine CC.out.mono ?_
    rintro e wx ⟨rfl, hwx⟩
    rw [← hwx]
    clear hwx
    have HW2 := Lib.hid hw2
    clear hw2
    go_wp2_with fail
    rw [← hW3]
    refine CD.out.mono ?_
    rintro e w5 ⟨hb5, h5⟩
    have HB5 := Lib.hid (show Below (w.heap.size + 2) w2 w5 from by have h := HB3.out; rw [HZ2.out] at h; exact h.trans hb5)
    clear CC CD hW3 hb5
    cases r with
    | bad c a =>
      obtain rfl := h5
      rw [HW2.out] at HB5
      exact door_bad HB5.out hR.out rfl rfl rfl
    | ok nd =>
      obtain ⟨rfl, s, hs, lab, op, mb, ks, sv, nv, X, hM, hX, _⟩ := h5
      have HM := Lib.hid hM
      have HX := Lib.hid (hX.trans hs)
      obtain ⟨nA, nc, env, hnc, hnc6, hnn⟩ := (Rr.of_own hM.nt.row).shape
      subst env
      obtain ⟨xl, hxl⟩ : ∃ xl, xl = X.length := ⟨_, rfl⟩
      have HXL := Lib.hid hxl
      have CLP := Lib.hid (fun w => clip_node (A := nA) (N := xl) (c := nc) w (by rw [hxl]; exact hnc) hnc6 hnn)
      have k := fun (b j : Nat) (hbz : b < w.heap.size + 2) => HB5.out.cell (p := ⟨b, j, none⟩) hbz
      have kf := fun (b j : Nat) (hbz : b < w.heap.size + 2) => HB5.out.frozen (p := ⟨b, j, none⟩) hbz
      have t0 : w5.cell? ⟨w.heap.size, 0, none⟩ = some (.slice none 0 0) := (k _ 0 (by omega)).trans (by rw [HW2.out]; simp [go_sem])
      have t1 : w5.cell? ⟨w.heap.size, 1, none⟩ = some (.int .i64 0) := (k _ 1 (by omega)).trans (by rw [HW2.out]; simp [go_sem])
      have f0 : w5.cell? ⟨w.heap.size + 1, 0, none⟩ = some (.int .i64 0) := (k _ 0 (by omega)).trans (by rw [HW2.out]; simp [go_sem])
      have f1 : w5.cell? ⟨w.heap.size + 1, 1, none⟩ = some (.int .i64 0) := (k _ 1 (by omega)).trans (by rw [HW2.out]; simp [go_sem])
      have y0 : w5.frozen? ⟨w.heap.size, 0, none⟩ = false := (kf _ 0 (by omega)).trans (by rw [HW2.out]; simp [go_sem])
      have y1 : w5.frozen? ⟨w.heap.size, 1, none⟩ = false := (kf _ 1 (by omega)).trans (by rw [HW2.out]; simp [go_sem])
      have z0 : w5.frozen? ⟨w.heap.size + 1, 0, none⟩ = false := (kf _ 0 (by omega)).trans (by rw [HW2.out]; simp [go_sem])
      have z1 : w5.frozen? ⟨w.heap.size + 1, 1, none⟩ = false := (kf _ 1 (by omega)).trans (by rw [HW2.out]; simp [go_sem])
      have c3 := hM.po.cells.2.2.2
      rw [← hxl] at c3
      clear hM hX hs hxl hnc hnc6 hnn k kf
      go_wp2_with fail
      refine (CLP.out _).mono ?_
      rintro e w6 ⟨rfl, hw6⟩
      rw [← hw6]
      clear hw6
      go_wp2_with fail
      have hwb : Below w.heap.size w w5 := HB2.out.trans (HB5.out.mono (by omega))
      have HWB := Lib.hid hwb
      obtain ⟨w9, hw9⟩ : ∃ w9, w9 = (((w5.setCell ⟨w.heap.size, 0, none⟩ (.slice nA xl xl)).setCell ⟨w.heap.size, 1, none⟩ (.int .i64 0)).setCell ⟨w.heap.size + 1, 0, none⟩ (.int .i64 0)).setCell ⟨w.heap.size + 1, 1, none⟩ (.int .i64 0) := ⟨_, rfl⟩
      have r0 : w9.cell? ⟨w.heap.size, 0, none⟩ = some (.slice nA xl xl) := by rw [hw9]; simp [go_sem, t0]
      have r1 : w9.cell? ⟨w.heap.size, 1, none⟩ = some (.int .i64 0) := by rw [hw9]; simp [go_sem, t1]
      have r2 : w9.cell? ⟨w.heap.size + 1, 0, none⟩ = some (.int .i64 0) := by rw [hw9]; simp [go_sem, f0]
      have r3 : w9.cell? ⟨w.heap.size + 1, 1, none⟩ = some (.int .i64 0) := by rw [hw9]; simp [go_sem, f1]
      have hb9 : Below w.heap.size w w9 := by
        rw [hw9]
        exact (((hwb.setCell (p := ⟨w.heap.size, 0, none⟩) (Nat.le_refl _) _).setCell (p := ⟨w.heap.size, 1, none⟩) (Nat.le_refl _) _).setCell (p := ⟨w.heap.size + 1, 0, none⟩) (Nat.le_succ _) _).setCell (p := ⟨w.heap.size + 1, 1, none⟩) (Nat.le_succ _) _
      have hk9 : ∀ b, w.heap.size + 2 ≤ b → w9.heap[b]? = w5.heap[b]? := fun b hb => by
        rw [hw9, heap_setCell_other _ _ _ _ (show b ≠ w.heap.size + 1 by omega), heap_setCell_other _ _ _ _ (show b ≠ w.heap.size + 1 by omega), heap_setCell_other _ _ _ _ (show b ≠ w.heap.size by omega), heap_setCell_other _ _ _ _ (show b ≠ w.heap.size by omega)]
      rw [← hw9]
      refine leaves_cons (f := 18) (args := #[.pointer (some ⟨w.heap.size + 1, 0, none⟩)]) (by simp) (by simp [go_sem]) ?_
      refine (catch_idle ⟨w.heap.size + 1, 0, none⟩ _).mono ?_
      rintro e u' w'' ⟨rfl, rfl, rfl⟩
      refine ⟨.tuple #[.agg #[.slice nA xl xl, .int .i64 0], .agg #[.int .i64 0, .int .i64 0]], ?_, ?_⟩
      · simp [results, Tryz.results9, go_sem, r0, r1, r2, r3]
      · unfold ParseL
        rw [hR.out]
        refine ⟨hb9, nA, xl, lab, X, rfl, ?_, HX.out⟩
        have h1 := (HM.out.nt.tr.keep (fun k hk _ => hk9 k (by omega))).clip
        rw [← HXL.out] at h1
        exact ⟨⟨h1.row.1, by
          rcases h1.row.2 with h | ⟨g, cap, cur, e, hb, r⟩
          · exact .inl h
          · exact .inr ⟨g, cap, cur, e, by omega, r⟩⟩, h1.l, fun i x hx j hj => ⟨⟨(h1.e i x hx j hj).1.1, by
          rcases (h1.e i x hx j hj).1.2 with h | ⟨g, cap, cur, e, hb, r⟩
          · exact .inl h
          · exact .inr ⟨g, cap, cur, e, by omega, r⟩⟩, (h1.e i x hx j hj).2⟩⟩
  · have hR := Lib.hid (hr.trans (if_neg hk))
    have hcf : U8.chkOk l = false := by simpa using hk
    have hat : U8.chkAt l = ((U8.scn l : Nat) : Int) := by
      unfold U8.chkOk at hcf
      unfold U8.chkAt
      rw [if_neg (of_decide_eq_false hcf)]
    have CC := Lib.hid (check_bad (l := l) (A := A) (B := w.heap.size) N C (w := w2) hn hnc ((hA.more hB).below hb2) hm hs hcf)
    rw [hat] at CC
    have HP2 := Lib.hid hP2
    clear hn hnc hA hB hm hs hT hb2 hr hk hcf hat hCs hP2
    go_enter_defers Tryz.func9, Tryz.ntmps9
    go_wp2_with fail
    rw [← hw2]
    refine CC.out.mono ?_
    rintro e wx ⟨rfl, hwx⟩
    rw [← hwx]
    have hq := HP2.out
    rw [hw2] at hq ⊢
    exact door_bad hq hR.out rfl rfl rfl
end Jt
end Go.Proofs.YtdclhepjoifpiaaGreatDoor
