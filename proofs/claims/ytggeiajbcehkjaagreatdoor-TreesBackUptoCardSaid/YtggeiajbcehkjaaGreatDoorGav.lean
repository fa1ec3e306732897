/- The document's Read: all tokens, and the first fault. -/
import Derived.Test.YtggeiajbcehkjaaGreatDoorGab
import Derived.Test.YtggeiajbcehkjaaGreatDoorGau
import Derived.Deep.RegionWith
import Derived.Test.YtggeiajbcehkjaaGreatDoorGak
import Derived.Test.YtggeiajbcehkjaaGreatDoorGas
import Derived.Test.YtggeiajbcehkjaaGreatDoorGad
import Derived.Test.YtggeiajbcehkjaaGreatDoorHac
import Derived.Recover
namespace Go.Proofs.YtggeiajbcehkjaaGreatDoor
open Go.RowKit
namespace Jk

/-- What holds at each round's head. -/
structure RR (kd : IntKind) (ty : TypeId) (w : World) (l : List UInt8) (i : Nat) (v : Value) (ts : List Tok) (wr : World) : Prop where
  all : tks l 0 = (ts ++ (tks l i).1, (tks l i).2)
  few : ts.length ≤ i
  own : wr.ownsRow (w.heap.size + 1) ty 3 v ts.length (tkL kd ts)
  fb : FB w wr 0 0
section
variable {kd : IntKind} {ty : TypeId} {w wr : World} {l : List UInt8} {i : Nat} {v : Value} {ts : List Tok}
theorem RR.start (h : FB w wr 0 0) : RR kd ty w l 0 (.slice none 0 0) [] wr := ⟨by simp, Nat.le_refl _, World.ownsRow_nil _ _ _ _, h⟩
theorem RR.next (h : RR kd ty w l i v ts wr) {k m : Nat} (ht : TK (l.drop i) k m) {v2 : Value} {w1 W2' w3 : World} {o o2 : Obj} {c a : Int} {news : List Value} (hb : Below wr.heap.size wr w1) (hw : W2 w1 W2' o c a)
    (hn : news = tkC kd (k, i, i + m)) (h5 : w3.ownsRow (w.heap.size + 1) ty 3 v2 (ts.length + 1) (tkL kd ts ++ news)) (h6 : (W2'.alloc o2).grownBy w3 v.ownBlock) : RR kd ty w l (i + m) v2 (ts ++ [(k, i, i + m)]) w3 := by
  obtain ⟨h1, h2, h3, h4⟩ := h
  subst hn
  have hm := (tk_len ht).1
  rw [tks_tok ht] at h1
  refine ⟨by rw [h1]; simp, by rw [List.length_append, List.length_singleton]; omega, ?_, ((((h4.on hb).on hw.below).alloc o2).grown h6 fun g e => (h3.lt g e).1)⟩
  rw [tkL_app, List.length_append, List.length_singleton]
  simpa [tkL] using h5
theorem RR.done (h : RR kd ty w l i v ts wr) (hi : l.length ≤ i) : tks l 0 = (ts, none) := by rw [h.all, tks_end hi, List.append_nil]
theorem RR.stop (h : RR kd ty w l i v ts wr) (hi : i < l.length) {m : Nat} (hx : nx (l.drop i) = .bad m) : tks l 0 = (ts, some (i + m)) := by rw [h.all, tks_bad hi hx, List.append_nil]
end
section
variable {l : List UInt8} {A : Option Addr}
end
end Jk
end Go.Proofs.YtggeiajbcehkjaaGreatDoor
/- What landed: Read: all tokens, and the first fault. -/
namespace Go.Proofs.YtggeiajbcehkjaaGreatDoor
open Go.RowKit
namespace Jk

/-- A row of tokens to read: from its block's first cell on. -/
def TkR (w : World) (base : Nat) (kd : IntKind) (ty : TypeId) (A : Option Addr) (N : Nat) (ts : List Tok) : Prop :=
  N = ts.length ∧ (0 < N → ∃ (g : Nat) (cur : Array Value), A = some ⟨g, 0, none⟩ ∧ base ≤ g ∧ w.heap[g]? = some (.cells cur ty (0, 0)) ∧ N * 3 ≤ cur.size ∧ ∀ (j : Nat) (u : Value), (tkL kd ts)[j]? = some u → cur[j]? = some u)
section
variable {w w' : World} {base : Nat} {kd : IntKind} {ty : TypeId} {v : Value} {A : Option Addr} {N : Nat} {ts : List Tok}
theorem TkR.below (h : TkR w base kd ty A N ts) {B : Nat} (hb : Below B w w') (hB : w.heap.size ≤ B) : TkR w' base kd ty A N ts := ⟨h.1, fun h0 => by
  obtain ⟨g, cur, e, hbg, hg, r⟩ := h.2 h0
  exact ⟨g, cur, e, hbg, by rw [hb.block g (by have := lt_blk hg; omega)]; exact hg, r⟩⟩
theorem TkR.set (h : TkR w base kd ty A N ts) {p : Addr} {u : Value} (hp : p.block < base) : TkR (w.setCell p u) base kd ty A N ts := ⟨h.1, fun h0 => by
  obtain ⟨g, cur, e, hbg, hg, r⟩ := h.2 h0
  exact ⟨g, cur, e, hbg, by rw [heap_setCell_other w p g u (by omega)]; exact hg, r⟩⟩
theorem TkR.low (h : TkR w base kd ty A N ts) {b : Nat} (hb : b ≤ base) : TkR w b kd ty A N ts := ⟨h.1, fun h0 => by
  obtain ⟨g, cur, e, hbg, r⟩ := h.2 h0
  exact ⟨g, cur, e, by omega, r⟩⟩
theorem TkR.drew (h : TkR w base kd ty A N ts) : TkR w.drew base kd ty A N ts := h
/-- The cells of a token of it. -/
theorem TkR.at_ (h : TkR w base kd ty A N ts) (h0 : 0 < N) : ∃ g, A = some ⟨g, 0, none⟩ ∧ base ≤ g ∧ ∀ k t, ts[k]? = some t → w.cell? ⟨g, k * 3, none⟩ = some (.int kd (t.1 : Int)) ∧ w.cell? ⟨g, k * 3 + 1, none⟩ = some (.int .i64 (t.2.1 : Int)) ∧ w.cell? ⟨g, k * 3 + 2, none⟩ = some (.int .i64 (t.2.2 : Int)) := by
  obtain ⟨g, cur, e, hbg, hg, _, r⟩ := h.2 h0
  refine ⟨g, e, hbg, fun k t ht => ?_⟩
  obtain ⟨a, b, c⟩ := tkL_at kd ts k t ht
  refine ⟨?_, ?_, ?_⟩
  · rw [cell_of_row w g _ cur ty (0, 0) hg]; exact r _ _ a
  · rw [cell_of_row w g _ cur ty (0, 0) hg]; exact r _ _ b
  · rw [cell_of_row w g _ cur ty (0, 0) hg]; exact r _ _ c
end
section
variable {l : List UInt8} {A : Option Addr}
end
end Jk
end Go.Proofs.YtggeiajbcehkjaaGreatDoor
/- What landed: the texts of first bytes, as tests. -/
namespace Go.Proofs.YtggeiajbcehkjaaGreatDoor
open Go.RowKit
namespace Jk

theorem fp_of {L : List UInt8} {F : ByteArray} {p : Int → Bool} (hF : F.data.toList = L) (h : (p 0 == false && (List.range 256).all (fun n => decide ((decide (0 ≤ Lib.indexByte L (UInt8.ofNat n)) = p (n : Int)) ∧ -1 ≤ Lib.indexByte L (UInt8.ofNat n) ∧ Lib.indexByte L (UInt8.ofNat n) ≤ 1000))) = true) : FP F p := by
  rw [Bool.and_eq_true, beq_iff_eq] at h
  refine ⟨h.1, fun c h0 h1 => ?_⟩
  obtain ⟨n, rfl⟩ : ∃ n : Nat, c = n := ⟨c.toNat, by omega⟩
  obtain ⟨e1, e2, e3⟩ := of_decide_eq_true ((List.all_eq_true.1 h.2) n (List.mem_range.2 (by omega)))
  refine ⟨_, e1, e2, e3, fun w => ?_⟩
  refine (Tryz.strings_IndexByte F n w).mono ?_
  rintro e w' ⟨rfl, rfl⟩
  rw [hF]
  exact ⟨rfl, rfl⟩
theorem forms_ok : Forms where
  blanks := fp_of rfl (by decide +kernel)
  marks := fp_of rfl (by decide +kernel)
  letters := fp_of rfl (by decide +kernel)
  nums := fp_of rfl (by decide +kernel)
  digits := fp_of rfl (by decide +kernel)
  quote := fp_of rfl (by decide +kernel)
  minus := fp_of rfl (by decide +kernel)
  nought := fp_of rfl (by decide +kernel)
  point := fp_of rfl (by decide +kernel)
  exps := fp_of rfl (by decide +kernel)
  signs := fp_of rfl (by decide +kernel)
  escs := fp_of rfl (by decide +kernel)
  u := fp_of rfl (by decide +kernel)
  figs := fp_of rfl (by decide +kernel)
end Jk
end Go.Proofs.YtggeiajbcehkjaaGreatDoor
/- What landed: token, document. -/
namespace Go.Proofs.YtggeiajbcehkjaaGreatDoor
open Go.RowKit
namespace Jt
section
variable {w : World} {P : Nat} {sv nv : Value} {lab : Nat → Own} {op : Nat → Prop} {mb : Nat → Nat} {ks : Nat → List Bs} {X : List Nx} {l : List UInt8} {A : Option Addr} {N C : Nat} {en : Nat × Nat} {E : Env}
theorem Step.relab {bv : Value} {_lab' : Nat → Own} {r : SR} {e : Ending} {w1 w' : World} (hb : Below w.heap.size w w1) (hP : P ≤ w.heap.size) (h : Step w1 P bv lab r e w') : Step w P bv lab r e w' := by
  refine ⟨(hb.mono hP).trans h.1, ?_⟩
  cases r with
  | bad c a => exact h.2
  | ok s => exact ⟨h.2.1, (Fr.of hb).on hb.size (fun _ _ => rfl) h.2.2.1, h.2.2.2⟩
set_option maxRecDepth 100000 in
set_option maxHeartbeats 4000000 in
theorem token_any {s : St} {k f t nn : Nat} {ky : Int} (hky : ky = (k : Nat)) (hk4 : k ≤ 4) (he : E = envL l en) (h : PM w P (.slice A N C) s.wd s.sk lab op mb ks sv nv X) (hX : X.map Nx.nd = s.nd) (hK : ∀ a, (a, true) ∈ s.sk → ks a = keysAt s.nd a) (hw : Wf nn s) (hnn : nn ≤ 1000000) (hT : Txt w P A N C l) (hTb : Tabs P w) (hft : f < t) (ht : t ≤ N) :
    Calls Tryz.prog 100 #[.pointer (some ⟨P, 0, none⟩), .agg #[.int .u8 ky, .int .i64 (f : Nat), .int .i64 (t : Nat)]] w (Step w P (.slice A N C) lab (step E s (k, f, t))) := by
  obtain ⟨w1, hw1⟩ : ∃ w1, w1 = w.alloc (.cells #[.int .u8 ky, .int .i64 (f : Nat), .int .i64 (t : Nat)] 145) := ⟨_, rfl⟩
  have hb1 : Below w.heap.size w w1 := by rw [hw1]; exact (Below.refl _ _).alloc (Nat.le_refl _) _
  have hM := h.below hb1
  have hP := Nat.le_of_lt h.lt
  have hb1P := hb1.mono hP
  have HB := Lib.hid hb1
  have HP := Lib.hid hP
  obtain ⟨r, hr⟩ : ∃ r, r = Jt.step E s (k, f, t) := ⟨_, rfl⟩
  rw [← hr]
  have tail : ∀ {e : Ending} {w' : World} {R : Ending → World → Prop}, Step w1 P (.slice A N C) lab r e w' → (∀ s', r = .ok s' → e = .returned (.tuple #[]) → R e w') → (∀ c a, r = .bad c a → R e w') → R e w' := fun {e w' R} hs h1 h2 => by
    cases r with
    | bad c a => exact h2 c a rfl
    | ok s' => exact h1 s' rfl hs.2.1
  have k5 : k = 0 ∨ k = 1 ∨ k = 2 ∨ k = 3 ∨ k = 4 := by omega
  rcases k5 with rfl | rfl | rfl | rfl | rfl
  · have R := Lib.hid (hr.trans (show Jt.step E s (0, f, t) = .ok s by
      unfold Jt.step
      rw [if_neg (show ¬ (0 : Nat) = 2 by decide), if_neg (show ¬ (0 : Nat) = 3 by decide), if_neg (show ¬ (0 : Nat) = 4 by decide), if_neg (show ¬ (0 : Nat) = 1 by decide)]))
    have HH := Lib.hid hM
    have HX := Lib.hid hX
    have HK := Lib.hid hK
    obtain rfl : ky = 0 := hky
    clear hM h hX hK hw hT hTb tail hb1 hb1P hr he hft ht hP
    go_enter Tryz.func100, Tryz.ntmps100
    go_wp2_with fail
    rw [← hw1]
    refine bodyPost_end (results_none rfl _ _ _) rfl ?_
    exact Step.ok (HB.out.mono HP.out) R.out rfl HH.out HX.out HK.out (Fr.of HB.out)
  · have C := Lib.hid (mark_any (E := E) he hM hX hK hw hnn (hT.below hb1P) hft ht)
    rw [← hr] at C
    obtain rfl : ky = 1 := hky
    clear hM h hX hK hw hT hTb tail hb1 hb1P hr he hft ht hP
    go_enter Tryz.func100, Tryz.ntmps100
    go_wp2_with fail
    rw [← hw1]
    refine C.out.mono ?_
    rintro e w' hs
    have HS := Lib.hid (Step.relab (_lab' := lab) HB.out HP.out hs)
    cases r with
    | bad c a => obtain ⟨_, rfl⟩ := hs; exact ⟨rfl, HS.out⟩
    | ok s' =>
      obtain ⟨_, rfl, _⟩ := hs
      go_wp2_with fail
      refine bodyPost_end (results_none rfl _ _ _) rfl ?_
      exact HS.out
  · have C := Lib.hid (word_any (E := E) he hM hX hK hw hnn (hT.below hb1P) (hTb.below hb1P) hft ht)
    rw [← hr] at C
    obtain rfl : ky = 2 := hky
    clear hM h hX hK hw hT hTb tail hb1 hb1P hr he hft ht hP
    go_enter Tryz.func100, Tryz.ntmps100
    go_wp2_with fail
    rw [← hw1]
    refine C.out.mono ?_
    rintro e w' hs
    have HS := Lib.hid (Step.relab (_lab' := lab) HB.out HP.out hs)
    cases r with
    | bad c a => obtain ⟨_, rfl⟩ := hs; exact ⟨rfl, HS.out⟩
    | ok s' =>
      obtain ⟨_, rfl, _⟩ := hs
      go_wp2_with fail
      refine bodyPost_end (results_none rfl _ _ _) rfl ?_
      exact HS.out
  · have C := Lib.hid (number_any (E := E) he hM hX hK hw hnn (hT.below hb1P) (hTb.below hb1P) hft ht)
    rw [← hr] at C
    obtain rfl : ky = 3 := hky
    clear hM h hX hK hw hT hTb tail hb1 hb1P hr he hft ht hP
    go_enter Tryz.func100, Tryz.ntmps100
    go_wp2_with fail
    rw [← hw1]
    refine C.out.mono ?_
    rintro e w' hs
    have HS := Lib.hid (Step.relab (_lab' := lab) HB.out HP.out hs)
    cases r with
    | bad c a => obtain ⟨_, rfl⟩ := hs; exact ⟨rfl, HS.out⟩
    | ok s' =>
      obtain ⟨_, rfl, _⟩ := hs
      go_wp2_with fail
      refine bodyPost_end (results_none rfl _ _ _) rfl ?_
      exact HS.out
  · have C := Lib.hid (text_any (E := E) he hM hX hK hw hnn (hT.below hb1P) (hTb.below hb1P) hft ht)
    rw [← hr] at C
    obtain rfl : ky = 4 := hky
    clear hM h hX hK hw hT hTb tail hb1 hb1P hr he hft ht hP
    go_enter Tryz.func100, Tryz.ntmps100
    go_wp2_with fail
    rw [← hw1]
    refine C.out.mono ?_
    rintro e w' hs
    have HS := Lib.hid (Step.relab (_lab' := lab) HB.out HP.out hs)
    cases r with
    | bad c a => obtain ⟨_, rfl⟩ := hs; exact ⟨rfl, HS.out⟩
    | ok s' =>
      obtain ⟨_, rfl, _⟩ := hs
      go_wp2_with fail
      refine bodyPost_end (results_none rfl _ _ _) rfl ?_
      exact HS.out
theorem token_is {s : St} {k f t nn : Nat} {ky fy ty : Int} (hky : ky = (k : Nat)) (hfy : fy = (f : Nat)) (hty : ty = (t : Nat)) (hk4 : k ≤ 4) (he : E = envL l en) (h : PM w P (.slice A N C) s.wd s.sk lab op mb ks sv nv X) (hX : X.map Nx.nd = s.nd) (hK : ∀ a, (a, true) ∈ s.sk → ks a = keysAt s.nd a) (hw : Wf nn s) (hnn : nn ≤ 1000000) (hT : Txt w P A N C l) (hTb : Tabs P w) (hft : f < t) (ht : t ≤ N) {r : SR} (hr : r = step E s (k, f, t)) :
    Calls Tryz.prog 100 #[.pointer (some ⟨P, 0, none⟩), .agg #[.int .u8 ky, .int .i64 fy, .int .i64 ty]] w (Step w P (.slice A N C) lab r) := by
  subst hfy; subst hty; subst hr; exact token_any hky hk4 he h hX hK hw hnn hT hTb hft ht
theorem tk_kind {l : Bs} {k n : Nat} (h : Jk.TK l k n) : k ≤ 4 := by cases h <;> omega
/-- What the memory holds between two tokens. -/
def MS (w : World) (P : Nat) (bv : Value) (s : St) : Prop :=
  ∃ lab op mb ks sv nv X, PM w P bv s.wd s.sk lab op mb ks sv nv X ∧ X.map Nx.nd = s.nd ∧ ∀ a, (a, true) ∈ s.sk → ks a = keysAt s.nd a
theorem MS.below {bv : Value} {s : St} {w' : World} (h : MS w P bv s) (hb : Below w.heap.size w w') : MS w' P bv s := by
  obtain ⟨lab, op, mb, ks, sv, nv, X, h1, h2, h3⟩ := h
  exact ⟨lab, op, mb, ks, sv, nv, X, h1.below hb, h2, h3⟩
theorem MS.po {bv : Value} {s : St} (h : MS w P bv s) : ∃ sv nv, PO w P bv s.wd sv nv := by
  obtain ⟨lab, op, mb, ks, sv, nv, X, h1, h2, h3⟩ := h
  exact ⟨sv, nv, h1.po⟩
structure DRl (w0 : World) (P : Nat) (bv : Value) (E : Env) (i : Nat) (s : St) (wr : World) : Prop where
  run : run E ⟨1, [], []⟩ (Jk.tks E.l 0).1 = run E s (Jk.tks E.l i).1
  flt : (Jk.tks E.l 0).2 = (Jk.tks E.l i).2
  wf : Wf i s
  ms : MS wr P bv s
  bel : Below P w0 wr
  low : P < wr.heap.size
/-- What document leaves. -/
def DocL (w : World) (P : Nat) (bv : Value) (r : NR) (e : Ending) (w' : World) : Prop :=
  Below P w w' ∧ match r with
  | .bad c a => e = .panicked [{ v := FV (c : Nat) (a : Nat), recovered := false }]
  | .ok nd => e = .returned (.tuple #[]) ∧ ∃ s, s.nd = nd ∧ MS w' P bv s
theorem DocL.bad {bv : Value} {w' : World} {r : NR} {c a : Nat} {e : Ending} (hb : Below P w w') (hr : r = .bad c a) (he : e = .panicked [{ v := FV (c : Nat) (a : Nat), recovered := false }]) : DocL w P bv r e w' := by subst hr; exact ⟨hb, he⟩
theorem DocL.ok {bv : Value} {w' : World} {r : NR} {s : St} {e : Ending} (hb : Below P w w') (hr : r = .ok s.nd) (he : e = .returned (.tuple #[])) (h : MS w' P bv s) : DocL w P bv r e w' := by subst hr; exact ⟨hb, he, s, rfl, h⟩
set_option maxRecDepth 100000 in
set_option maxHeartbeats 8000000 in
theorem document_any (he : E = envL l en) (hM : MS w P (.slice A N C) ⟨1, [], []⟩) (hT : Txt w P A N C l) (hTb : Tabs P w) :
    Calls Tryz.prog 75 #[.pointer (some ⟨P, 0, none⟩)] w (DocL w P (.slice A N C) (docP E (Jk.tks l 0).2 (Jk.tks l 0).1)) := by
  have hel : E.l = l := by rw [he]; rfl
  obtain ⟨sv0, nv0, hpo⟩ := hM.po
  have D0 := Lib.hid (show DRl w P (.slice A N C) E 0 ⟨1, [], []⟩ w from ⟨rfl, rfl, Wf.start, hM, Below.refl _ _, hpo.lt⟩)
  obtain ⟨r, hr⟩ : ∃ r, r = docP E (Jk.tks l 0).2 (Jk.tks l 0).1 := ⟨_, rfl⟩
  rw [← hr]
  have HR := Lib.hid hr
  have HT := Lib.hid hT
  have HTB := Lib.hid hTb
  have HE := Lib.hid he
  have HEL := Lib.hid hel
  have HP := Lib.hid hpo.lt
  have hfew := hT.few
  have hc6 := hT.c6
  unfold maxLen at hc6
  clear hM hT hTb hr he hel hpo
  go_enter Tryz.func75, Tryz.ntmps75
  go_wp2_with fail
  go_loopw [2, 3, 4] (fun v _ _ wr => ∃ (i : Nat) (s : St), i ≤ N ∧ v = .int .i64 i ∧ Hid (DRl w P (.slice A N C) E i s wr)) (fun v _ _ _ => N - (intOf v).toNat)
  case atStart => exact ⟨0, _, Nat.zero_le _, rfl, D0⟩
  case round =>
    obtain ⟨i, s, hiN, rfl, HD⟩ := hrel
    clear D0
    obtain ⟨sv, nv, hpo⟩ := HD.out.ms.po
    have c0 := hpo.cells.1
    have c1 := hpo.cells.2.1
    by_cases hlt : i < N
    · have hli : i < l.length := by have := HT.out.n; omega
      have HLI := Lib.hid hli
      have CX := Lib.hid (Jk.lnext_in (l := l) (A := A) (B := P) N C i (x := i) wr Jk.forms_ok HT.out.n HT.out.c HT.out.c6 (HT.out.byt.below HD.out.bel) (Nat.le_of_lt hpo.lt) hfew rfl hli)
      obtain ⟨q, HQ⟩ : ∃ q, Hid (q = Jk.nx (l.drop i)) := ⟨_, rfl⟩
      rw [← HQ.out] at CX
      clear hpo hli c1
      go_wp2_with fail
      refine CX.out.mono ?_
      rintro e w1 ⟨rfl, hb1⟩
      have HB1 := Lib.hid hb1
      have HD1 := Lib.hid (HD.out.ms.below hb1)
      have HBP := Lib.hid (HD.out.bel.trans (hb1.mono (Nat.le_of_lt HD.out.low)))
      have HLW := Lib.hid (Nat.lt_of_lt_of_le HD.out.low hb1.size)
      clear hb1 CX c0
      cases q with
      | bad m =>
        have R := Lib.hid (HR.out.trans (show docP E (Jk.tks l 0).2 (Jk.tks l 0).1 = .bad 3 (i + m) by
          have h1 := HD.out.run
          have h2 := HD.out.flt
          rw [HEL.out, Jk.tks_bad HLI.out HQ.out.symm] at h1 h2
          unfold docP
          rw [h1, h2]
          rfl))
        simp only [Jk.lnA]
        go_upto_region 3 with fail
        go_wp2_with fail
        refine (fail_any _ _ _).mono ?_
        rintro e w2 ⟨rfl, rfl⟩
        exact ⟨rfl, DocL.bad ((HBP.out.alloc (Nat.le_of_lt HLW.out) _).alloc (by have := HLW.out; simp; omega) _) R.out (by rw [Int.natCast_add]; rfl)⟩
      | tok k m =>
        have hTK := Jk.tk_of HQ.out.symm
        have htl := Jk.tk_len hTK
        have htk := Jk.tks_tok hTK
        rw [List.length_drop] at htl
        have hk4 := tk_kind hTK
        simp only [Jk.lnA]
        obtain ⟨lab, op, mb, ks, sv, nv, X, hM, hX, hK⟩ := HD.out.ms
        obtain ⟨W2, hW2⟩ : ∃ W2, W2 = (w1.alloc (.cells #[.int .u8 (k : Nat), .int .i64 (i : Nat), .int .i64 ((i : Int) + m)] 145)).alloc (.cells #[.int .i64 0, .int .i64 0] 63) := ⟨_, rfl⟩
        have hbW : Below w1.heap.size w1 W2 := by rw [hW2]; exact ((Below.refl _ _).alloc (Nat.le_refl _) _).alloc (by simp) _
        have hzW : w1.heap.size < W2.heap.size := by rw [hW2]; simp; omega
        have hPW := Nat.le_of_lt HLW.out
        have hM2 := (hM.relabel (lab' := fun b => if b = w1.heap.size then .no else lab b) (fun b hb => if_neg (by have := HB1.out.size; omega))).below (Jk.below_tr HB1.out hbW)
        have hbP := HBP.out.trans (hbW.mono hPW)
        obtain ⟨r', hr'⟩ : ∃ r', r' = Jt.step E s (k, i, i + m) := ⟨_, rfl⟩
        have CC := Lib.hid (token_is (ky := (k : Nat)) (k := k) (f := i) (t := i + m) (fy := (i : Nat)) (ty := (i : Int) + m) rfl rfl (by rw [Int.natCast_add]) hk4 HE.out hM2 hX hK HD.out.wf (by omega) (HT.out.below hbP) (HTB.out.below hbP) (by omega) (by have := HT.out.n; omega) hr')
        have tc : W2.cell? ⟨w1.heap.size, 2, none⟩ = some (.int .i64 ((i : Int) + m)) := by rw [hW2]; simp [go_sem]
        have HTC := Lib.hid tc
        have HBW := Lib.hid hbP
        have HTKS := Lib.hid htk
        have HRR := Lib.hid hr'
        have HWF2 := Lib.hid (fun s' (e : Jt.step E s (k, i, i + m) = .ok s') => (HD.out.wf.step e).more (show i + 1 ≤ i + m by omega))
        have hmN : i + m ≤ N := by have := HT.out.n; omega
        have hm0 : 0 < m := htl.1
        clear hTK htl htk hk4 hM hX hK hM2 hbP hr' tc hbW
        go_wp2_with fail
        rw [← hW2]
        clear hW2
        refine CC.out.mono ?_
        rintro e w3 hs
        cases r' with
        | bad c a =>
          obtain ⟨hb3, rfl⟩ := hs
          have R := HR.out.trans (show docP E (Jk.tks l 0).2 (Jk.tks l 0).1 = .bad c a by
            have h1 := HD.out.run
            rw [HEL.out, HTKS.out] at h1
            unfold docP
            rw [h1, run_bad HRR.out.symm])
          exact ⟨rfl, DocL.bad (HBW.out.trans hb3) R rfl⟩
        | ok s' =>
          obtain ⟨hb3, rfl, hf3, hms⟩ := hs
          have c2 : w3.cell? ⟨w1.heap.size, 2, none⟩ = some (.int .i64 ((i : Int) + m)) :=
            (World.cell?_of_block (a := ⟨w1.heap.size, 2, none⟩) (hf3 w1.heap.size hzW (by have := HLW.out; omega) (if_pos rfl))).trans HTC.out
          have N1 := Lib.hid (show DRl w P (.slice A N C) E (i + m) s' w3 from ⟨by
              have h1 := HD.out.run
              rw [HEL.out, HTKS.out] at h1
              rw [HEL.out, h1, run_cons HRR.out.symm], by
              have h2 := HD.out.flt
              rw [HEL.out, HTKS.out] at h2
              rw [HEL.out, h2], HWF2.out s' HRR.out.symm, hms, HBW.out.trans hb3, Nat.lt_of_lt_of_le HLW.out (Nat.le_trans (Nat.le_of_lt hzW) hb3.size)⟩)
          clear hb3 hf3 hms CC
          go_wp2_with fail
          go_roundw
          case rel => exact ⟨i + m, s', hmN, by go_num, N1⟩
          case measure => simp [intOf]; omega
    · obtain rfl : i = N := by omega
      have htk := Jk.tks_end (l := l) (i := i) (by have := HT.out.n; omega)
      have hdoc : docP E (Jk.tks l 0).2 (Jk.tks l 0).1 = if s.wd = 0 then .ok s.nd else .bad 3 l.length := by
        have h1 := HD.out.run
        have h2 := HD.out.flt
        rw [HEL.out, htk] at h1 h2
        unfold docP
        rw [h1, h2, HEL.out]
        rfl
      have HDOC := Lib.hid (HR.out.trans hdoc)
      have HNN := Lib.hid HT.out.n
      have hwd := HD.out.wf.wd
      clear htk hdoc hpo
      by_cases h0 : s.wd = 0
      · have R := Lib.hid (HDOC.out.trans (if_pos h0))
        rw [h0] at c1
        clear h0 hwd
        go_wp2_with fail
        refine bodyPost_end (results_none rfl _ _ _) rfl ?_
        exact DocL.ok HD.out.bel R.out rfl HD.out.ms
      · have R := Lib.hid (HDOC.out.trans (if_neg h0))
        obtain ⟨z, hz⟩ : ∃ z : Int, z = (s.wd : Nat) := ⟨_, rfl⟩
        have hz0 : (z != 0) = true := by rw [hz]; simp; omega
        rw [← hz] at c1
        clear h0 hwd hz
        go_wp2_with fail
        refine (fail_any _ _ _).mono ?_
        rintro e w2 ⟨rfl, rfl⟩
        exact ⟨rfl, DocL.bad HD.out.bel R.out (by rw [← HNN.out]; rfl)⟩
end
end Jt
end Go.Proofs.YtggeiajbcehkjaaGreatDoor
/- What landed: check; what the face does with a fault. -/
namespace Go.Proofs.YtggeiajbcehkjaaGreatDoor
open Go.RowKit
namespace Jt
theorem ta_fault (c a : Int) (w : World) : (Instr.typeAssert (.iface 63 (.agg #[.int .i64 c, .int .i64 a])) 20 63 false).run Tryz.prog w = .ok (.agg #[.int .i64 c, .int .i64 a]) w := by kernel_rfl
theorem catch_panicking {p : Nat} {c0 a0 : Value} (c a : Int) (older : List PanicEntry) (w : World) (h0 : w.cell? ⟨p, 0, none⟩ = some c0) (h1 : w.cell? ⟨p, 1, none⟩ = some a0) (f0 : w.frozen? ⟨p, 0, none⟩ = false) (f1 : w.frozen? ⟨p, 1, none⟩ = false) :
    CallsD Tryz.prog 73 #[.pointer (some ⟨p, 0, none⟩)] (.panicking ({ v := FV c a, recovered := false } :: older)) w fun e u' w' =>
      e = .returned (.tuple #[]) ∧ u' = .panicking ({ v := FV c a, recovered := true } :: older) ∧ w' = (w.setCell ⟨p, 0, none⟩ (.int .i64 c)).setCell ⟨p, 1, none⟩ (.int .i64 a) := by
  have td := ta_fault c a
  refine callsD_of_wpS Tryz.func73 rfl fun k0 cs hu => ?_
  apply wpS_seq
  apply wpS_region
  simp [wpOpsS, go_sem, recoverD, hu, Tryz.ntmps73, Exit.thenS]
  refine wpS_of_wp ?_
  change Code.wp _ _ _ { tmps := #[.pointer (some ⟨p, 0, none⟩), .iface 63 (.agg #[.int .i64 c, .int .i64 a]), .iface 63 (.agg #[.int .i64 c, .int .i64 a]), undef, undef, undef, undef], defers := [] } _
  go_wp2_with fail
  exact ⟨rfl, _, rfl, _, results_none rfl _ _ _, rfl, rfl, rfl⟩
theorem catch_idle (p : Addr) (w : World) :
    CallsD Tryz.prog 73 #[.pointer (some p)] .returning w fun e u' w' => e = .returned (.tuple #[]) ∧ u' = .returning ∧ w' = w := by
  refine callsD_of_wpS Tryz.func73 rfl fun k0 cs hu => ?_
  apply wpS_seq
  apply wpS_region
  simp [wpOpsS, go_sem, recoverD, hu, Tryz.ntmps73, Exit.thenS]
  refine wpS_of_wp ?_
  change Code.wp _ _ _ { tmps := #[.pointer (some p), .nilIface, .nilIface, undef, undef, undef, undef], defers := [] } _
  go_wp2_with fail
  exact ⟨rfl, .returning, by rw [← hu], _, results_none rfl _ _ _, rfl, rfl, rfl⟩
theorem check_ok {l : List UInt8} {B : Nat} {A : Option Addr} (n c : Nat) {w : World} (hn : n = l.length) (hnc : n ≤ c) (hA : Byt w B A l) (hm : c ≤ maxLen) (hs : n ≤ 1000000) (hk : U8.chkOk l = true) :
    Calls Tryz.prog 74 #[.slice A n c] w fun e w' => e = .returned (.tuple #[]) ∧ w = w' := by
  have C := Lib.hid (U8.check_any n c hn hnc hA hm)
  rw [hk] at C
  clear hn hA hnc hm hk
  go_enter Tryz.func74, Tryz.ntmps74
  go_wp2_with fail
  refine C.out.mono ?_
  rintro e w' ⟨rfl, rfl⟩
  go_wp2_with fail
  refine bodyPost_end (results_none rfl _ _ _) rfl ?_
  exact ⟨rfl, rfl⟩
theorem check_bad {l : List UInt8} {B : Nat} {A : Option Addr} (n c : Nat) {w : World} (hn : n = l.length) (hnc : n ≤ c) (hA : Byt w B A l) (hm : c ≤ maxLen) (hs : n ≤ 1000000) (hk : U8.chkOk l = false) :
    Calls Tryz.prog 74 #[.slice A n c] w fun e w' => e = .panicked [{ v := FV 2 (U8.chkAt l), recovered := false }] ∧ w = w' := by
  have C := Lib.hid (U8.check_any n c hn hnc hA hm)
  rw [hk] at C
  clear hn hA hnc hm hk
  go_enter Tryz.func74, Tryz.ntmps74
  go_wp2_with fail
  refine C.out.mono ?_
  rintro e w' ⟨rfl, rfl⟩
  go_wp2_with fail
  refine (fail_any _ _ _).mono ?_
  rintro e w' ⟨rfl, rfl⟩
  exact ⟨rfl, rfl, rfl⟩
end Jt
end Go.Proofs.YtggeiajbcehkjaaGreatDoor
