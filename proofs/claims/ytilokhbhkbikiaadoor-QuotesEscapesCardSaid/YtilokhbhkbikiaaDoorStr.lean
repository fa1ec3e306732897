/- The reader's stretch of plain bytes. -/
import Derived.Test.YtilokhbhkbikiaaDoorTk
import Derived.Test.YtilokhbhkbikiaaDoorSml
import Derived.LoopTactic
import Derived.Outline
import Derived.Deep.LoopGhost
import Derived.Deep.RegionWith
namespace Go.Proofs.YtilokhbhkbikiaaDoor
open Go.RowKit

/-- Where the plain bytes from k on end. -/
def prn (l : List UInt8) (k : Nat) : Nat := if k < l.length ∧ plnI (bt l k) = true then prn l (k + 1) else k
termination_by l.length - k
theorem prn_on {l : List UInt8} {k : Nat} (h1 : k < l.length) (h2 : plnI (bt l k) = true) : prn l k = prn l (k + 1) := by rw [prn, if_pos ⟨h1, h2⟩]
theorem prn_end {l : List UInt8} {k : Nat} (h : ¬ (k < l.length ∧ plnI (bt l k) = true)) : prn l k = k := by rw [prn, if_neg h]
theorem prn_ge (l : List UInt8) (k : Nat) : k ≤ prn l k := by
  rw [prn]; split
  · have := prn_ge l (k + 1); omega
  · exact Nat.le_refl _
termination_by l.length - k
theorem plain_is {c : Int} {x : Bool} (hx : x = plnI c) (w : World) : Calls Tryd.prog 31 #[.int .u8 c] w fun e w' => e = .returned (.bool x) ∧ w = w' := hx ▸ plain_any c w
theorem strCells_txt (l : List UInt8) : Lib.strCells (txt l) = bytV l := by
  simp [Lib.strCells, bytV, txt]

/-- append of a text within a region that draws. -/
theorem step_str {P : Program} {w : World} {ops : Array Oper} {o : Oper} {a : Act} {K : Act → World → Prop} {Q : Exit → Act → World → Prop} {E : Prop} (hgd : o.guard = none) (sl x : Operand) (t u : TypeId)
    (ho : o.op = .call { callee := .builtin .append, args := #[sl, x], argTypes := #[t, u] })
    (base : Nat) (e : TypeId) (i : TypeInfo) (ht : P.underlying t = some (.slice e)) (hu : P.underlying u = some .string) (hi : P.info? e = some i) (hz : i.zero = some (.int .u8 0)) (hsize : i.size = 1) (hby : i.bytes = 1)
    (v : Value) (n : Nat) (xs : List Value) (hs : a.eval sl = v) (hown : w.ownsRow base e 1 v n xs) (s : ByteArray) (hx : a.eval x = .string s)
    (h63 : n + s.size ≤ maxLen) (hbytes : n + s.size ≤ 140737488355328) (hbase : base ≤ w.heap.size)
    (h : ∀ v' w', w'.ownsRow base e 1 v' (n + s.size) (xs ++ Lib.strCells s) → w.grownBy w' v.ownBlock → K (a.put o.dst v') w') :
    if Region.wanted o (yielded ops a.tmps) = true then Oper.wp P o a w K Q else E := by
  have hw : Region.wanted o (yielded ops a.tmps) = true := by simp [Region.wanted, hgd]
  rw [if_pos hw]
  obtain ⟨v', w', hr, h2, h3, _⟩ := Lib.run_append_own_string (P := P) w base t u o.type e i ht hu hi hz hsize hby v n xs hown s h63 hbytes hbase
  unfold Oper.wp
  simp [execOp, ho, resolve, invoke, builtin, hs, hx, hr, Result.andThen]
  exact h v' w' h2 h3
/-- Where the reader stands. -/
def posOf (b : Nat) (w : World) : Nat := match w.cell? ⟨b, 1, none⟩ with | some v => (intOf v).toNat | none => 0
theorem RS.posOf {W w : World} {b : Nat} {s : ByteArray} {p : Nat} {t : List UInt8} (h : RS W b s w p t) : posOf b w = p := by
  obtain ⟨_, _, v, h3, _⟩ := h
  obtain ⟨_, c1, _⟩ := rd_cells h3
  simp [Proofs.YtilokhbhkbikiaaDoor.posOf, c1, intOf]
section
variable {W w : World} {b : Nat} {s : ByteArray} {p : Nat} {t l : List UInt8}
set_option maxHeartbeats 1000000 in
theorem stretch_any (h : RS W b s w p t) (hs : s = txt l) (hl : l.length ≤ 1000000) (hp : p ≤ l.length) (ht : t.length ≤ 4 * p) :
    Calls Tryd.prog 27 #[.pointer (some ⟨b, 0, none⟩)] w fun e w' => e = .returned (.bool (decide (p < prn l p))) ∧ RS W b s w' (prn l p) (t ++ (l.take (prn l p)).drop p) := by
  obtain ⟨i0, hi, hz0, hz1, hz2⟩ := info_parts (show (Tryd.prog.info? 5).map (fun i => (i.zero, i.size, i.bytes)) = some (some (.int .u8 0), 1, 1) by kernel_rfl)
  have R0 := h
  have HS := Lib.hid hs
  have HL := Lib.hid hl
  have HP := Lib.hid hp
  have HT := Lib.hid ht
  obtain ⟨_, _, v0, h30, _⟩ := h
  obtain ⟨_, c10, _, _⟩ := rd_cells h30
  clear hs hl hp ht h30
  go_enter Tryd.func27, Tryd.ntmps27
  go_wp2_with fail
  clear c10
  go_loopw [] (fun wr => ∃ k : Nat, p ≤ k ∧ k ≤ l.length ∧ prn l p = prn l k ∧ RS W b s wr k t) (fun wr => s.size - posOf b wr)
  case atStart => exact ⟨p, Nat.le_refl _, HP.out, rfl, R0⟩
  case round =>
    obtain ⟨k, hpk, hk, hkr, R⟩ := hrel
    clear R0
    have HR := Lib.hid R
    have HK := Lib.hid hkr
    have hsz : s.size = l.length := by rw [HS.out, txt_size]
    obtain ⟨r1, r2, v, h3, h4⟩ := R
    obtain ⟨c0, c1, c2, cf⟩ := rd_cells h3
    have f1 := cf 1
    have hm : s.size ≤ 1000000 := by have := HL.out; omega
    have HK2 := Lib.hid hk
    have HB := Lib.hid hpk
    have H3 := Lib.hid h3
    have H4 := Lib.hid h4
    have H1 := Lib.hid r1
    clear hkr h3 cf hk h4 r1
    by_cases hq : k < l.length
    · have hx := txt_at HS.out (k := k)
      have hz : k < s.size := by omega
      obtain ⟨y, HY⟩ : ∃ y, Hid (y = bt l k) := ⟨_, rfl⟩
      rw [← HY.out] at hx
      obtain ⟨x, HX⟩ : ∃ x, Hid (x = plnI y) := ⟨_, rfl⟩
      cases x
      · have E := Lib.hid (prn_end (l := l) (k := k) (by rw [← HY.out, ← HX.out]; simp))
        clear hq hpk hsz
        go_wp2_with fail
        go_quiet (first | (go_at_call 31; refine (plain_is HX.out _).mono ?_; rintro _ _ ⟨rfl, rfl⟩; exact ⟨rfl, _, rfl⟩))
        go_wp2_with fail
        have R2 := HR.out.drewN nq
        obtain ⟨w2, HW2⟩ : ∃ w2, w2 = wr.drewN nq := ⟨_, rfl⟩
        rw [← HW2] at R2 ⊢
        clear HW2 c0 c1 c2 f1 H3 H4 H1 r2
        have HK3 := Lib.hid (show prn l p = k by rw [HK.out, E.out])
        have HU := Lib.hid (show s.extract p k = txt ((l.take k).drop p) by rw [HS.out, txt_cut])
        have hul : ((l.take k).drop p).length ≤ 1000000 := by simp; have := HL.out; omega
        have hbb : (p : Int) ≤ k := by have := HB.out; omega
        have htl : t.length ≤ 4000000 := by have := HT.out; have := HP.out; have := HL.out; omega
        have hks : (k : Int) ≤ s.size := by have := HK2.out; have := HS.out; rw [this, txt_size]; omega
        have hb1 : W.heap.size ≤ w2.heap.size := R2.1.size
        obtain ⟨r1, r2, v, h3, h4⟩ := R2
        obtain ⟨c0, c1, c2, cf⟩ := rd_cells h3
        have f2 := cf 2
        have H3 := Lib.hid h3
        have H4 := Lib.hid h4
        have H1 := Lib.hid r1
        have H2 := Lib.hid r2
        clear h3 h4 r1 r2 cf E
        go_region_law (first | (refine step_str (w := w2.drew) rfl (.tmp 41) (.tmp 51) 34 9 rfl W.heap.size 5 i0 Tryd.underlying34 Tryd.underlying9 hi hz0 hz1 hz2 v t.length (bytV t) rfl H4.out.drew (s.extract p k) rfl (by rw [HU.out, txt_size]; unfold maxLen; omega) (by rw [HU.out, txt_size]; omega) hb1 ?_; intro v' w3 hown3 hg3; rw [HU.out, strCells_txt, txt_size] at hown3; obtain ⟨⟨A', n', cp', rfl⟩, h5, R3⟩ := RS.text (w := w2) (p := k) H1.out H2.out H3.out H4.out hown3 (gDrew hg3); obtain ⟨c0', c1', c2', cf'⟩ := rd_cells h5; have f2' := cf' 2; clear cf' h5 hown3 hg3))
        all_goals (have HR3 := Lib.hid R3; obtain ⟨_, _, v9, h9, _⟩ := R3; obtain ⟨_, d1, _, _⟩ := rd_cells h9; clear h9)
        all_goals go_wp2_with fail
        all_goals go_ret
        all_goals exact ⟨by rw [HK3.out]; rfl, by rw [HK3.out]; exact HR3.out⟩
      · have E := Lib.hid (prn_on (l := l) (k := k) hq (by rw [← HY.out, ← HX.out]))
        have hq1 : k + 1 ≤ l.length := hq
        clear hq hpk hsz
        go_wp2_with fail
        go_quiet (first | (go_at_call 31; refine (plain_is HX.out _).mono ?_; rintro _ _ ⟨rfl, rfl⟩; exact ⟨rfl, _, rfl⟩))
        go_wp2_with fail
        go_roundw
        case rel =>
          refine ⟨k + 1, by have := HB.out; omega, hq1, by rw [HK.out, E.out], ?_⟩
          have := (HR.out.drewN nq).pos ((k + 1 : Nat) : Int)
          simpa using this
        case measure =>
          have := (HR.out.drewN nq).pos ((k + 1 : Nat) : Int)
          rw [HR.out.posOf]
          have := RS.posOf this
          simp at this
          rw [this]; omega
    · have E := Lib.hid (prn_end (l := l) (k := k) (by simp [hq]))
      have g1 : decide (k < s.size) = false := decide_eq_false (by omega)
      clear hq hpk hsz
      go_wp2_with fail
      go_quiet (fail)
      go_wp2_with fail
      have R2 := HR.out.drewN nq
      obtain ⟨w2, HW2⟩ : ∃ w2, w2 = wr.drewN nq := ⟨_, rfl⟩
      rw [← HW2] at R2 ⊢
      clear HW2 c0 c1 c2 f1 H3 H4 H1 r2
      have HK3 := Lib.hid (show prn l p = k by rw [HK.out, E.out])
      have HU := Lib.hid (show s.extract p k = txt ((l.take k).drop p) by rw [HS.out, txt_cut])
      have hul : ((l.take k).drop p).length ≤ 1000000 := by simp; have := HL.out; omega
      have hbb : (p : Int) ≤ k := by have := HB.out; omega
      have htl : t.length ≤ 4000000 := by have := HT.out; have := HP.out; have := HL.out; omega
      have hks : (k : Int) ≤ s.size := by have := HK2.out; have := HS.out; rw [this, txt_size]; omega
      have hb1 : W.heap.size ≤ w2.heap.size := R2.1.size
      obtain ⟨r1, r2, v, h3, h4⟩ := R2
      obtain ⟨c0, c1, c2, cf⟩ := rd_cells h3
      have f2 := cf 2
      have H3 := Lib.hid h3
      have H4 := Lib.hid h4
      have H1 := Lib.hid r1
      have H2 := Lib.hid r2
      clear h3 h4 r1 r2 cf E
      go_region_law (first | (refine step_str (w := w2.drew) rfl (.tmp 41) (.tmp 51) 34 9 rfl W.heap.size 5 i0 Tryd.underlying34 Tryd.underlying9 hi hz0 hz1 hz2 v t.length (bytV t) rfl H4.out.drew (s.extract p k) rfl (by rw [HU.out, txt_size]; unfold maxLen; omega) (by rw [HU.out, txt_size]; omega) hb1 ?_; intro v' w3 hown3 hg3; rw [HU.out, strCells_txt, txt_size] at hown3; obtain ⟨⟨A', n', cp', rfl⟩, h5, R3⟩ := RS.text (w := w2) (p := k) H1.out H2.out H3.out H4.out hown3 (gDrew hg3); obtain ⟨c0', c1', c2', cf'⟩ := rd_cells h5; have f2' := cf' 2; clear cf' h5 hown3 hg3))
      all_goals (have HR3 := Lib.hid R3; obtain ⟨_, _, v9, h9, _⟩ := R3; obtain ⟨_, d1, _, _⟩ := rd_cells h9; clear h9)
      all_goals go_wp2_with fail
      all_goals go_ret
      all_goals exact ⟨by rw [HK3.out]; rfl, by rw [HK3.out]; exact HR3.out⟩
end
end Go.Proofs.YtilokhbhkbikiaaDoor
