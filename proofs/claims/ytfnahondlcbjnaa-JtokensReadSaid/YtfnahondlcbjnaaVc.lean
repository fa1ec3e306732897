/- What landed: Read: all tokens, and the first fault. -/
import Derived.Test.YtfnahondlcbjnaaVb
import Derived.Test.YtfnahondlcbjnaaUi
import Derived.Deep.RegionWith
namespace Go.Proofs.Ytfnahondlcbjnaa
open Go.RowKit
namespace Jk

/-- A row of tokens to read: from its block's first cell on. -/
def TkR (w : World) (base : Nat) (kd : IntKind) (ty : TypeId) (A : Option Addr) (N : Nat) (ts : List Tok) : Prop :=
  N = ts.length ∧ (0 < N → ∃ (g : Nat) (cur : Array Value), A = some ⟨g, 0, none⟩ ∧ base ≤ g ∧ w.heap[g]? = some (.cells cur ty (0, 0)) ∧ N * 3 ≤ cur.size ∧ ∀ (j : Nat) (u : Value), (tkL kd ts)[j]? = some u → cur[j]? = some u)
section
variable {w w' : World} {base : Nat} {kd : IntKind} {ty : TypeId} {v : Value} {A : Option Addr} {N : Nat} {ts : List Tok}
theorem own_tk (h : w.ownsRow base ty 3 v ts.length (tkL kd ts)) : ∃ A N c, v = .slice A N c ∧ N ≤ c ∧ c ≤ maxLen ∧ (A = none → c = 0) ∧ TkR w base kd ty A N ts := by
  rcases h.2 with ⟨rfl, h0⟩ | ⟨g, cap, cur, rfl, hb, hg, hnc, hcm, hs, ht⟩
  · exact ⟨none, 0, 0, rfl, Nat.le_refl _, Nat.zero_le _, fun _ => rfl, h0.symm, fun h => absurd h (by omega)⟩
  · refine ⟨_, _, _, rfl, hnc, hcm, fun h => (by cases h), rfl, fun _ => ⟨g, cur, rfl, hb, hg, by rw [hs]; exact Nat.mul_le_mul_right _ hnc, fun j u hu => ?_⟩⟩
    rw [← ht, List.getElem?_take] at hu
    split at hu
    · rwa [Array.getElem?_toList] at hu
    · cases hu
theorem TkR.below (h : TkR w base kd ty A N ts) {B : Nat} (hb : Below B w w') (hB : w.heap.size ≤ B) : TkR w' base kd ty A N ts := ⟨h.1, fun h0 => by
  obtain ⟨g, cur, e, hbg, hg, r⟩ := h.2 h0
  exact ⟨g, cur, e, hbg, by rw [hb.block g (by have := lt_blk hg; omega)]; exact hg, r⟩⟩
theorem TkR.set (h : TkR w base kd ty A N ts) {p : Addr} {u : Value} (hp : p.block < base) : TkR (w.setCell p u) base kd ty A N ts := ⟨h.1, fun h0 => by
  obtain ⟨g, cur, e, hbg, hg, r⟩ := h.2 h0
  exact ⟨g, cur, e, hbg, by rw [heap_setCell_other w p g u (by omega)]; exact hg, r⟩⟩
theorem TkR.low (h : TkR w base kd ty A N ts) {b : Nat} (hb : b ≤ base) : TkR w b kd ty A N ts := ⟨h.1, fun h0 => by
  obtain ⟨g, cur, e, hbg, r⟩ := h.2 h0
  exact ⟨g, cur, e, by omega, r⟩⟩
theorem TkR.drew (h : TkR w base kd ty A N ts) : TkR w.drew base kd ty A N ts := h
/-- The cells of a token of it. -/
theorem TkR.at_ (h : TkR w base kd ty A N ts) (h0 : 0 < N) : ∃ g, A = some ⟨g, 0, none⟩ ∧ base ≤ g ∧ ∀ k t, ts[k]? = some t → w.cell? ⟨g, k * 3, none⟩ = some (.int kd (t.1 : Int)) ∧ w.cell? ⟨g, k * 3 + 1, none⟩ = some (.int .i64 (t.2.1 : Int)) ∧ w.cell? ⟨g, k * 3 + 2, none⟩ = some (.int .i64 (t.2.2 : Int)) := by
  obtain ⟨g, cur, e, hbg, hg, _, r⟩ := h.2 h0
  refine ⟨g, e, hbg, fun k t ht => ?_⟩
  obtain ⟨a, b, c⟩ := tkL_at kd ts k t ht
  refine ⟨?_, ?_, ?_⟩
  · rw [cell_of_row w g _ cur ty (0, 0) hg]; exact r _ _ a
  · rw [cell_of_row w g _ cur ty (0, 0) hg]; exact r _ _ b
  · rw [cell_of_row w g _ cur ty (0, 0) hg]; exact r _ _ c
theorem clip_is {c : Nat} (w : World) (hNc : N ≤ c) (hcm : c ≤ maxLen) (hnil : A = none → c = 0) :
    Calls Try.prog 15 #[.slice A N c] w fun e w' => e = .returned (.slice A N N) ∧ w = w' := by
  unfold maxLen at hcm
  cases A with
  | none =>
    obtain rfl := hnil rfl
    obtain rfl : N = 0 := by omega
    go_enter Try.func15, Try.ntmps15
    go_wp2_with fail
    go_ret
    exact ⟨rfl, rfl⟩
  | some a =>
    clear hnil
    go_enter Try.func15, Try.ntmps15
    go_wp2_with fail
    go_ret
    exact ⟨rfl, rfl⟩
end
/-- What Read leaves. -/
def RdL (kd : IntKind) (ty : TypeId) (w : World) (l : List UInt8) (e : Ending) (w' : World) : Prop :=
  ∃ A N c, e = .returned (.tuple #[.slice A N c, ftV (tks l 0).2]) ∧ N ≤ c ∧ c ≤ maxLen ∧ TkR w' w.heap.size kd ty A N (tks l 0).1 ∧ Below w.heap.size w w'
section
variable {l : List UInt8} {A : Option Addr}
set_option maxHeartbeats 8000000 in
set_option maxRecDepth 100000 in
theorem lread_is (n c : Nat) {B : Nat} (w : World) (hF : Forms) (hn : n = l.length) (hnc : n ≤ c) (hc6 : c ≤ maxLen) (hA : Byt w B A l) (hB : B ≤ w.heap.size) (hm : n ≤ 1000000) :
    Calls Try.prog 8 #[.slice A n c] w (RdL .u8 36 w l) := by
  obtain ⟨i4, hi, hz0, hz1, hz2⟩ := info_parts (show (Try.prog.info? 36).map (fun i => (i.zero, i.size, i.bytes)) = some (some (.agg #[.int .u8 0, .int .i64 0, .int .i64 0]), 3, 24) by kernel_rfl)
  have HF := Lib.hid hF
  have Hn := Lib.hid hn
  have HA := Lib.hid hA
  have HB := Lib.hid hB
  have HC := Lib.hid (And.intro hnc hc6)
  have HM := Lib.hid hm
  have F0 := Lib.hid (RR.start (kd := .u8) (ty := 36) (l := l) (FB.start (w := w) (c := 0) (a := 0)))
  clear hF hn hA hB hnc hc6
  go_enter Try.func8, Try.ntmps8
  go_wp2_with fail
  go_loopw [4, 5, 6, 7] (fun v s _ _ wr => ∃ (i : Nat) (ts : List Tok), i ≤ n ∧ s = .int .i64 i ∧ Hid (RR .u8 36 w l i v ts wr)) (fun _ s _ _ _ => n - (intOf s).toNat)
  case atStart => exact ⟨0, [], Nat.zero_le _, rfl, F0⟩
  case round =>
    obtain ⟨i, ts, hin, rfl, HR⟩ := hrel
    clear F0
    by_cases hlt : i < n
    · have HLT := Lib.hid (show i < l.length by rw [← Hn.out]; exact hlt)
      have C := Lib.hid (lnext_in (A := A) (B := B) n c i (x := i) wr HF.out Hn.out HC.out.1 HC.out.2 (HA.out.below (HR.out.fb.below.mono HB.out)) (Nat.le_trans HB.out HR.out.fb.below.size) hm rfl HLT.out)
      obtain ⟨r, HRX⟩ : ∃ r, Hid (r = nx (l.drop i)) := ⟨_, rfl⟩
      rw [← HRX.out] at C
      go_wp2_with fail
      refine C.out.mono ?_
      rintro e w1 ⟨rfl, hb1⟩
      have HB1 := Lib.hid hb1
      clear hb1 C
      cases r with
      | bad m =>
        have HT := Lib.hid (HR.out.stop HLT.out HRX.out.symm)
        simp only [lnA]
        go_upto_region 6 with fail
        have HW := Lib.hid (W2.start (W := w1) (o := ltO 0 0 0) (c := 3) (a := (i : Int) + m))
        obtain ⟨W', hW'⟩ : ∃ W', W' = (w1.alloc (ltO 0 0 0)).alloc (fvO 3 ((i : Int) + m)) := ⟨_, rfl⟩
        rw [← hW'] at HW ⊢
        have FW := Lib.hid ((HR.out.fb.on HB1.out).on HW.out.below)
        have OW := Lib.hid (own_below (own_below HR.out.own HB1.out (Nat.le_refl _)) HW.out.below (Nat.le_refl _))
        obtain ⟨g0, g1⟩ := HW.out.faults
        obtain ⟨⟨c0, c1⟩, f0, f1⟩ := FW.out.cells
        obtain ⟨A4, N4, c4, hu4, hNc4, hcm4, hnil4, TK4⟩ := own_tk OW.out
        have CL := Lib.hid (fun w => clip_is (A := A4) (N := N4) (c := c4) w hNc4 hcm4 hnil4)
        have TK := Lib.hid TK4
        have HCM := Lib.hid (Nat.le_trans hNc4 hcm4)
        clear hW' hcm4 hNc4 TK4
        subst hu4
        go_region_with (go_at_call 15; refine (CL.out _).mono ?_; rintro e w' ⟨rfl, rfl⟩)
        all_goals
          go_wp2_with fail
          refine bodyPost_ret (v := .tuple #[.slice A4 N4 N4, fvV 3 ((i : Int) + m)]) (by simp [results, Try.results8, go_sem, *]) rfl ?_
          refine ⟨A4, N4, N4, by rw [HT.out]; rfl, Nat.le_refl _, HCM.out, ?_, (FW.out.set.below).drew⟩
          rw [HT.out]
          exact (((TK.out.set (by simp)).set (by simp)).low (Nat.le_succ _)).drew
      | tok k m =>
        have HT := Lib.hid (tk_of HRX.out.symm)
        have hml : i + m ≤ n := by
          have h1 := (tk_len HT.out).2
          rw [List.length_drop, ← Hn.out] at h1
          omega
        have hm0 : 0 < m := (tk_len HT.out).1
        simp only [lnA]
        go_upto_region 7 with fail
        have HW := Lib.hid (W2.start (W := w1) (o := ltO k i ((i : Int) + m)) (c := 0) (a := 0))
        obtain ⟨W', hW'⟩ : ∃ W', W' = (w1.alloc (ltO k i ((i : Int) + m))).alloc (fvO 0 0) := ⟨_, rfl⟩
        rw [← hW'] at HW ⊢
        have OW := Lib.hid (own_below (own_below HR.out.own HB1.out (Nat.le_refl _)) HW.out.below (Nat.le_refl _))
        obtain ⟨t0, t1, t2⟩ := HW.out.toks
        have hts : ts.length ≤ 1000000 := Nat.le_trans HR.out.few (by omega)
        have hws : w.heap.size + 1 ≤ (W'.alloc (.cells #[.int .u8 k, .int .i64 i, .int .i64 ((i : Int) + m)] 36)).heap.size := by
          have h1 := HR.out.fb.lt
          have h2 := HB1.out.size
          have h3 := HW.out.size
          have h4 := (World.grownBy_alloc W' (.cells #[.int .u8 k, .int .i64 i, .int .i64 ((i : Int) + m)] 36) none).size
          omega
        have HT2 : Hid (∀ w2, (W'.alloc (.cells #[.int .u8 k, .int .i64 i, .int .i64 ((i : Int) + m)] 36)).grownBy w2 u4.ownBlock → w2.cell? ⟨w1.heap.size, 2, none⟩ = some (.int .i64 ((i : Int) + m))) := Lib.hid fun w2 hg => by
          refine hg.cell (a := ⟨w1.heap.size, 2, none⟩) (by rw [World.cell?_alloc_lt _ _ _ (by have := HW.out.size; simp; omega)]; exact t2) (fun e => ?_)
          have h1 := (HR.out.own.lt w1.heap.size e.symm).2
          have h2 := HB1.out.size
          omega
        clear hW'
        go_wp2_with (at_builtin; refine wpList_append_own _ rfl (.tmp 24) (.tmp 26) 25 rfl (w.heap.size + 1) 36 i4 (.agg #[.int .u8 0, .int .i64 0, .int .i64 0]) 3 24 Try.underlying25 hi hz0 hz1 hz2 rfl (by decide) _ ts.length (tkL .u8 ts) rfl (OW.out.alloc _) ⟨W'.heap.size, 0, none⟩ 1 1 [.int .u8 k, .int .i64 i, .int .i64 ((i : Int) + m)] rfl rfl (cells_new _ _ rfl) (one3 _ _ _ _) (by unfold maxLen; omega) (by omega) hws ?_; intro v2 w2 hown2 hg2 _; have cT := HT2.out _ hg2)
        have N := Lib.hid (HR.out.next HT.out HB1.out HW.out (news := [.int .u8 k, .int .i64 i, .int .i64 ((i : Int) + m)]) rfl hown2 hg2)
        clear hown2 hg2
        go_roundw
        case rel => exact ⟨i + m, _, hml, by go_num, N⟩
        case measure => simp [intOf]; omega
    · obtain rfl : i = n := by omega
      have HT := Lib.hid (HR.out.done (by rw [← Hn.out]; exact Nat.le_refl _))
      obtain ⟨A4, N4, c4, hu4, hNc4, hcm4, hnil4, TK4⟩ := own_tk HR.out.own
      have CL := Lib.hid (fun w => clip_is (A := A4) (N := N4) (c := c4) w hNc4 hcm4 hnil4)
      have TK := Lib.hid TK4
      have HCM := Lib.hid (Nat.le_trans hNc4 hcm4)
      clear hcm4 hNc4 TK4
      subst hu4
      obtain ⟨⟨c0, c1⟩, f0, f1⟩ := HR.out.fb.cells
      go_wp2_with fail
      refine (CL.out _).mono ?_
      rintro e w' ⟨rfl, rfl⟩
      go_wp2_with fail
      refine bodyPost_ret (v := .tuple #[.slice A4 N4 N4, fvV 0 0]) (by simp [results, Try.results8, go_sem, *]) rfl ?_
      refine ⟨A4, N4, N4, by rw [HT.out]; rfl, Nat.le_refl _, HCM.out, ?_, HR.out.fb.set.below⟩
      rw [HT.out]
      exact ((TK.out.set (by simp)).set (by simp)).low (Nat.le_succ _)
end
end Jk
end Go.Proofs.Ytfnahondlcbjnaa
