/- The reader's numbered escapes. -/
import Derived.Test.YtilokhbhkbikiaaDoorEsM
import Derived.Deep.RegionLaw
import Derived.Deep.RegionWith
import Derived.Deep.DeepCutAuto
import Derived.Deep.LoopGhost
namespace Go.Proofs.YtilokhbhkbikiaaDoor
open Go.RowKit

/-- What an escape's reading leaves, of the unit (or the pair) that begins at q. -/
def EscPost (W : World) (b : Nat) (s : ByteArray) (l : List UInt8) (q : Nat) (t : List UInt8) (e : Ending) (w' : World) : Prop :=
  (∃ hf a, Qu.tok (l.drop q) = .stop (.bad hf a) ∧ e = .returned (.int .i64 (if hf = true then 6 else 3)) ∧ RS W b s w' ((q + a : Nat) : Int) t) ∨
  (∃ k u, Qu.tok (l.drop q) = .go k u (l.drop (q + k)) ∧ 1 ≤ k ∧ q + k ≤ l.length ∧ u.length ≤ 4 * k ∧ e = .returned (.int .i64 0) ∧ RS W b s w' ((q + k : Nat) : Int) (t ++ u))
theorem num_one {w : World} (n : Int) (o : Obj) (h : o = .cells #[.int .i64 n] 3) : Num (w.alloc o).drew (w.alloc o).heap.size (some ⟨w.heap.size, 0, none⟩) [n] := by
  subst h
  refine fun _ => ⟨w.heap.size, 0, rfl, by simp, fun k hk => ?_⟩
  obtain rfl : k = 0 := by simpa using hk
  show (w.alloc _).cell? _ = _
  rw [World.cell?_alloc_at _ _ _ _ rfl]
  simp [it]
theorem Heads.old {W w : World} (h : Heads W) (hz : 1 < W.heap.size) (hb : Below W.heap.size W w) : Heads w := h.below hb hz
section
variable {W w : World} {b : Nat} {s : ByteArray} {q : Nat} {t l : List UInt8}
theorem puts1 {v : Value} {p : Int} (R : RV W b s w p t v) (hH : Heads W) (hz : 1 < W.heap.size) (n : Int) : Calls Tryd.prog 15 #[.slice (some ⟨w.heap.size, 0, none⟩) 1 1] (w.alloc (.cells #[.int .i64 n] 3)).drew
    (fun e w' => ∃ A c, e = .returned (.slice A (puts [n]).length c) ∧ Byt w' w'.heap.size A (puts [n]) ∧ (A = none → c = 0) ∧ RV W b s w' p t v) := by
  have R1 : RV W b s (w.alloc (.cells #[.int .i64 n] 3)).drew p t v := (R.alloc _).drew
  have hb := R1.1
  have hz1 : 1 < (w.alloc (.cells #[.int .i64 n] 3)).drew.heap.size := Nat.lt_of_lt_of_le hz hb.size
  refine (puts_any (l := [n]) (B := (w.alloc (.cells #[.int .i64 n] 3)).drew.heap.size) 1 1 rfl (num_one n _ rfl) (Nat.le_refl _) (by omega) (hH.old hz hb) hz1).mono ?_
  rintro e w' ⟨rfl, hown, hbel⟩
  rw [bytV_puts] at hown
  obtain ⟨A, c, e1, h1, h2, h3, h4, h5⟩ := own_form hown
  refine ⟨_, _, by rw [← h3], ?_, (fun h => by cases h), R1.below hbel⟩
  injection e1 with e1 e2 e3
  rw [e1]; exact h4
set_option maxHeartbeats 2000000 in
theorem numbered_any (h : RS W b s w ((q + 2 : Nat) : Int) t) (hs : s = txt l) (hl : l.length ≤ 1000000) (h1 : tkB l q 92 = true) (h2 : tkB l (q + 1) 117 = true) (ht : t.length ≤ 4 * q) (hH : Heads W) (hz : 1 < W.heap.size) :
    Calls Tryd.prog 32 #[.pointer (some ⟨b, 0, none⟩)] w (EscPost W b s l q t) := by
  obtain ⟨i0, hi, hz0, hz1, hz2⟩ := info_parts (show (Tryd.prog.info? 5).map (fun i => (i.zero, i.size, i.bytes)) = some (some (.int .u8 0), 1, 1) by kernel_rfl)
  obtain ⟨p, HP⟩ : ∃ p, Hid (p = q + 2) := ⟨_, rfl⟩
  have HR : Hid (RS W b s w (p : Int) t) := by rw [HP.out]; exact h
  have HS := Lib.hid hs
  have HL := Lib.hid hl
  have H1 := Lib.hid h1
  have H2 := Lib.hid h2
  have HT := Lib.hid ht
  have HH := Lib.hid hH
  have HPL : Hid (p ≤ l.length) := by rw [HP.out]; exact tkB_lt h2
  have hpe : (p : Int) - 2 = (q : Int) := by have := HP.out; omega
  have hp2 : p ≤ 1000000 := by have := HPL.out; omega
  obtain ⟨v0, R0⟩ := h.rv
  have c1 : w.cell? ⟨b, 1, none⟩ = some (.int .i64 p) := by rw [HP.out]; exact R0.cells.2.1
  clear h hs hl h1 h2 ht R0 v0 hH
  go_enter Tryd.func32, Tryd.ntmps32
  go_wp2_with fail
  clear c1 hpe hp2
  refine (number4_any HR.out HS.out HL.out HPL.out).mono ?_
  rintro e w1 (⟨j, e1, rfl, R1⟩ | ⟨n, e1, e2, e3, rfl, R1⟩)
  · have E1 := Lib.hid e1
    have HR1 := Lib.hid R1
    clear e1 R1
    go_wp2_with fail
    go_ret
    refine .inl ⟨false, 2 + j, tok_esc_bad H1.out H2.out (by rw [← HP.out]; exact E1.out), rfl, ?_⟩
    have := HR1.out
    rwa [show p + j = q + (2 + j) by have := HP.out; omega] at this
  · have E1 : Hid (Qu.hx 4 0 (l.drop (q + 2)) = .inr (n, l.drop (p + 4))) := by rw [← HP.out]; exact e1
    have E2 := Lib.hid e2
    have HR1 := Lib.hid R1
    have hn := e3
    obtain ⟨x, HX⟩ : ∃ x, Hid (x = Qu.high n) := ⟨_, rfl⟩
    clear e1 R1 e2 e3
    go_wp2_with fail
    refine (high_is HX.out _).mono ?_
    rintro e w2 ⟨rfl, rfl⟩
    go_upto_if 21 with fail
    go_cut [4] (fun y wx => ∃ (N k q' : Nat), y = .int .i64 N ∧ N ≤ 1114111 ∧ RS W b s wx (q' : Int) t ∧ (((Qu.high N = true ∨ Qu.low N = true) ∧ Qu.tok (l.drop q) = .stop (.bad true 0)) ∨ (Qu.high N = false ∧ Qu.low N = false ∧ Qu.tok (l.drop q) = .go k (Qu.pt N) (l.drop (q + k)) ∧ 1 ≤ k ∧ q + k ≤ l.length ∧ q' = q + k)))
    case first =>
      cases x
      · go_wp2_with fail
        go_meet
        refine ⟨n, 6, p + 4, rfl, by omega, HR1.out, ?_⟩
        have hh : Qu.high n = false := HX.out.symm
        cases hlw : Qu.low n with
        | true => exact .inl ⟨.inr rfl, tok_esc_low H1.out H2.out E1.out hh hlw⟩
        | false => exact .inr ⟨hh, rfl, tok_esc_one H1.out H2.out E1.out hh hlw, by omega, by have := E2.out; have := HP.out; omega, by have := HP.out; omega⟩
      · have hh : Qu.high n = true := HX.out.symm
        have HN := Lib.hid hh
        have hb := Qu.high_is hh
        obtain ⟨hb1, hb2⟩ := hb
        clear hh
        go_wp2_with fail
        refine (lowOne_any HR1.out HS.out HL.out E2.out).mono ?_
        rintro e w3 (⟨m, g1, g2, g3, rfl, R3⟩ | ⟨g1, m, q', rfl, R3⟩)
        · have G1 := Lib.hid g1
          have G3 := Lib.hid g3
          have HR3 := Lib.hid R3
          have hlm := (lowQ_some g1).1
          have hb3 := Qu.low_is hlm
          obtain ⟨hb3, hb4⟩ := hb3
          have HM := Lib.hid hlm
          clear g1 g3 R3 hlm g2
          go_wp2_with fail
          go_meet
          have hpr := Qu.pair_bd HN.out HM.out
          have hpe : (Qu.pair n m : Int) = 65536 + 1024 * ((n : Int) - 55296) + m - 56320 := by unfold Qu.pair; omega
          refine ⟨Qu.pair n m, 12, p + 10, by rw [hpe], hpr.2, ?_, .inr ⟨by simp [Qu.high]; omega, by simp [Qu.low]; omega, ?_, by omega, by have := G3.out; have := HP.out; omega, by have := HP.out; omega⟩⟩
          · exact HR3.out
          · exact tok_esc_pair H1.out H2.out E1.out HN.out (by have := G1.out; rwa [HP.out, show q + 2 + 4 = q + 6 by omega] at this)
        · have G1 := Lib.hid g1
          have HR3 := Lib.hid R3
          clear g1 R3
          go_wp2_with fail
          go_meet
          exact ⟨n, 0, q', rfl, by omega, HR3.out, .inl ⟨.inl HN.out, tok_esc_half H1.out H2.out E1.out HN.out (by have := G1.out; rwa [HP.out, show q + 2 + 4 = q + 6 by omega] at this)⟩⟩
    case rest =>
      obtain ⟨N, k, q', rfl, hN, R, hcase⟩ := hcut
      clear HX HR1 E1 E2 HR hn
      obtain ⟨v, RV1⟩ := R.rv
      have HV := Lib.hid RV1
      obtain ⟨c0, c1, c2, cf⟩ := RV1.cells
      have f1 := cf 1
      have f2 := cf 2
      clear cf RV1 R
      obtain ⟨x, HX⟩ : ∃ x, Hid (x = Qu.high N) := ⟨_, rfl⟩
      obtain ⟨y, HY⟩ : ∃ y, Hid (y = Qu.low N) := ⟨_, rfl⟩
      rcases hcase with ⟨hc1, hc2⟩ | ⟨hc1, hc2, hc3, hc4, hc5, hc6⟩
      · have HC := Lib.hid hc2
        have hq1 : (q : Int) ≤ 1000000 := by have := HPL.out; have := HP.out; have := HL.out; omega
        clear hc2
        cases x
        · cases y
          · exact absurd hc1 (by rw [← HX.out, ← HY.out]; simp)
          · clear hc1
            go_wp2_with fail
            refine (high_is HX.out _).mono ?_
            rintro e w3 ⟨rfl, rfl⟩
            go_wp2_with fail
            refine (low_is HY.out _).mono ?_
            rintro e w3 ⟨rfl, rfl⟩
            go_wp2_with fail
            go_ret
            exact .inl ⟨true, 0, HC.out, rfl, HV.out.rs.pos _⟩
        · clear hc1
          go_wp2_with fail
          refine (high_is HX.out _).mono ?_
          rintro e w3 ⟨rfl, rfl⟩
          go_wp2_with fail
          go_ret
          exact .inl ⟨true, 0, HC.out, rfl, HV.out.rs.pos _⟩
      · have HC := Lib.hid hc3
        have HC1 := Lib.hid hc1
        have HC2 := Lib.hid hc2
        have HC4 := Lib.hid hc4
        have HC5 := Lib.hid hc5
        have HC6 := Lib.hid hc6
        obtain rfl : x = false := by rw [HX.out]; exact hc1
        obtain rfl : y = false := by rw [HY.out]; exact hc2
        have htl : t.length ≤ 4000000 := by have := HT.out; have := HP.out; have := HPL.out; have := HL.out; omega
        have hpl : (puts [(N : Int)]).length ≤ 4 := by rw [puts_one hN hc1 hc2]; exact pt_len N
        have HU := Lib.hid (puts_one hN hc1 hc2)
        clear hc3 hc1 hc2 hc4 hc5 hc6
        go_wp2_with fail
        refine (high_is HX.out _).mono ?_
        rintro e w3 ⟨rfl, rfl⟩
        go_wp2_with fail
        refine (low_is HY.out _).mono ?_
        rintro e w3 ⟨rfl, rfl⟩
        go_wp2_with fail
        have ca := (HV.out.alloc (.cells #[.int .i64 N] 3)).cells.2.2.1
        go_region_law (first
          | (refine step_app rfl (.tmp 49) (.tmp 52) 34 rfl W.heap.size 5 i0 (.int .u8 0) 1 Tryd.underlying34 hi hz0 hz1 hz2 rfl v t.length (bytV t) rfl R4.2.2.2 A (puts [(N : Int)]).length c _ (puts [(N : Int)]) rfl rfl hA hnone (by unfold maxLen; omega) (by omega) R4.1.size ?_; intro v' w5 hown5 hg5; obtain ⟨⟨A', n', cp', rfl⟩, h5, R5⟩ := RV.text R4 hown5 hg5; obtain ⟨c0', c1', c2', cf'⟩ := rd_cells h5; have f2' := cf' 2; clear cf' h5 hown5 hg5)
          | (go_simp; go_at_call 15; refine (puts1 HV.out HH.out hz N).mono ?_; rintro e w4 ⟨A, c, rfl, hA, hnone, R4⟩; obtain ⟨d0, d1, d2, df⟩ := R4.cells; clear d0 d1 df))
        all_goals (have HR5 := Lib.hid R5; clear R5)
        all_goals go_wp2_with fail
        all_goals go_ret
        all_goals exact .inr ⟨k, Qu.pt N, HC.out, HC4.out, HC5.out, by have := pt_len N; have := HC4.out; omega, rfl, by have := HR5.out; rw [HU.out] at this; rwa [HC6.out] at this⟩
end
end Go.Proofs.YtilokhbhkbikiaaDoor
