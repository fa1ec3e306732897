/- All of a string, read by the reader. -/
import Derived.Test.YtggeiajbcehkjaaGreatDoorGan
import Derived.Test.YtggeiajbcehkjaaGreatDoorGap
import Derived.WalkMore
import Derived.ScopeJumps
import Derived.Test.YtggeiajbcehkjaaGreatDoorGab
import Derived.PlainAid
namespace Go.Proofs.YtggeiajbcehkjaaGreatDoor
open Go.RowKit

theorem body_plain (l : List UInt8) (k : Nat) : Qu.body (l.drop k) = (Qu.body (l.drop (prn l k))).pre (prn l k - k) ((l.take (prn l k)).drop k) := by
  by_cases h : k < l.length ∧ jplnI (bt l k) = true
  · obtain ⟨h1, h2⟩ := h
    have ih := body_plain l (k + 1)
    have hge := prn_ge l (k + 1)
    rw [← prn_on h1 h2] at ih hge
    obtain ⟨c, hc, hb⟩ := drop_at h1
    have hp : 32 ≤ bt l k ∧ bt l k ≠ 34 ∧ bt l k ≠ 92 := by simpa [jplnI] using h2
    rw [hb] at hp
    have e : Qu.tok (l.drop k) = .go 1 [c] (l.drop (k + 1)) := by
      rw [hc, Qu.tok]
      have : Qu.un (c :: l.drop (k + 1)) = .unit 1 (.byte c) (l.drop (k + 1)) := by
        simp only [Qu.un]
        rw [if_neg, if_neg, if_neg]
        · omega
        · rintro rfl; exact hp.2.2 (by decide)
        · rintro rfl; exact hp.2.1 (by decide)
      rw [this]
    have hq : prn l k - k = 1 + (prn l k - (k + 1)) := by omega
    have ht : (l.take (prn l k)).drop k = [c] ++ (l.take (prn l k)).drop (k + 1) := by
      have hl : k < (l.take (prn l k)).length := by simp; omega
      rw [List.drop_eq_getElem_cons hl]
      have : (l.take (prn l k))[k] = c := by
        rw [List.getElem_take]
        have := List.drop_eq_getElem_cons h1
        rw [hc] at this
        injection this with this _
        exact this.symm
      rw [this]; rfl
    rw [Qu.body_go e, ih, Qu.pre_pre, hq, ht]
  · have e := prn_end h
    rw [e, Nat.sub_self]
    have : (l.take k).drop k = [] := by simp
    rw [this]
    cases Qu.body (l.drop k) <;> simp [Qu.Res.pre]
termination_by l.length - k
theorem prn_le {l : List UInt8} {k : Nat} (h : k ≤ l.length) : prn l k ≤ l.length := by
  rw [prn]; split
  · rename_i hh; exact prn_le (by omega)
  · exact h
termination_by l.length - k
theorem tok_none {l : List UInt8} {k : Nat} (hp : ¬ k < prn l k) (h92 : tkB l k 92 = false) (h34 : tkB l k 34 = false) : Qu.tok (l.drop k) = .stop (.bad false 0) := by
  have : Qu.un (l.drop k) = .bad 0 := by
    rcases Nat.lt_or_ge k l.length with h | h
    · obtain ⟨c, hc, hb⟩ := drop_at h
      have hn : ¬ (k < l.length ∧ jplnI (bt l k) = true) := fun hh => hp (by rw [prn_on hh.1 hh.2]; exact prn_ge l (k + 1))
      have n1 : bt l k ≠ 92 := by intro e; rw [tkB, e] at h92; simp [h] at h92
      have n2 : bt l k ≠ 34 := by intro e; rw [tkB, e] at h34; simp [h] at h34
      have n3 : ¬ 32 ≤ bt l k := fun e => hn ⟨h, by simp [jplnI, e, n1, n2]⟩
      rw [hc]
      rw [hb] at n1 n2 n3
      simp only [Qu.un]
      rw [if_neg, if_neg, if_pos]
      · omega
      · rintro rfl; exact n1 (by decide)
      · rintro rfl; exact n2 (by decide)
    · rw [List.drop_eq_nil_of_le h]; rfl
  rw [Qu.tok, this]
theorem tok_mark_nil : Qu.tok [34] = .stop (.ok []) := by rfl
theorem tok_mark_cons (c : UInt8) (r : List UInt8) : Qu.tok (34 :: c :: r) = .stop (.bad false 1) := by rfl
theorem tok_mark {l : List UInt8} {k : Nat} (h : tkB l k 34 = true) : Qu.tok (l.drop k) = if k + 1 = l.length then .stop (.ok []) else .stop (.bad false 1) := by
  rw [tkB_drop (c := 34) h]
  have hl := tkB_lt h
  by_cases e : k + 1 = l.length
  · rw [if_pos e, e, List.drop_length]; exact tok_mark_nil
  · rw [if_neg e]
    obtain ⟨c, hc, _⟩ := drop_at (l := l) (q := k + 1) (by omega)
    rw [hc]; exact tok_mark_cons _ _
theorem rdq_start {l : List UInt8} (h : tkB l 0 34 = true) : Qu.rdq l = (Qu.body (l.drop 1)).pre 1 [] := by
  have := tkB_drop (c := 34) h
  rw [List.drop_zero] at this
  rw [this]; rfl
theorem rdq_not {l : List UInt8} (h : tkB l 0 34 = false) : Qu.rdq l = .bad false 0 := by
  unfold Qu.rdq
  split
  · rename_i r
    have := (drop_tkB (l := 34 :: r) (q := 0) (c := 34) (r := r) rfl).1
    rw [show (((34 : UInt8).toNat : Nat) : Int) = 34 by decide, h] at this
    cases this
  · rfl
/-- A region that draws its order, of which the head stands in one order: one step of it. -/
theorem head_step {P : Program} {ops : Array Oper} {Q : Exit → Act → World → Prop} {i fuel : Nat} {listed : Array Bool} {a : Act} {w : World} {o : Oper} (ho : ops[i]? = some o) (hr : Region.ready .any ops listed = [i])
    (h : ∀ K : Act → World → Prop, (∀ a w, wpAny P .any ops Q fuel (listed.setIfInBounds i true) a w → K a w) → if Region.wanted o (yielded ops a.tmps) = true then Oper.wp P o a w K Q else K (a.put o.dst undef) w) : wpAny P .any ops Q (fuel + 1) listed a w :=
  wpAny_ready hr (by simp) (AllReady.cons ho h AllReady.nil)
/-- The rest of it only reads: one walk. -/
theorem head_quiet {P : Program} {L : List Oper} {Q : Exit → Act → World → Prop} (k : Nat) {listed : Array Bool} {a : Act} {w : World} (hs : Region.noSelect L.toArray = true) (hB : Region.lexFrom .any L.toArray (L.drop k).length k listed = true)
    (h : wpQuiet P L.toArray (fun w' => ∃ n, w' = w.drewN n) (fun a' => ∀ w', (∃ n, w' = w.drewN n) → Q .normal a' w') (L.drop k) a) : wpAny P .any L.toArray Q (L.drop k).length listed a w :=
  wpAny_of_quiet (C := fun w' => ∃ n, w' = w.drewN n) (Q := fun a' => ∀ w', (∃ n, w' = w.drewN n) → Q .normal a' w') (fun _ w' hw' h => h w' hw') _ _ _ _ ⟨0, rfl⟩ (wpAnyQ_lex hs (L.drop k) k listed a (fun j => by simp) hB h)
/-- A label in a scope, and what leads to it. -/
theorem wp_scope_label {P : Program} {a : Act} {w : World} {Q : Exit → Act → World → Prop} {pre rest : Code} (l : Nat) (J : Act → World → Prop) (μ : Act → World → Nat) (hf : findLabel (pre.seq ((Code.label l).seq rest)) l = some (Code.seq .skip rest))
    (first : pre.wp P (Exit.then J (Exit.jump l J Q)) a w)
    (pass : ∀ a w, J a w → rest.wp P (Exit.jump l (fun a' w' => J a' w' ∧ μ a' w' < μ a w) Q) a w) : (Code.scope (pre.seq ((Code.label l).seq rest))).wp P Q a w := by
  refine wp_scope_jumps l J μ hf (wp_seq (wp_mono first fun e a w h => ?_)) (fun a w h => wp_seq (wp_skip (pass a w h)))
  cases e with
  | normal =>
    refine wp_seq (wp_label (wp_mono (pass a w h) fun e a' w' h' => ?_))
    cases e with
    | goto l' => exact ⟨h'.1, h'.2.1⟩
    | _ => exact h'
  | _ => exact h
def WholePost (W : World) (b : Nat) (s : ByteArray) (l : List UInt8) (e : Ending) (w' : World) : Prop :=
  (∃ t, Qu.rdq l = .ok t ∧ e = .returned (.int .i64 0) ∧ ∃ p : Nat, RS W b s w' p t) ∨
  (∃ hf a t, Qu.rdq l = .bad hf a ∧ e = .returned (.int .i64 (if hf = true then 6 else 3)) ∧ RS W b s w' (a : Int) t)
def JRel (W : World) (b : Nat) (s : ByteArray) (l : List UInt8) (k : Nat) (t : List UInt8) (w : World) : Prop :=
  RS W b s w (k : Int) t ∧ k ≤ l.length ∧ t.length ≤ 4 * k ∧ Qu.rdq l = (Qu.body (l.drop k)).pre k t
section
variable {W w : World} {b : Nat} {s : ByteArray} {l : List UInt8}
set_option maxHeartbeats 4000000 in
theorem whole_any (h : RS W b s w (0 : Nat) []) (hs : s = txt l) (hl : l.length ≤ 1000000) (hH : Heads W) (hS : jShorts W) (hz : 3 < W.heap.size) :
    Calls Tryz.prog 179 #[.pointer (some ⟨b, 0, none⟩)] w (WholePost W b s l) := by
  have HR := Lib.hid h
  have HS := Lib.hid hs
  have HL := Lib.hid hl
  have HH := Lib.hid hH
  have HSh := Lib.hid hS
  clear h hs hl hH hS
  go_enter Tryz.func179, Tryz.ntmps179
  go_wp2_with fail
  refine wp_scope_label 0 (fun a' w' => ∃ (k : Nat) (t : List UInt8) (u1 u3 u4 u5 u6 u7 u8 u9 u10 u11 u12 u13 u14 u15 u16 u17 u18 u19 u20 u21 u22 u23 u24 u25 u26 u27 u28 u29 u30 : Value), a' = { tmps := #[.pointer (some ⟨b, 0, none⟩), u1, .int .i64 0, u3, u4, u5, u6, u7, u8, u9, u10, u11, u12, u13, u14, u15, u16, u17, u18, u19, u20, u21, u22, u23, u24, u25, u26, u27, u28, u29, u30], defers := [] } ∧ JRel W b s l k t w') (fun _ w' => s.size - posOf b w') rfl ?_ ?_
  · cases h0 : tkB l 0 34
    · have H0 := Lib.hid h0
      clear h0
      go_wp2_with fail
      refine (take_n (p := 0) 34 HR.out HS.out HL.out (Nat.zero_le _) H0.out).mono ?_
      rintro e w1 ⟨rfl, R1⟩
      have HR1 := Lib.hid R1
      clear R1
      go_wp2_with fail
      simp only [Exit.jump]
      go_ret
      exact .inr ⟨false, 0, [], rdq_not H0.out, rfl, HR1.out⟩
    · have H0 := Lib.hid h0
      clear h0
      go_wp2_with fail
      refine (take_y (p := 0) 34 HR.out HS.out HL.out H0.out).mono ?_
      rintro e w1 ⟨rfl, R1⟩
      have HR1 := Lib.hid R1
      clear R1
      go_wp2_with fail
      exact ⟨1, [], _, _, _, _, _, _, _, _, _, _, _, _, _, _, _, _, _, _, _, _, _, _, _, _, _, _, _, _, _, rfl, HR1.out, tkB_lt H0.out, by simp, rdq_start H0.out⟩
  · rintro a' w' ⟨k, t, u1, u3, u4, u5, u6, u7, u8, u9, u10, u11, u12, u13, u14, u15, u16, u17, u18, u19, u20, u21, u22, u23, u24, u25, u26, u27, u28, u29, u30, rfl, J⟩
    clear HR
    have HJ := Lib.hid J
    have hszl : s.size = l.length := by rw [HS.out, txt_size]
    have hk1 : k ≤ s.size := by rw [hszl]; exact J.2.1
    have HK1 := Lib.hid hk1
    have HZ := Lib.hid hszl
    obtain ⟨x, HX⟩ : ∃ x, Hid (x = decide (k < prn l k)) := ⟨_, rfl⟩
    have HMU := Lib.hid J.1.posOf
    clear J hszl hk1
    go_wp2_with fail
    refine (stretch_any HJ.out.1 HS.out HL.out HJ.out.2.1 HJ.out.2.2.1).mono ?_
    rintro e w1 ⟨he, R1⟩
    rw [← HX.out] at he
    subst he
    have HR1 := Lib.hid R1
    clear R1
    cases x
    · have hk : prn l k = k := by
        have h1 : ¬ k < prn l k := of_decide_eq_false HX.out.symm
        have := prn_ge l k; omega
      have HN := Lib.hid (show ¬ k < prn l k by omega)
      have HR2 : Hid (RS W b s w1 (k : Int) t) := by
        have := HR1.out
        rw [hk] at this
        have e : (l.take k).drop k = [] := by simp
        rw [e, List.append_nil] at this
        exact this
      clear HR1 hk HX
      cases h92 : tkB l k 92
      · have H92 := Lib.hid h92
        clear h92
        cases h34 : tkB l k 34
        · have H34 := Lib.hid h34
          clear h34
          have HT := Lib.hid (tok_none HN.out H92.out H34.out)
          go_wp2_with fail
          refine (take_n 92 HR2.out HS.out HL.out HJ.out.2.1 H92.out).mono ?_
          rintro e w2 ⟨rfl, R2⟩
          have HR3 := Lib.hid R2
          clear R2
          go_wp2_with fail
          refine wp_region_any (by kernel_rfl) ?_
          change wpAny _ _ _ _ 15 _ _ _
          refine head_step (i := 0) rfl (by kernel_rfl) (fun K hK => ?_)
          go_simp
          refine hK _ _ ?_
          clear hK K
          refine head_step (i := 1) rfl (by kernel_rfl) (fun K hK => ?_)
          go_simp
          go_at_call 214
          refine (take_n 34 HR3.out.drew HS.out HL.out HJ.out.2.1 H34.out).mono ?_
          rintro e w4 ⟨rfl, R4⟩
          have HR4 := Lib.hid R4
          clear R4
          go_simp
          refine hK _ _ ?_
          clear hK K
          refine head_step (i := 2) rfl (by kernel_rfl) (fun K hK => ?_)
          go_simp
          refine hK _ _ ?_
          clear hK K
          refine head_step (i := 3) rfl (by kernel_rfl) (fun K hK => ?_)
          go_simp
          refine hK _ _ ?_
          clear hK K
          refine head_quiet 4 (by kernel_rfl) (by kernel_rfl) ?_
          simp only [List.drop_succ_cons, List.drop_zero]
          repeat (go_big_quiet_step (fail))
          refine wpQuiet_nil ?_
          intro _ hw'
          obtain ⟨nq, hw''⟩ := hw'
          subst hw''
          go_wp2_with fail
          simp only [Exit.jump]
          go_ret
          exact .inr ⟨false, k, t, by rw [HJ.out.2.2.2, Qu.body_stop HT.out]; rfl, rfl, HR4.out.drewN _⟩
        · have H34 := Lib.hid h34
          have hk2 : k + 1 ≤ s.size := by rw [HZ.out]; exact tkB_lt h34
          have hs1 : s.size ≤ 1000000 := by rw [HZ.out]; exact HL.out
          have HT := Lib.hid (tok_mark h34)
          clear h34
          by_cases hend : k + 1 = s.size
          · have HE := Lib.hid hend
            have HT2 : Hid (Qu.tok (l.drop k) = .stop (.ok [])) := by have := HT.out; rwa [if_pos (by rw [← HZ.out]; exact hend)] at this
            have hge : ¬ ((k : Int) + 1 < s.size) := by omega
            clear HT hend
            go_wp2_with fail
            refine (take_n 92 HR2.out HS.out HL.out HJ.out.2.1 H92.out).mono ?_
            rintro e w2 ⟨rfl, R2⟩
            have HR3 := Lib.hid R2
            clear R2
            go_wp2_with fail
            refine wp_region_any (by kernel_rfl) ?_
            change wpAny _ _ _ _ 15 _ _ _
            refine head_step (i := 0) rfl (by kernel_rfl) (fun K hK => ?_)
            go_simp
            refine hK _ _ ?_
            clear hK K
            refine head_step (i := 1) rfl (by kernel_rfl) (fun K hK => ?_)
            go_simp
            go_at_call 214
            refine (take_y 34 HR3.out.drew HS.out HL.out H34.out).mono ?_
            rintro e w4 ⟨rfl, R4⟩
            have HR4 := Lib.hid R4
            obtain ⟨_, _, v4, h4, _⟩ := R4
            obtain ⟨c0, c1, _, _⟩ := rd_cells h4
            clear h4
            go_simp
            refine hK _ _ ?_
            clear hK K
            refine head_step (i := 2) rfl (by kernel_rfl) (fun K hK => ?_)
            go_simp
            refine hK _ _ ?_
            clear hK K
            refine head_step (i := 3) rfl (by kernel_rfl) (fun K hK => ?_)
            go_simp
            refine hK _ _ ?_
            clear hK K
            refine head_quiet 4 (by kernel_rfl) (by kernel_rfl) ?_
            simp only [List.drop_succ_cons, List.drop_zero]
            repeat (go_big_quiet_step (fail))
            refine wpQuiet_nil ?_
            intro _ hw'
            obtain ⟨nq, hw''⟩ := hw'
            subst hw''
            go_wp2_with fail
            simp only [Exit.jump]
            go_ret
            exact .inl ⟨t, by rw [HJ.out.2.2.2, Qu.body_stop HT2.out]; simp [Qu.Res.pre], rfl, _, HR4.out.drewN _⟩
          · have HT2 : Hid (Qu.tok (l.drop k) = .stop (.bad false 1)) := by have := HT.out; rwa [if_neg (by rw [← HZ.out]; exact hend)] at this
            have hge : ((k : Int) + 1 < s.size) := by omega
            clear HT hend
            go_wp2_with fail
            refine (take_n 92 HR2.out HS.out HL.out HJ.out.2.1 H92.out).mono ?_
            rintro e w2 ⟨rfl, R2⟩
            have HR3 := Lib.hid R2
            clear R2
            go_wp2_with fail
            refine wp_region_any (by kernel_rfl) ?_
            change wpAny _ _ _ _ 15 _ _ _
            refine head_step (i := 0) rfl (by kernel_rfl) (fun K hK => ?_)
            go_simp
            refine hK _ _ ?_
            clear hK K
            refine head_step (i := 1) rfl (by kernel_rfl) (fun K hK => ?_)
            go_simp
            go_at_call 214
            refine (take_y 34 HR3.out.drew HS.out HL.out H34.out).mono ?_
            rintro e w4 ⟨rfl, R4⟩
            have HR4 := Lib.hid R4
            obtain ⟨_, _, v4, h4, _⟩ := R4
            obtain ⟨c0, c1, _, _⟩ := rd_cells h4
            clear h4
            go_simp
            refine hK _ _ ?_
            clear hK K
            refine head_step (i := 2) rfl (by kernel_rfl) (fun K hK => ?_)
            go_simp
            refine hK _ _ ?_
            clear hK K
            refine head_step (i := 3) rfl (by kernel_rfl) (fun K hK => ?_)
            go_simp
            refine hK _ _ ?_
            clear hK K
            refine head_quiet 4 (by kernel_rfl) (by kernel_rfl) ?_
            simp only [List.drop_succ_cons, List.drop_zero]
            repeat (go_big_quiet_step (fail))
            refine wpQuiet_nil ?_
            intro _ hw'
            obtain ⟨nq, hw''⟩ := hw'
            subst hw''
            go_wp2_with fail
            simp only [Exit.jump]
            go_ret
            exact .inr ⟨false, k + 1, t, by rw [HJ.out.2.2.2, Qu.body_stop HT2.out]; rfl, rfl, HR4.out.drewN _⟩
      · have H92 := Lib.hid h92
        clear h92
        go_wp2_with fail
        refine (take_y 92 HR2.out HS.out HL.out H92.out).mono ?_
        rintro e w2 ⟨rfl, R2⟩
        have HR3 := Lib.hid R2
        clear R2
        go_wp2_with fail
        refine (escape_any HR3.out HS.out HL.out H92.out HJ.out.2.2.1 HH.out HSh.out hz).mono ?_
        rintro e w3 (⟨hf, a, g1, rfl, g2⟩ | ⟨m, u, g1, g2, g3, g4, rfl, g5⟩)
        · have G1 := Lib.hid g1
          have G2 := Lib.hid g2
          clear g1 g2
          cases hf
          all_goals go_wp2_with fail
          all_goals simp only [Exit.jump]
          all_goals go_ret
          · exact .inr ⟨false, k + a, t, by rw [HJ.out.2.2.2, Qu.body_stop G1.out]; rfl, rfl, G2.out⟩
          · exact .inr ⟨true, k + a, t, by rw [HJ.out.2.2.2, Qu.body_stop G1.out]; rfl, rfl, G2.out⟩
        · have G1 := Lib.hid g1
          have G2 := Lib.hid g2
          have G3 := Lib.hid g3
          have G4 := Lib.hid g4
          have G5 := Lib.hid g5
          clear g1 g2 g3 g4 g5
          go_wp2_with fail
          go_step3
          refine ⟨rfl, ⟨k + m, t ++ u, _, _, _, _, _, _, _, _, _, _, _, _, _, _, _, _, _, _, _, _, _, _, _, _, _, _, _, _, _, rfl, G5.out, G3.out, ?_, ?_⟩, ?_⟩
          · have := HJ.out.2.2.1; have := G4.out; rw [List.length_append]; omega
          · rw [HJ.out.2.2.2, Qu.body_go G1.out, Qu.pre_pre]
          · rw [G5.out.posOf, HMU.out]; have := G2.out; have := G3.out; have := HZ.out; omega
    · have hk : k < prn l k := of_decide_eq_true HX.out.symm
      have HKK := Lib.hid hk
      clear hk HX
      go_wp2_with fail
      go_step3
      have hle := prn_le HJ.out.2.1
      refine ⟨rfl, ⟨prn l k, t ++ (l.take (prn l k)).drop k, _, _, _, _, _, _, _, _, _, _, _, _, _, _, _, _, _, _, _, _, _, _, _, _, _, _, _, _, _, rfl, HR1.out, hle, ?_, ?_⟩, ?_⟩
      · have := HJ.out.2.2.1; have := HKK.out; simp; omega
      · rw [HJ.out.2.2.2, body_plain l k, Qu.pre_pre, show k + (prn l k - k) = prn l k by have := HKK.out; omega]
      · rw [HR1.out.posOf, HMU.out]; have := HKK.out; have := HZ.out; omega
end
end Go.Proofs.YtggeiajbcehkjaaGreatDoor
/- The program's own reading of a string. -/
namespace Go.Proofs.YtggeiajbcehkjaaGreatDoor
open Go.RowKit

/-- What a reading answers. -/
def rval : Qu.Res → Value
  | .ok t => .tuple #[.string (txt t), .agg #[.int .i64 0, .int .i64 0]]
  | .bad hf a => .tuple #[.string ⟨#[]⟩, .agg #[.int .i64 (if hf = true then 6 else 3), .int .i64 (a : Int)]]
theorem jcell_old {W w : World} (h : Below W.heap.size W w) {F i : Nat} {v : Value} (hF : F < W.heap.size) (hc : W.cell? ⟨F, i, none⟩ = some v) : w.cell? ⟨F, i, none⟩ = some v := (h.cell (p := ⟨F, i, none⟩) hF).trans hc
theorem free_old {W w : World} (h : Below W.heap.size W w) {F i : Nat} (hF : F < W.heap.size) (hc : W.frozen? ⟨F, i, none⟩ = false) : w.frozen? ⟨F, i, none⟩ = false := by
  rw [← hc]
  simp only [World.frozen?]
  rw [h.block F hF]
theorem below_of {w w' : World} {o : Obj} (h : Below (w.alloc o).heap.size (w.alloc o) w') : Below w.heap.size w w' :=
  ((Below.refl _ _).alloc (Nat.le_refl _) o).trans (h.mono (by simp))
set_option maxHeartbeats 2000000 in
theorem qread_any {l : List UInt8} {s : ByteArray} (w : World) (hs : s = txt l) (hl : l.length ≤ 1000000) (hH : Heads w) (hS : jShorts w) (hz : 3 < w.heap.size) :
    Calls Tryz.prog 145 #[.string s] w fun e w' => e = .returned (rval (Qu.rdq l)) ∧ Below w.heap.size w w' := by
  obtain ⟨i0, hi, hz0, hz1, hz2⟩ := info_parts (show (Tryz.prog.info? 5).map (fun i => (i.zero, i.size, i.bytes)) = some (some (.int .u8 0), 1, 1) by kernel_rfl)
  obtain ⟨W, HW⟩ : ∃ W, W = w.alloc (.cells #[.int .i64 0, .int .i64 0] 63) := ⟨_, rfl⟩
  have hb0 : Below w.heap.size w W := by rw [HW]; exact (Below.refl _ _).alloc (Nat.le_refl _) _
  have hWs : W.heap.size = w.heap.size + 1 := by rw [HW]; simp
  have HH := Lib.hid (hH.below hb0 hz)
  have HSh := Lib.hid (hS.old (by omega) hb0)
  have HZ := Lib.hid (show 3 < W.heap.size by omega)
  have f0 : W.cell? ⟨w.heap.size, 0, none⟩ = some (.int .i64 0) := by rw [HW, World.cell?_alloc_at _ _ _ _ rfl]; rfl
  have f1 : W.cell? ⟨w.heap.size, 1, none⟩ = some (.int .i64 0) := by rw [HW, World.cell?_alloc_at _ _ _ _ rfl]; rfl
  have g0 : W.frozen? ⟨w.heap.size, 0, none⟩ = false := by rw [HW]; exact World.frozen?_alloc_new _ _ _ _
  have g1 : W.frozen? ⟨w.heap.size, 1, none⟩ = false := by rw [HW]; exact World.frozen?_alloc_new _ _ _ _
  have HF := Lib.hid (show w.heap.size < W.heap.size by omega)
  have HF0 := Lib.hid f0
  have HF1 := Lib.hid f1
  have HG0 := Lib.hid g0
  have HG1 := Lib.hid g1
  have HB := Lib.hid (show ∀ w', Below W.heap.size W w' → Below w.heap.size w w' by rw [HW]; exact fun w' h => below_of h)
  have HS := Lib.hid hs
  have HL := Lib.hid hl
  have hsz : s.size ≤ 1000000 := by rw [hs, txt_size]; exact hl
  have HWW := Lib.hid HW
  have hbase : W.heap.size ≤ (w.alloc (.cells #[.int .i64 0, .int .i64 0] 63)).heap.size := by rw [HW]; exact Nat.le_refl _
  clear hs hl hH hS hz hb0 hWs f0 f1 g0 g1 HW
  go_enter Tryz.func145, Tryz.ntmps145
  go_wp2_with (at_make; refine wpList_make_own _ rfl _ _ 41 rfl W.heap.size 5 i0 (.int .u8 0) 1 Tryz.underlying41 hi hz0 hz1 .i64 .i64 _ s.size rfl rfl rfl (by rw [hz2]; omega) (by unfold maxLen; omega) hbase ?_; intro w1 hown1 hg1; rw [← HWW.out] at hg1)
  have R0 : RS W w1.heap.size s (w1.alloc (rdo s 0 (.slice (some ⟨w.heap.size + 1, 0, none⟩) 0 s.size))) (0 : Nat) [] := by
    refine ⟨((Below.refl _ _).grown hg1 (Nat.le_refl _) (fun _ h => by cases h)).alloc hg1.size _, hg1.size, _, ?_, World.ownsRow.alloc (by rw [HWW.out, show (w.alloc (.cells #[.int .i64 0, .int .i64 0] 63)).heap.size = w.heap.size + 1 by simp] at hown1; rw [HWW.out, show (w.alloc (.cells #[.int .i64 0, .int .i64 0] 63)).heap.size = w.heap.size + 1 by simp]; exact hown1) _⟩
    exact heap_alloc_new _ _
  have HR0 := Lib.hid R0
  clear R0 hown1 hg1 hbase
  refine (whole_any HR0.out HS.out HL.out HH.out HSh.out HZ.out).mono ?_
  rintro e w4 (⟨t, g1, rfl, p, R4⟩ | ⟨hf, a, t, g1, rfl, R4⟩)
  · have G1 := Lib.hid g1
    have HR4 := Lib.hid R4
    obtain ⟨r1, _, v, h3, h4⟩ := R4
    obtain ⟨A, c, rfl, o1, o2, o3, o4, o5⟩ := own_form h4
    obtain ⟨c0, c1, c2, _⟩ := rd_cells h3
    have hcv := conv_bytes (w := w4) t.length c rfl o4
    have d0 := jcell_old r1 HF.out HF0.out
    have d1 := jcell_old r1 HF.out HF1.out
    have e0 := free_old r1 HF.out HG0.out
    have e1 := free_old r1 HF.out HG1.out
    obtain ⟨S, HSS⟩ : ∃ S, Hid (S = txt t) := ⟨_, rfl⟩
    rw [← HSS.out] at hcv
    have HB2 := Lib.hid (HB.out w4 r1)
    clear g1 r1 h3 h4 o1 o2 o3 o4 o5
    go_wp2_with fail
    refine bodyPost_ret (v := .tuple #[.string S, .agg #[.int .i64 0, .int .i64 0]]) (by simp [results, Tryz.results145, go_sem, *]) rfl ?_
    refine ⟨by rw [G1.out, rval, HSS.out], ?_⟩
    exact (HB2.out.setCell (Nat.le_refl _) _).setCell (Nat.le_refl _) _
  · have G1 := Lib.hid g1
    obtain ⟨r1, _, v, h3, h4⟩ := R4
    obtain ⟨c0, c1, c2, _⟩ := rd_cells h3
    have d0 := jcell_old r1 HF.out HF0.out
    have d1 := jcell_old r1 HF.out HF1.out
    have e0 := free_old r1 HF.out HG0.out
    have e1 := free_old r1 HF.out HG1.out
    have HB2 := Lib.hid (HB.out w4 r1)
    clear g1 r1 h3 h4
    cases hf
    · go_wp2_with fail
      go_region
      all_goals go_wp2_with fail
      all_goals refine bodyPost_ret (v := .tuple #[.string ⟨#[]⟩, .agg #[.int .i64 3, .int .i64 a]]) (by simp [results, Tryz.results145, go_sem, *]) rfl ?_
      all_goals refine ⟨by rw [G1.out, rval]; rfl, ?_⟩
      all_goals exact ((HB2.out.setCell (Nat.le_refl _) _).setCell (Nat.le_refl _) _).drew
    · go_wp2_with fail
      go_region
      all_goals go_wp2_with fail
      all_goals refine bodyPost_ret (v := .tuple #[.string ⟨#[]⟩, .agg #[.int .i64 6, .int .i64 a]]) (by simp [results, Tryz.results145, go_sem, *]) rfl ?_
      all_goals refine ⟨by rw [G1.out, rval]; rfl, ?_⟩
      all_goals exact ((HB2.out.setCell (Nat.le_refl _) _).setCell (Nat.le_refl _) _).drew
end Go.Proofs.YtggeiajbcehkjaaGreatDoor
