/- The document's order of paths. -/
import Derived.Test.YtoebhnhiljlljaaDoorPh
namespace Go.Proofs.YtoebhnhiljlljaaDoor
open Go.RowKit
namespace Pa
set_option maxRecDepth 100000

theorem bl_txt {a b : Bs} {S U : ByteArray} (hS : S = txt a) (hU : U = txt b) : Op.bytesLess S.toList U.toList = bl a b := by
  rw [ByteArray.toList_eq, ByteArray.toList_eq, hS, hU]
  simp [txt]
theorem cS_less {x y : St} (h : x ≠ y) : oN (cS x y) = if (if x.kind = y.kind then (if x.text = y.text then (if x.pos = y.pos then bl x.id y.id else decide (x.pos < y.pos)) else bl x.text y.text) else decide (x.kind < y.kind)) = true then -1 else 1 := by
  have hb : ∀ a b : Bs, a ≠ b → bcmp a b = if bl a b = true then .lt else .gt := fun a b hab => by
    unfold bcmp
    cases h1 : bl a b with
    | true => rfl
    | false =>
      cases h2 : bl b a with
      | true => simp
      | false => exact absurd (bl_tot h1 h2) hab
  unfold cS
  by_cases h1 : x.kind = y.kind
  · rw [if_pos h1, h1, ncmp_self, show ∀ o, Ordering.eq.then o = o from fun o => rfl]
    by_cases h2 : x.text = y.text
    · rw [if_pos h2, h2, bcmp_self, show ∀ o, Ordering.eq.then o = o from fun o => rfl]
      by_cases h3 : x.pos = y.pos
      · rw [if_pos h3, h3, icmp_self, show ∀ o, Ordering.eq.then o = o from fun o => rfl, hb _ _ (fun e => h (st_ext h1 h2 h3 e))]
        split <;> rfl
      · rw [if_neg h3]
        unfold icmp
        by_cases h4 : x.pos < y.pos
        · simp [h4, oN]
        · rw [if_neg h4, if_pos (by omega)]; simp [h4, oN]
    · rw [if_neg h2, hb _ _ h2]
      cases bl x.text y.text <;> rfl
  · rw [if_neg h1]
    unfold ncmp
    by_cases h4 : x.kind < y.kind
    · simp [h4, oN]
    · rw [if_neg h4, if_pos (by omega)]; simp [h4, oN]
theorem pC_at {a b : List St} {n : Nat} {x y : St} (hx : a[n]? = some x) (hy : b[n]? = some y) (ht : a.take n = b.take n) (h : x ≠ y) : pC a b = cS x y := by
  rw [pC_shr, (shr_step hx hy ht).2 h, hx, hy]
theorem pC_end {a b : List St} {n : Nat} (h : a.length ≤ n ∨ b.length ≤ n) (ht : a.take n = b.take n) (hn : n ≤ a.length) (hm : n ≤ b.length) : pC a b = ncmp a.length b.length := by
  rw [pC_shr, shr_end h ht hn hm]
  rcases h with h | h
  · rw [List.getElem?_eq_none h]
  · rw [List.getElem?_eq_none (l := b) h]
    cases a[n]? <;> rfl
set_option maxHeartbeats 8000000 in
theorem rcmp_any {A B : Option Addr} {n m c d : Nat} {L M : List St} (w : World) (h : Sm w A n c L) (h' : Sm w B m d M) :
    Calls Tryd.prog 19 #[.slice A n c, .slice B m d] w fun e w' => e = .returned (.int .i64 (oN (pC L M))) ∧ Below w.heap.size w w' := by
  have HS := Lib.hid h
  have HT := Lib.hid h'
  have HN := Lib.hid h.len
  have HM := Lib.hid h'.len
  have hn5 : n ≤ 9223372036854775807 := by have := h.cap; unfold maxLen at this; omega
  have hm5 : m ≤ 9223372036854775807 := by have := h'.cap; unfold maxLen at this; omega
  have GN := guard_no
  obtain ⟨R, hR⟩ : ∃ R, R = oN (pC L M) := ⟨_, rfl⟩
  rw [← hR]
  have HR := Lib.hid hR
  clear h h' hR
  go_enter Tryd.func19, Tryd.ntmps19
  go_wp2_with fail
  go_loopw [5, 6, 7, 8] (fun b _ _ _ wx => Hid (Below w.heap.size w wx) ∧ ∃ i : Nat, i ≤ n ∧ i ≤ m ∧ b = .int .i64 i ∧ Hid (L.take i = M.take i)) (fun b _ _ _ _ => n - (intOf b).toNat)
  case atStart => exact ⟨Lib.hid (Below.refl _ _), 0, Nat.zero_le _, Nat.zero_le _, rfl, Lib.hid (by simp)⟩
  case round =>
    obtain ⟨HBR, i, hi, hj, rfl, HQ⟩ := hrel
    by_cases hlt : i < n
    · by_cases hlt2 : i < m
      · obtain ⟨g, o, s, rfl, hg, hs, _, c0, c1, c2, c3⟩ := HS.out.at_ hlt
        obtain ⟨g', o', s', rfl, hg', hs', _, b0, b1, b2, b3⟩ := HT.out.at_ hlt2
        have c0 := (HBR.out.cell (p := ⟨g, o + i * 4, none⟩) hg).trans c0
        have c1 := (HBR.out.cell (p := ⟨g, o + i * 4 + 1, none⟩) hg).trans c1
        have c2 := (HBR.out.cell (p := ⟨g, o + i * 4 + 2, none⟩) hg).trans c2
        have c3 := (HBR.out.cell (p := ⟨g, o + i * 4 + 3, none⟩) hg).trans c3
        have b0 := (HBR.out.cell (p := ⟨g', o' + i * 4, none⟩) hg').trans b0
        have b1 := (HBR.out.cell (p := ⟨g', o' + i * 4 + 1, none⟩) hg').trans b1
        have b2 := (HBR.out.cell (p := ⟨g', o' + i * 4 + 2, none⟩) hg').trans b2
        have b3 := (HBR.out.cell (p := ⟨g', o' + i * 4 + 3, none⟩) hg').trans b3
        have NE := step_eql s s'
        have AT := pC_at hs hs' HQ.out
        obtain ⟨q, hq⟩ : ∃ q, q = decide (s = s') := ⟨_, rfl⟩
        rw [← hq] at NE
        obtain ⟨W1, hW1⟩ : ∃ W, W = wr.alloc (stO s) := ⟨_, rfl⟩
        obtain ⟨W2, hW2⟩ : ∃ W, W = W1.alloc (stO s') := ⟨_, rfl⟩
        have hb1 : Below wr.heap.size wr W1 := by rw [hW1]; exact below_new ..
        have hb2 : Below W1.heap.size W1 W2 := by rw [hW2]; exact below_new ..
        have hbx := Lib.hid (show Bx W1 wr.heap.size (.int .u8 s.kind) (.string (txt s.text)) (.string (txt s.id)) (.int .i64 s.pos) from by rw [hW1]; exact Bx.new ..)
        have HX := Lib.hid (hbx.out.on hb2)
        have HY := Lib.hid (show Bx W2 W1.heap.size (.int .u8 s'.kind) (.string (txt s'.text)) (.string (txt s'.id)) (.int .i64 s'.pos) from by rw [hW2]; exact Bx.new ..)
        have hsz : wr.heap.size + 1 = W1.heap.size := by rw [hW1]; show _ = (wr.heap.push _).size; rw [Array.size_push]
        have hg1 : g' < wr.heap.size := Nat.lt_of_lt_of_le hg' HBR.out.size
        have e0 := (hb1.cell (p := ⟨g', o' + i * 4, none⟩) hg1).trans b0
        have e1 := (hb1.cell (p := ⟨g', o' + i * 4 + 1, none⟩) hg1).trans b1
        have e2 := (hb1.cell (p := ⟨g', o' + i * 4 + 2, none⟩) hg1).trans b2
        have e3 := (hb1.cell (p := ⟨g', o' + i * 4 + 3, none⟩) hg1).trans b3
        have HB2 := Lib.hid (below_tr HBR.out (below_tr hb1 hb2))
        have HW1 := Lib.hid hW1
        have HW2 := Lib.hid hW2
        have HLE := Lib.hid (fun hne => (congrArg oN (AT hne)).trans (cS_less hne))
        clear hb1 hb2 b0 b1 b2 b3 AT hbx hW1 hW2
        go_upto_region 5 with fail
        rw [← HW1.out]
        go_upto_region 6 with fail
        rw [← HW2.out]
        obtain ⟨h2, hh2⟩ : ∃ h2, h2 = W1.heap.size := ⟨_, rfl⟩
        rw [← hh2] at HY ⊢
        obtain ⟨h, hh⟩ : ∃ h, h = wr.heap.size := ⟨_, rfl⟩
        rw [← hh] at HX ⊢
        clear HW1 HW2 hh hh2 hsz c0 c1 c2 c3 e0 e1 e2 e3
        obtain ⟨x0, x1, x2, x3⟩ : W2.cell? ⟨h, 0, none⟩ = some (.int .u8 s.kind) ∧ W2.cell? ⟨h, 1, none⟩ = some (.string (txt s.text)) ∧ W2.cell? ⟨h, 2, none⟩ = some (.string (txt s.id)) ∧ W2.cell? ⟨h, 3, none⟩ = some (.int .i64 s.pos) := ⟨HX.out.c0, HX.out.c1, HX.out.c2, HX.out.c3⟩
        obtain ⟨y0, y1, y2, y3⟩ : W2.cell? ⟨h2, 0, none⟩ = some (.int .u8 s'.kind) ∧ W2.cell? ⟨h2, 1, none⟩ = some (.string (txt s'.text)) ∧ W2.cell? ⟨h2, 2, none⟩ = some (.string (txt s'.id)) ∧ W2.cell? ⟨h2, 3, none⟩ = some (.int .i64 s'.pos) := ⟨HY.out.c0, HY.out.c1, HY.out.c2, HY.out.c3⟩
        cases q with
        | true =>
          have HE := Lib.hid (show L.take (i + 1) = M.take (i + 1) by rw [List.take_add_one, List.take_add_one, hs, hs', HQ.out, of_decide_eq_true hq.symm])
          clear hs hs' hq HQ
          go_wp2_with fail
          go_roundw
          case rel => exact ⟨HB2, i + 1, by omega, by omega, by go_num, HE⟩
          case measure => simp [intOf] <;> omega
        | false =>
          have hne : s ≠ s' := of_decide_eq_false hq.symm
          have hRR := (HR.out).trans (HLE.out hne)
          have t1 : ((s.kind : Int) == (s'.kind : Int)) = decide (s.kind = s'.kind) := by rw [Bool.eq_iff_iff]; simp; omega
          have t2 : ((txt s.text).toList == (txt s'.text).toList) = decide (s.text = s'.text) := by rw [Bool.eq_iff_iff]; simp [txt_list]
          have t3 : (s.pos == s'.pos) = decide (s.pos = s'.pos) := by rw [Bool.eq_iff_iff]; simp
          have l1 : decide ((s.kind : Int) < (s'.kind : Int)) = decide (s.kind < s'.kind) := by rw [Bool.eq_iff_iff]; simp
          have l2 := bl_txt (a := s.text) (b := s'.text) rfl rfl
          have l4 := bl_txt (a := s.id) (b := s'.id) rfl rfl
          clear hs hs' hq HQ HLE
          by_cases k1 : s.kind = s'.kind
          · by_cases k2 : s.text = s'.text
            · by_cases k3 : s.pos = s'.pos
              · rw [if_pos k1, if_pos k2, if_pos k3] at hRR
                rw [show decide (s.kind = s'.kind) = true from by simp [k1]] at t1
                rw [show decide (s.text = s'.text) = true from by simp [k2]] at t2
                rw [show decide (s.pos = s'.pos) = true from by simp [k3]] at t3
                obtain ⟨r, hr⟩ : ∃ r, r = bl s.id s'.id := ⟨_, rfl⟩
                rw [← hr] at hRR l4
                have HRR := Lib.hid hRR
                clear hRR hr k1 k2 k3 hne l1 l2
                cases r
                · have HE := Lib.hid (show R = 1 from HRR.out)
                  go_wp2_with fail
                  go_ret
                  exact ⟨ret_int HE.out.symm, HB2.out⟩
                · have HE := Lib.hid (show R = -1 from HRR.out)
                  go_wp2_with fail
                  go_ret
                  exact ⟨ret_int HE.out.symm, HB2.out⟩
              · rw [if_pos k1, if_pos k2, if_neg k3] at hRR
                rw [show decide (s.kind = s'.kind) = true from by simp [k1]] at t1
                rw [show decide (s.text = s'.text) = true from by simp [k2]] at t2
                rw [show decide (s.pos = s'.pos) = false from by simp [k3]] at t3
                obtain ⟨r, hr⟩ : ∃ r, r = decide (s.pos < s'.pos) := ⟨_, rfl⟩
                rw [← hr] at hRR
                have l3 := hr.symm
                have HRR := Lib.hid hRR
                clear hRR hr k1 k2 k3 hne l1 l2 l4
                cases r
                · have HE := Lib.hid (show R = 1 from HRR.out)
                  have l5 : ¬ s.pos < s'.pos := by simpa using l3
                  go_wp2_with fail
                  go_ret
                  exact ⟨ret_int HE.out.symm, HB2.out⟩
                · have HE := Lib.hid (show R = -1 from HRR.out)
                  have l5 : s.pos < s'.pos := by simpa using l3
                  go_wp2_with fail
                  go_ret
                  exact ⟨ret_int HE.out.symm, HB2.out⟩
            · by_cases k3 : s.pos = s'.pos
              · rw [if_pos k1, if_neg k2] at hRR
                rw [show decide (s.kind = s'.kind) = true from by simp [k1]] at t1
                rw [show decide (s.text = s'.text) = false from by simp [k2]] at t2
                rw [show decide (s.pos = s'.pos) = true from by simp [k3]] at t3
                obtain ⟨r, hr⟩ : ∃ r, r = bl s.text s'.text := ⟨_, rfl⟩
                rw [← hr] at hRR l2
                have HRR := Lib.hid hRR
                clear hRR hr k1 k2 k3 hne l1 l4
                cases r
                · have HE := Lib.hid (show R = 1 from HRR.out)
                  go_wp2_with fail
                  go_ret
                  exact ⟨ret_int HE.out.symm, HB2.out⟩
                · have HE := Lib.hid (show R = -1 from HRR.out)
                  go_wp2_with fail
                  go_ret
                  exact ⟨ret_int HE.out.symm, HB2.out⟩
              · rw [if_pos k1, if_neg k2] at hRR
                rw [show decide (s.kind = s'.kind) = true from by simp [k1]] at t1
                rw [show decide (s.text = s'.text) = false from by simp [k2]] at t2
                rw [show decide (s.pos = s'.pos) = false from by simp [k3]] at t3
                obtain ⟨r, hr⟩ : ∃ r, r = bl s.text s'.text := ⟨_, rfl⟩
                rw [← hr] at hRR l2
                have HRR := Lib.hid hRR
                clear hRR hr k1 k2 k3 hne l1 l4
                cases r
                · have HE := Lib.hid (show R = 1 from HRR.out)
                  go_wp2_with fail
                  go_ret
                  exact ⟨ret_int HE.out.symm, HB2.out⟩
                · have HE := Lib.hid (show R = -1 from HRR.out)
                  go_wp2_with fail
                  go_ret
                  exact ⟨ret_int HE.out.symm, HB2.out⟩
          · by_cases k2 : s.text = s'.text
            · by_cases k3 : s.pos = s'.pos
              · rw [if_neg k1] at hRR
                rw [show decide (s.kind = s'.kind) = false from by simp [k1]] at t1
                rw [show decide (s.text = s'.text) = true from by simp [k2]] at t2
                rw [show decide (s.pos = s'.pos) = true from by simp [k3]] at t3
                obtain ⟨r, hr⟩ : ∃ r, r = decide (s.kind < s'.kind) := ⟨_, rfl⟩
                rw [← hr] at hRR l1
                have HRR := Lib.hid hRR
                clear hRR hr k1 k2 k3 hne l2 l4
                cases r
                · have HE := Lib.hid (show R = 1 from HRR.out)
                  have l5 : ¬ (s.kind : Int) < (s'.kind : Int) := by simpa using l1
                  go_wp2_with fail
                  go_ret
                  exact ⟨ret_int HE.out.symm, HB2.out⟩
                · have HE := Lib.hid (show R = -1 from HRR.out)
                  have l5 : (s.kind : Int) < (s'.kind : Int) := by simpa using l1
                  go_wp2_with fail
                  go_ret
                  exact ⟨ret_int HE.out.symm, HB2.out⟩
              · rw [if_neg k1] at hRR
                rw [show decide (s.kind = s'.kind) = false from by simp [k1]] at t1
                rw [show decide (s.text = s'.text) = true from by simp [k2]] at t2
                rw [show decide (s.pos = s'.pos) = false from by simp [k3]] at t3
                obtain ⟨r, hr⟩ : ∃ r, r = decide (s.kind < s'.kind) := ⟨_, rfl⟩
                rw [← hr] at hRR l1
                have HRR := Lib.hid hRR
                clear hRR hr k1 k2 k3 hne l2 l4
                cases r
                · have HE := Lib.hid (show R = 1 from HRR.out)
                  have l5 : ¬ (s.kind : Int) < (s'.kind : Int) := by simpa using l1
                  go_wp2_with fail
                  go_ret
                  exact ⟨ret_int HE.out.symm, HB2.out⟩
                · have HE := Lib.hid (show R = -1 from HRR.out)
                  have l5 : (s.kind : Int) < (s'.kind : Int) := by simpa using l1
                  go_wp2_with fail
                  go_ret
                  exact ⟨ret_int HE.out.symm, HB2.out⟩
            · by_cases k3 : s.pos = s'.pos
              · rw [if_neg k1] at hRR
                rw [show decide (s.kind = s'.kind) = false from by simp [k1]] at t1
                rw [show decide (s.text = s'.text) = false from by simp [k2]] at t2
                rw [show decide (s.pos = s'.pos) = true from by simp [k3]] at t3
                obtain ⟨r, hr⟩ : ∃ r, r = decide (s.kind < s'.kind) := ⟨_, rfl⟩
                rw [← hr] at hRR l1
                have HRR := Lib.hid hRR
                clear hRR hr k1 k2 k3 hne l2 l4
                cases r
                · have HE := Lib.hid (show R = 1 from HRR.out)
                  have l5 : ¬ (s.kind : Int) < (s'.kind : Int) := by simpa using l1
                  go_wp2_with fail
                  go_ret
                  exact ⟨ret_int HE.out.symm, HB2.out⟩
                · have HE := Lib.hid (show R = -1 from HRR.out)
                  have l5 : (s.kind : Int) < (s'.kind : Int) := by simpa using l1
                  go_wp2_with fail
                  go_ret
                  exact ⟨ret_int HE.out.symm, HB2.out⟩
              · rw [if_neg k1] at hRR
                rw [show decide (s.kind = s'.kind) = false from by simp [k1]] at t1
                rw [show decide (s.text = s'.text) = false from by simp [k2]] at t2
                rw [show decide (s.pos = s'.pos) = false from by simp [k3]] at t3
                obtain ⟨r, hr⟩ : ∃ r, r = decide (s.kind < s'.kind) := ⟨_, rfl⟩
                rw [← hr] at hRR l1
                have HRR := Lib.hid hRR
                clear hRR hr k1 k2 k3 hne l2 l4
                cases r
                · have HE := Lib.hid (show R = 1 from HRR.out)
                  have l5 : ¬ (s.kind : Int) < (s'.kind : Int) := by simpa using l1
                  go_wp2_with fail
                  go_ret
                  exact ⟨ret_int HE.out.symm, HB2.out⟩
                · have HE := Lib.hid (show R = -1 from HRR.out)
                  have l5 : (s.kind : Int) < (s'.kind : Int) := by simpa using l1
                  go_wp2_with fail
                  go_ret
                  exact ⟨ret_int HE.out.symm, HB2.out⟩
      · have HE := Lib.hid (show R = 1 by rw [HR.out, pC_end (.inr (by rw [← HM.out]; omega)) HQ.out (by rw [← HN.out]; omega) (by rw [← HM.out]; omega), ncmp, if_neg (by rw [← HM.out, ← HN.out]; omega), if_pos (by rw [← HM.out, ← HN.out]; omega)]; rfl)
        have a1 : ¬ (n : Int) < m := by omega
        have a2 : (m : Int) < n := by omega
        go_wp2_with fail
        go_ret
        exact ⟨ret_int HE.out.symm, HBR.out⟩
    · obtain rfl : i = n := by omega
      by_cases hm : i < m
      · have HE := Lib.hid (show R = -1 by rw [HR.out, pC_end (.inl (by rw [← HN.out]; omega)) HQ.out (by rw [← HN.out]; omega) (by rw [← HM.out]; omega), ncmp, if_pos (by rw [← HM.out, ← HN.out]; omega)]; rfl)
        go_wp2_with fail
        go_ret
        exact ⟨ret_int HE.out.symm, HBR.out⟩
      · have HE := Lib.hid (show R = 0 by rw [HR.out, pC_end (.inl (by rw [← HN.out]; omega)) HQ.out (by rw [← HN.out]; omega) (by rw [← HM.out]; omega), ncmp, if_neg (by rw [← HM.out, ← HN.out]; omega), if_neg (by rw [← HM.out, ← HN.out]; omega)]; rfl)
        have a2 : ¬ (m : Int) < i := by omega
        go_wp2_with fail
        go_ret
        exact ⟨ret_int HE.out.symm, HBR.out⟩
end Pa
end Go.Proofs.YtoebhnhiljlljaaDoor
