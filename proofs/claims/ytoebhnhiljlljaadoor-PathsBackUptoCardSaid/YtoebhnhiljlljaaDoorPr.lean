/- What landed of paths: Text; the law's examples. -/
import Derived.Test.YtoebhnhiljlljaaDoorPq
namespace Go.Proofs.YtoebhnhiljlljaaDoor
open Go.RowKit
namespace Pa
set_option maxRecDepth 100000

theorem txt_len {s : St} (hm : s.may = true) (hp : i64 s.pos) : s.txt.length ≤ 3 * sw s + 30 := by
  have h1 := hide_le s.text
  have h2 := hide_le s.id
  rcases kinds hm with k | k | k
  · rw [txt_key k, List.length_cons]; unfold sw; omega
  · rw [txt_at k, List.length_cons, List.length_append, digs_dec]
    have h9 := Lib.itoa_length_le ((s.pos.toNat : Nat) : Int) (by omega) (by have := hp.2; have := hp.1; omega)
    rw [Lib.itoa_nonneg] at h9
    simp; omega
  · rw [txt_id k, List.length_cons, List.length_append, List.length_cons, List.length_append]; unfold sw; simp; omega
theorem flat_len {L : List St} {K : Nat} (h : ∀ s ∈ L, s.txt.length ≤ K) : (L.flatMap St.txt).length ≤ L.length * K := by
  induction L with
  | nil => simp
  | cons s r ih =>
    have h1 := h s (List.mem_cons_self ..)
    have h2 := ih fun x hx => h x (List.mem_cons_of_mem _ hx)
    rw [List.flatMap_cons, List.length_append, List.length_cons, Nat.succ_mul]; omega
set_option maxHeartbeats 4000000 in
theorem text_any {A : Option Addr} {n c : Nat} {L : List St} (w : World) (h : Sm w A n c L) (hw : ∀ s ∈ L, sw s ≤ 10000000) (hT : P10 w) :
    Calls Tryd.prog 13 #[.slice A n c] w fun e w' => e = .returned (.string (txt (pT L))) ∧ Below w.heap.size w w' := by
  have HS := Lib.hid h
  have HN := Lib.hid h.len
  have HW := Lib.hid hw
  have HT := Lib.hid hT
  have CM := Lib.hid (may_any w h)
  obtain ⟨m, hm⟩ : ∃ m, m = pMay L := ⟨_, rfl⟩
  rw [← hm] at CM
  have HM := Lib.hid hm
  have hn5 : n ≤ 9223372036854775807 := by have := h.cap; unfold maxLen at this; omega
  clear h hw hT hm
  cases m with
  | false =>
    have HE := Lib.hid (show pT L = [] from pT_no HM.out.symm)
    go_enter Tryd.func13, Tryd.ntmps13
    go_wp2_with fail
    refine CM.out.mono ?_
    rintro e w2 ⟨rfl, hb⟩
    go_wp2_with fail
    go_ret
    exact ⟨ret_str (by rw [HE.out]; rfl), hb⟩
  | true =>
    have HA := Lib.hid (pMay_all HM.out.symm)
    by_cases h0 : n = 0
    · subst h0
      have HE := Lib.hid (show pT L = [46] by rw [List.eq_nil_of_length_eq_zero HN.out.symm]; exact pT_nil)
      go_enter Tryd.func13, Tryd.ntmps13
      go_wp2_with fail
      refine CM.out.mono ?_
      rintro e w2 ⟨rfl, hb⟩
      go_wp2_with fail
      go_ret
      exact ⟨ret_str (by rw [HE.out]; rfl), hb⟩
    · have HE := Lib.hid (show pT L = L.flatMap St.txt by
        cases L with
        | nil => exact absurd HN.out h0
        | cons s r => exact pT_cons HM.out.symm)
      have h6 : ((n : Int) == 0) = false := by simp; omega
      go_enter Tryd.func13, Tryd.ntmps13
      go_wp2_with fail
      refine CM.out.mono ?_
      rintro e w1 ⟨rfl, hb⟩
      have HB1 := Lib.hid hb
      obtain ⟨W2, hW2⟩ : ∃ W, W = w1.alloc (.cells #[.pointer none, .slice none 0 0] 44) := ⟨_, rfl⟩
      have HBD := Lib.hid (show Bd w1.heap.size w1.heap.size (fun _ => False) [] W2 from by rw [hW2]; exact (bd_new w1).on (Below.refl _ _) fun k hk => hk.elim)
      have HB2 := Lib.hid (show Below w1.heap.size w1 W2 from by rw [hW2]; exact below_new ..)
      have HLB := Lib.hid (show ∀ k, ((L.take k).flatMap St.txt).length ≤ 50000000000 from fun k => by
        have h1 := flat_len (L := L.take k) (K := 30000030) fun s hs => by
          have hs2 := List.mem_of_mem_take hs
          have := txt_len (List.all_eq_true.1 HA.out.2 s hs2) (HS.out.ok s hs2).p
          have := HW.out s hs2
          omega
        have h2 := HA.out.1
        rw [List.length_take] at h1
        have : min k L.length * 30000030 ≤ 512 * 30000030 := Nat.mul_le_mul_right _ (by omega)
        omega)
      clear hb h0
      go_upto_region 6 with fail
      rw [← hW2]
      obtain ⟨b, hbb⟩ : ∃ b, b = w1.heap.size := ⟨_, rfl⟩
      rw [← hbb] at HBD HB2 ⊢
      have HBB := Lib.hid hbb
      clear hW2 hbb
      go_wp2_with fail
      go_loopw [5, 14] (fun _ i wx => ∃ k : Nat, k ≤ n ∧ i = .int .i64 k ∧ Hid (Bd b b (fun _ => False) ((L.take k).flatMap St.txt) wx ∧ Below b w1 wx)) (fun _ i _ => n - (intOf i).toNat)
      case atStart => exact ⟨0, Nat.zero_le _, rfl, Lib.hid ⟨by rw [List.take_zero]; exact HBD.out, HB2.out⟩⟩
      case round =>
        obtain ⟨k, hk, rfl, HR⟩ := hrel
        have HBX := Lib.hid (show Below w.heap.size w wr from below_tr HB1.out (by rw [← HBB.out]; exact HR.out.2))
        by_cases hlt : k < n
        · obtain ⟨g, o, s, rfl, hg, hs, hok, c0, c1, c2, c3⟩ := HS.out.at_ hlt
          have c0 := (HBX.out.cell (p := ⟨g, o + k * 4, none⟩) hg).trans c0
          have c1 := (HBX.out.cell (p := ⟨g, o + k * 4 + 1, none⟩) hg).trans c1
          have c2 := (HBX.out.cell (p := ⟨g, o + k * 4 + 2, none⟩) hg).trans c2
          have c3 := (HBX.out.cell (p := ⟨g, o + k * 4 + 3, none⟩) hg).trans c3
          have hmem := List.mem_of_getElem? hs
          have CW := Lib.hid (fun (w' : World) (hb : Below w.heap.size w w') => written_any s w' (List.all_eq_true.1 HA.out.2 s hmem) hok.p (HW.out s hmem) (HT.out.up hb))
          have HTX := Lib.hid (show s.txt.length ≤ 50000000 by have := txt_len (List.all_eq_true.1 HA.out.2 s hmem) hok.p; have := HW.out s hmem; omega)
          have HTK := Lib.hid (show (L.take (k + 1)).flatMap St.txt = (L.take k).flatMap St.txt ++ s.txt by rw [List.take_add_one, hs, List.flatMap_append]; simp)
          obtain ⟨W1, hW1⟩ : ∃ W, W = wr.alloc (stO s) := ⟨_, rfl⟩
          have hb1 : Below wr.heap.size wr W1 := by rw [hW1]; exact below_new ..
          have hbx := Lib.hid (show Bx W1 wr.heap.size (.int .u8 s.kind) (.string (txt s.text)) (.string (txt s.id)) (.int .i64 s.pos) from by rw [hW1]; exact Bx.new ..)
          have HB3 := Lib.hid hb1
          go_upto_region 9 with fail
          rw [← hW1]
          obtain ⟨h, hh⟩ : ∃ h, h = wr.heap.size := ⟨_, rfl⟩
          rw [← hh] at hbx ⊢
          obtain ⟨x0, x1, x2, x3⟩ : W1.cell? ⟨h, 0, none⟩ = some (.int .u8 s.kind) ∧ W1.cell? ⟨h, 1, none⟩ = some (.string (txt s.text)) ∧ W1.cell? ⟨h, 2, none⟩ = some (.string (txt s.id)) ∧ W1.cell? ⟨h, 3, none⟩ = some (.int .i64 s.pos) := ⟨hbx.out.c0, hbx.out.c1, hbx.out.c2, hbx.out.c3⟩
          clear hW1 hb1 hbx hh c0 c1 c2 c3 hs hmem hok
          go_wp2_with fail
          refine (CW.out _ (below_tr HBX.out HB3.out)).mono ?_
          rintro e w3 ⟨rfl, hb3⟩
          have HBB2 := Lib.hid (below_tr HB3.out hb3)
          have HBD3 := Lib.hid (show Bd b b (fun _ => False) ((L.take k).flatMap St.txt) w3 from HR.out.1.on HBB2.out fun k hk => hk.elim)
          have HLT := Lib.hid (show b ≤ w3.heap.size from by obtain ⟨_, _, _, _, hbk, _⟩ := HBD3.out; exact Nat.le_of_lt (Array.getElem?_eq_some_iff.1 hbk).1)
          have HBL3 := Lib.hid (show Below b w1 w3 from HR.out.2.trans (HBB2.out.mono (by obtain ⟨_, _, _, _, hbk, _⟩ := HR.out.1; exact Nat.le_of_lt (Array.getElem?_eq_some_iff.1 hbk).1)))
          have CS := Lib.hid (wstr_any w3 HBD3.out (S := txt s.txt) rfl (by have := HLB.out k; have := HTX.out; omega) HLT.out)
          clear hb3 x0 x1 x2 x3
          go_wp2_with fail
          refine CS.out.mono ?_
          rintro e w4 ⟨rfl, hbd, hbl⟩
          have HN4 := Lib.hid (show Bd b b (fun _ => False) ((L.take (k + 1)).flatMap St.txt) w4 ∧ Below b w1 w4 from ⟨by rw [HTK.out]; exact hbd, HBL3.out.trans hbl⟩)
          clear hbd hbl
          go_wp2_with fail
          go_roundw
          case rel => exact ⟨k + 1, by omega, by go_num, HN4⟩
          case measure => simp [intOf] <;> omega
        · obtain rfl : k = n := by omega
          have HLT := Lib.hid (show b ≤ wr.heap.size from by obtain ⟨_, _, _, _, hbk, _⟩ := HR.out.1; exact Nat.le_of_lt (Array.getElem?_eq_some_iff.1 hbk).1)
          have CS := Lib.hid (string_any wr HR.out.1 HLT.out)
          rw [List.take_of_length_le (by rw [HN.out]; exact Nat.le_refl _), ← HE.out] at CS
          clear hlt
          go_wp2_with fail
          refine CS.out.mono ?_
          rintro e w2 ⟨rfl, hb⟩
          go_wp2_with fail
          go_ret
          refine ⟨rfl, HBX.out.trans (hb.mono ?_)⟩
          rw [HBB.out]; exact HB1.out.size
end Pa
end Go.Proofs.YtoebhnhiljlljaaDoor
