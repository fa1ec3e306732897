/- The law JtokensJoin, walked: it answers true, and nothing that was there is turned. -/
import Derived.Test.YtfnahondlcbjnaaWc
import Derived.Test.YtfnahondlcbjnaaApp
namespace Go.Proofs.Ytfnahondlcbjnaa
open Go.RowKit
namespace Jk

section
variable {la lb : List UInt8} {A A' : Option Addr} {n c n' c' : Nat} {w : World} {mk : Int}
theorem joinl_long1 (ha : ArgB w A n c la) (h : 2000 < n) :
    Calls Try.prog 5 #[.slice A n c, .slice A' n' c', .int .u8 mk] w fun e w' => e = .returned (.bool true) ∧ Below w.heap.size w w' := by
  obtain ⟨_, h1, h2, _⟩ := ha
  unfold maxLen at h2
  have h' : (2000 : Int) < n := by omega
  go_enter Try.func5, Try.ntmps5
  go_wp2_with (go_at_call 6; refine (lives_any _).mono ?_; rintro e w' ⟨rfl, hb⟩)
  go_ret
  exact ⟨rfl, hb⟩
theorem joinl_long2 (ha : ArgB w A n c la) (hb : ArgB w A' n' c' lb) (h : n ≤ 2000) (h3 : 2000 < n') :
    Calls Try.prog 5 #[.slice A n c, .slice A' n' c', .int .u8 mk] w fun e w' => e = .returned (.bool true) ∧ Below w.heap.size w w' := by
  obtain ⟨_, h1, h2, _⟩ := ha
  obtain ⟨_, h4, h5, _⟩ := hb
  unfold maxLen at h2 h5
  have h' : ¬ (2000 : Int) < n := by omega
  have h3' : (2000 : Int) < n' := by omega
  go_enter Try.func5, Try.ntmps5
  go_wp2_with (go_at_call 6; refine (lives_any _).mono ?_; rintro e w' ⟨rfl, hb⟩)
  go_ret
  exact ⟨rfl, hb⟩
/-- The six marks. -/
def mks : List UInt8 := [123, 125, 91, 93, 44, 58]
theorem mks_mrk {k : Nat} (h : k < 6) : mrk ((mks.getD k 0).toNat : Int) = true := by
  match k, h with
  | 0, _ => rfl
  | 1, _ => rfl
  | 2, _ => rfl
  | 3, _ => rfl
  | 4, _ => rfl
  | 5, _ => rfl
theorem jn_lt {X Y : List Tok} {t : Tok} {f : Tok → Tok} {i : Nat} (h : i < X.length) : (X ++ t :: Y.map f)[i]? = X[i]? := List.getElem?_append_left h
theorem jn_eq {X Y : List Tok} {t : Tok} {f : Tok → Tok} : (X ++ t :: Y.map f)[X.length]? = some t := by
  rw [List.getElem?_append_right (Nat.le_refl _), Nat.sub_self]; rfl
theorem jn_gt {X Y : List Tok} {t : Tok} {f : Tok → Tok} {j : Nat} : (X ++ t :: Y.map f)[X.length + 1 + j]? = (Y[j]?).map f := by
  rw [List.getElem?_append_right (by omega), show X.length + 1 + j - X.length = j + 1 by omega, List.getElem?_cons_succ, List.getElem?_map]
theorem tks_le {l : List UInt8} {a : Nat} : ∀ (m p : Nat), l.length - p ≤ m → p ≤ l.length → (tks l p).2 = some a → a ≤ l.length
  | m, p, hm, hp, h => by
    by_cases hl : p < l.length
    · cases hx : nx (l.drop p) with
      | bad n =>
        have hn := nx_bad hx
        rw [List.length_drop] at hn
        rw [tks_bad hl hx] at h
        injection h with h
        omega
      | tok k n =>
        have ht := tk_of hx
        have hn := tk_len ht
        rw [List.length_drop] at hn
        rw [tks_tok ht] at h
        cases m with
        | zero => omega
        | succ m => exact tks_le m (p + n) (by omega) (by omega) h
    · rw [tks_end (by omega)] at h; cases h
theorem tks_in {l : List UInt8} : ∀ (m i j k p q : Nat), l.length - i ≤ m → (tks l i).1[j]? = some (k, p, q) → p ≤ l.length ∧ q ≤ l.length
  | m, i, j, k, p, q, hm, h => by
    by_cases hl : i < l.length
    · cases hx : nx (l.drop i) with
      | bad n => rw [tks_bad hl hx] at h; simp at h
      | tok k' n =>
        have ht := tk_of hx
        have hn := tk_len ht
        rw [List.length_drop] at hn
        rw [tks_tok ht] at h
        cases j with
        | zero =>
          simp only [List.getElem?_cons_zero, Option.some.injEq, Prod.mk.injEq] at h
          omega
        | succ j =>
          rw [List.getElem?_cons_succ] at h
          cases m with
          | zero => omega
          | succ m => exact tks_in m (i + n) j k p q (by omega) h
    · rw [tks_end (by omega)] at h; simp at h
theorem app_two {V w3 w4 : World} {o : Obj} {v3 : Value} {k : Nat} {xs : List Value} (hg3 : V.grownBy w3 (Value.slice none 0 0).ownBlock) (hown3 : w3.ownsRow V.heap.size 5 1 v3 k xs) (hg4 : (w3.alloc o).grownBy w4 v3.ownBlock) : Below V.heap.size V w4 := by
  have h1 : Below V.heap.size V w3 := (Below.refl _ _).grown hg3 (Nat.le_refl _) (fun _ h => by cases h)
  exact (h1.alloc h1.size o).grown hg4 (by rw [alloc_size]; have := h1.size; omega) (fun k h => (hown3.lt k h).1)
theorem app_three {V w3 w4 w5 : World} {o : Obj} {v3 v4 v5 : Value} {k j m : Nat} {xs ys : List Value} {la lb : List UInt8} {cm : UInt8} (hg3 : V.grownBy w3 (Value.slice none 0 0).ownBlock) (hown3 : w3.ownsRow V.heap.size 5 1 v3 k xs) (hg4 : (w3.alloc o).grownBy w4 v3.ownBlock)
    (hown4 : w4.ownsRow V.heap.size 5 1 v4 j ys) (hg5 : w4.grownBy w5 v4.ownBlock) (hown5 : w5.ownsRow V.heap.size 5 1 v5 m ([] ++ bytV la ++ bytV [cm] ++ bytV lb)) :
    Below V.heap.size V w5 ∧ ∃ A c, v5 = .slice A m c ∧ m ≤ c ∧ c ≤ maxLen ∧ m = (la ++ cm :: lb).length ∧ Byt w5 w5.heap.size A (la ++ cm :: lb) := by
  have h2 := app_two hg3 hown3 hg4
  refine ⟨h2.grown hg5 h2.size (fun k h => (hown4.lt k h).1), ?_⟩
  have e : [] ++ bytV la ++ bytV [cm] ++ bytV lb = bytV (la ++ cm :: lb) := by simp [bytV]
  rw [e] at hown5
  obtain ⟨A, c, e1, e2, e3, e4, e5, _⟩ := own_form hown5
  exact ⟨A, c, e1, e2, e3, e4, e5⟩
set_option maxHeartbeats 16000000 in
set_option maxRecDepth 100000 in
theorem joinl_short (ha : ArgB w A n c la) (hb : ArgB w A' n' c' lb) (m0 : 0 ≤ mk) (_m1 : mk ≤ 255) (h : n ≤ 2000) (h3 : n' ≤ 2000) :
    Calls Try.prog 5 #[.slice A n c, .slice A' n' c', .int .u8 mk] w fun e w' => e = .returned (.bool true) ∧ Below w.heap.size w w' := by
  obtain ⟨hn, hnc, hcm, hA, hnil⟩ := ha
  obtain ⟨hn', hnc', hcm', hA', hnil'⟩ := hb
  have h' : ¬ (2000 : Int) < n := by omega
  have h3' : ¬ (2000 : Int) < n' := by omega
  have Hn := Lib.hid hn
  have Hn' := Lib.hid hn'
  have HA := Lib.hid hA
  have HA' := Lib.hid hA'
  have Hnil := Lib.hid hnil
  have Hnil' := Lib.hid hnil'
  have HCs := Lib.hid (And.intro (And.intro hnc hcm) (And.intro hnc' hcm'))
  have hcm1 := hcm
  have hcm2 := hcm'
  unfold maxLen at hcm1 hcm2
  obtain ⟨km, hkm⟩ : ∃ k : Nat, mk % 6 = k := ⟨(mk % 6).toNat, by omega⟩
  have hk6 : km < 6 := by omega
  have ht6 : mk.tmod 6 = km := by rw [Int.tmod_eq_emod_of_nonneg m0]; exact hkm
  obtain ⟨cm, hcmk⟩ : ∃ x, x = mks.getD km 0 := ⟨_, rfl⟩
  have HMR := Lib.hid (show mrk (cm.toNat : Int) = true by rw [hcmk]; exact mks_mrk hk6)
  have HCM := Lib.hid hcmk
  obtain ⟨cc, aa, hft, hcase⟩ := ftV_of (tks la 0).2
  obtain ⟨dd, bb, hgt, hcase2⟩ := ftV_of (tks lb 0).2
  have HFT := Lib.hid hft
  have HC := Lib.hid hcase
  have HGT := Lib.hid hgt
  have HD := Lib.hid hcase2
  clear hn hn' hA hA' hnil hnil' hcm hcm' hcmk hft hcase hgt hcase2
  have kc := fun (w : World) (C : Array Value) (n c : Nat) => Lib.run_convert_bytes_const (P := Try.prog) w 22 5 C n c Try.underlying22 Try.underlying5
  obtain ⟨i0, hi, hz0, hz1, hz2⟩ := info_parts (show (Try.prog.info? 5).map (fun i => (i.zero, i.size, i.bytes)) = some (some (.int .u8 0), 1, 1) by kernel_rfl)
  go_enter Try.func5, Try.ntmps5
  go_upto_region 3 with fail
  go_cut [7] from 27 to 32 (fun v wx => v = .int .u8 (cm.toNat : Int) ∧ Hid (Below w.heap.size w wx))
  case first =>
    have key : km = 0 ∨ km = 1 ∨ km = 2 ∨ km = 3 ∨ km = 4 ∨ km = 5 := by omega
    rcases key with rfl | rfl | rfl | rfl | rfl | rfl
    · have kl : (w.alloc (.cells #[.int .u8 123, .int .u8 125, .int .u8 91, .int .u8 93, .int .u8 44, .int .u8 58] 5 (6, 7))).cell? ⟨w.heap.size, 0, none⟩ = some (.int .u8 123) := (cell_of_row _ _ _ _ _ _ (heap_alloc_new w _)).trans rfl
      go_wp2_with fail
      go_meet
      exact ⟨by rw [HCM.out]; rfl, Lib.hid ((Below.refl _ _).alloc (Nat.le_refl _) _)⟩
    · have kl : (w.alloc (.cells #[.int .u8 123, .int .u8 125, .int .u8 91, .int .u8 93, .int .u8 44, .int .u8 58] 5 (6, 7))).cell? ⟨w.heap.size, 1, none⟩ = some (.int .u8 125) := (cell_of_row _ _ _ _ _ _ (heap_alloc_new w _)).trans rfl
      go_wp2_with fail
      go_meet
      exact ⟨by rw [HCM.out]; rfl, Lib.hid ((Below.refl _ _).alloc (Nat.le_refl _) _)⟩
    · have kl : (w.alloc (.cells #[.int .u8 123, .int .u8 125, .int .u8 91, .int .u8 93, .int .u8 44, .int .u8 58] 5 (6, 7))).cell? ⟨w.heap.size, 2, none⟩ = some (.int .u8 91) := (cell_of_row _ _ _ _ _ _ (heap_alloc_new w _)).trans rfl
      go_wp2_with fail
      go_meet
      exact ⟨by rw [HCM.out]; rfl, Lib.hid ((Below.refl _ _).alloc (Nat.le_refl _) _)⟩
    · have kl : (w.alloc (.cells #[.int .u8 123, .int .u8 125, .int .u8 91, .int .u8 93, .int .u8 44, .int .u8 58] 5 (6, 7))).cell? ⟨w.heap.size, 3, none⟩ = some (.int .u8 93) := (cell_of_row _ _ _ _ _ _ (heap_alloc_new w _)).trans rfl
      go_wp2_with fail
      go_meet
      exact ⟨by rw [HCM.out]; rfl, Lib.hid ((Below.refl _ _).alloc (Nat.le_refl _) _)⟩
    · have kl : (w.alloc (.cells #[.int .u8 123, .int .u8 125, .int .u8 91, .int .u8 93, .int .u8 44, .int .u8 58] 5 (6, 7))).cell? ⟨w.heap.size, 4, none⟩ = some (.int .u8 44) := (cell_of_row _ _ _ _ _ _ (heap_alloc_new w _)).trans rfl
      go_wp2_with fail
      go_meet
      exact ⟨by rw [HCM.out]; rfl, Lib.hid ((Below.refl _ _).alloc (Nat.le_refl _) _)⟩
    · have kl : (w.alloc (.cells #[.int .u8 123, .int .u8 125, .int .u8 91, .int .u8 93, .int .u8 44, .int .u8 58] 5 (6, 7))).cell? ⟨w.heap.size, 5, none⟩ = some (.int .u8 58) := (cell_of_row _ _ _ _ _ _ (heap_alloc_new w _)).trans rfl
      go_wp2_with fail
      go_meet
      exact ⟨by rw [HCM.out]; rfl, Lib.hid ((Below.refl _ _).alloc (Nat.le_refl _) _)⟩
  case rest =>
    obtain ⟨rfl, HB0⟩ := hcut
    clear kc hkm ht6 hk6
    go_wp2_with fail
    refine (lread_is (A := A) n c wc forms_ok Hn.out HCs.out.1.1 HCs.out.1.2 (HA.out.below HB0.out) HB0.out.size (by omega)).mono ?_
    rintro e w1 ⟨A1, N1, c1, he, hNc1, hcm1, hk1, hb1⟩
    rw [HFT.out] at he
    subst he
    unfold maxLen at hcm1
    have hN1 : N1 ≤ 2000 := by rw [hk1.1]; exact Nat.le_trans tks_few (by rw [← Hn.out]; exact h)
    have HW1 := Lib.hid (HB0.out.trans (hb1.mono HB0.out.size))
    have HK1 := Lib.hid (hk1.low HB0.out.size)
    clear hk1 hb1
    go_upto_region 5 with fail
    have HF1 := Lib.hid (FB.start (w := w1) (c := cc) (a := aa))
    have HA1 := Lib.hid ((Below.refl w1.heap.size w1).alloc (Nat.le_refl _) (fvO cc aa))
    obtain ⟨V1, hV1⟩ : ∃ V, V = w1.alloc (fvO cc aa) := ⟨_, rfl⟩
    rw [← hV1] at HF1 HA1 ⊢
    clear hV1
    have HX1 := Lib.hid (HK1.out.below HA1.out (Nat.le_refl _))
    have HBV1 := Lib.hid (below_tr HW1.out HA1.out)
    go_wp2_with fail
    refine (lread_is (A := A') n' c' V1 forms_ok Hn'.out HCs.out.2.1 HCs.out.2.2 (HA'.out.below HBV1.out) HBV1.out.size (by omega)).mono ?_
    rintro e w2 ⟨A2, N2, c2, he, hNc2, hcm2', hk2, hb2⟩
    rw [HGT.out] at he
    subst he
    unfold maxLen at hcm2'
    have hN2 : N2 ≤ 2000 := by rw [hk2.1]; exact Nat.le_trans tks_few (by rw [← Hn'.out]; exact h3)
    have HU2 := Lib.hid hb2
    have HK2 := Lib.hid hk2
    clear hk2 hb2
    go_upto_region 6 with fail
    have HF2 := Lib.hid (FB.start (w := w2) (c := dd) (a := bb))
    have HA2 := Lib.hid ((Below.refl w2.heap.size w2).alloc (Nat.le_refl _) (fvO dd bb))
    obtain ⟨V2, hV2⟩ : ∃ V, V = w2.alloc (fvO dd bb) := ⟨_, rfl⟩
    rw [← hV2] at HF2 HA2 ⊢
    clear hV2
    have HV12 := Lib.hid (below_tr HU2.out HA2.out)
    have HBV2 := Lib.hid (below_tr HBV1.out HV12.out)
    have HX2 := Lib.hid (HX1.out.below HV12.out (Nat.le_refl _))
    have HY2 := Lib.hid (HK2.out.below HA2.out (Nat.le_refl _))
    have HFF := Lib.hid (HF1.out.on HV12.out)
    obtain ⟨⟨f0, f1⟩, _, _⟩ := HFF.out.cells
    rcases HC.out with ⟨hx, rfl, rfl⟩ | ⟨ax, hx, rfl, rfl⟩
    · have HZ := Lib.hid (tks_join (b := lb) HMR.out hx)
      clear f0 f1
      obtain ⟨⟨f0, f1⟩, _, _⟩ := HFF.out.cells
      go_upto_region 8 with fail
      go_wp2_with (first
        | (at_builtin; refine wpApp _ rfl (.const (.slice none 0 0)) (.tmp 47) 22 rfl V2.heap.size 5 i0 (.int .u8 0) 1 Try.underlying22 hi hz0 hz1 hz2 rfl (.slice none 0 0) 0 [] rfl (World.ownsRow_nil _ _ _ _) A n c w.heap.size la rfl Hn.out (HA.out.below HBV2.out) Hnil.out (by unfold maxLen; omega) (by omega) (Nat.le_refl _) ?_; intro v3 w3 hown3 hg3 hat3)
        | (at_builtin; refine wpList_append_own _ rfl (.tmp 48) (.tmp 50) 22 rfl V2.heap.size 5 i0 (.int .u8 0) 1 1 Try.underlying22 hi hz0 hz1 hz2 rfl (by decide) v3 (0 + n) ([] ++ bytV la) rfl (hown3.alloc _) ⟨w3.heap.size, 0, none⟩ 1 1 (bytV [cm]) rfl rfl (cells_new _ _ rfl) (bytV_one [cm]) (by unfold maxLen; omega) (by omega) (by rw [alloc_size]; have := hg3.size; omega) ?_; intro v4 w4 hown4 hg4 _)
        | (at_builtin; refine wpApp _ rfl (.tmp 51) (.tmp 52) 22 rfl V2.heap.size 5 i0 (.int .u8 0) 1 Try.underlying22 hi hz0 hz1 hz2 rfl v4 (0 + n + 1) ([] ++ bytV la ++ bytV [cm]) rfl hown4 A' n' c' w.heap.size lb rfl Hn'.out (HA'.out.below (HBV2.out.trans ((app_two hg3 hown3 hg4).mono HBV2.out.size))) Hnil'.out (by unfold maxLen; omega) (by omega) (app_two hg3 hown3 hg4).size ?_; intro v5 w5 hown5 hg5 hat5; obtain ⟨HB5, A5, c5, rfl, hc5, hm5, hl5, hB5⟩ := app_three hg3 hown3 hg4 hown4 hg5 hown5; clear hown3 hg3 hat3 hown4 hg4 hown5 hg5 hat5; have Hl5 := Lib.hid hl5; clear hl5))
      rw [Nat.zero_add] at hc5 Hl5
      obtain ⟨ee, hee, hde⟩ : ∃ ee : Int, ftV ((tks lb 0).2.map (· + (la.length + 1))) = fvV dd ee ∧ ((dd = 0 ∧ bb = 0 ∧ ee = 0) ∨ (dd = 3 ∧ ee = bb + ((n : Int) + 1) ∧ 0 ≤ bb ∧ bb ≤ 2000)) := by
        rcases HD.out with ⟨h1, h2, h3⟩ | ⟨a, h1, h2, h3⟩
        · exact ⟨0, by rw [h1, h2]; rfl, .inl ⟨h2, h3, rfl⟩⟩
        · refine ⟨(a : Int) + (n + 1), ?_, .inr ⟨h2, by rw [h3], by omega, by have := tks_le _ 0 (Nat.le_refl _) (Nat.zero_le _) h1; rw [h3]; have := Hn'.out; omega⟩⟩
          rw [h1, h2]
          show fvV 3 ((a + (la.length + 1) : Nat) : Int) = _
          rw [← Hn.out]; congr 1
      have HEE := Lib.hid hee
      have HDE := Lib.hid hde
      have HB6 := Lib.hid (HBV2.out.trans (HB5.mono HBV2.out.size))
      have HX5 := Lib.hid (HX2.out.below HB5 (Nat.le_refl _))
      have HY5 := Lib.hid (HY2.out.below HB5 (Nat.le_refl _))
      have HF5 := Lib.hid (HF2.out.on HB5)
      clear hee hde HB5 f0 f1
      have C5 := Lib.hid (lread_is (A := A5) (n + 1 + n') c5 w5 forms_ok Hl5.out hc5 hm5 hB5 (Nat.le_refl _) (by omega))
      refine C5.out.mono ?_
      rintro e w6 ⟨A3, N3, c3, he, hNc3, hcm3, hk3, hb3⟩
      rw [HZ.out] at he hk3
      simp only [] at he hk3
      rw [HEE.out] at he
      subst he
      obtain rfl : N3 = N1 + 1 + N2 := by
        have h1 := HX5.out.1
        have h2 := HY5.out.1
        rw [hk3.1, List.length_append, List.length_cons, List.length_map, ← h1, ← h2]; omega
      unfold maxLen at hcm3
      have HU6 := Lib.hid hb3
      have HK3 := Lib.hid hk3
      clear hk3 hb3 C5 hB5 hm5
      go_upto_region 10 with fail
      have HF3 := Lib.hid (FB.start (w := w6) (c := dd) (a := ee))
      have HA3 := Lib.hid ((Below.refl w6.heap.size w6).alloc (Nat.le_refl _) (fvO dd ee))
      obtain ⟨V3, hV3⟩ : ∃ V, V = w6.alloc (fvO dd ee) := ⟨_, rfl⟩
      rw [← hV3] at HF3 HA3 ⊢
      clear hV3
      have HV53 := Lib.hid (below_tr HU6.out HA3.out)
      have HX := Lib.hid (HX5.out.below HV53.out (Nat.le_refl _))
      have HY := Lib.hid (HY5.out.below HV53.out (Nat.le_refl _))
      have HZ3 := Lib.hid (HK3.out.below HA3.out (Nat.le_refl _))
      have HG := Lib.hid (HF5.out.on HV53.out)
      have HBV := Lib.hid (below_tr HB6.out HV53.out)
      clear HX1 HX2 HX5 HY2 HY5 HK1 HK2 HK3 HF1 HF2 HF5 HFF HA1 HA2 HA3 HBV1 HBV2 HV12 HU2 HU6 HW1 HB0 HB6 HV53
      go_wp2_with fail
      go_loopw [16, 17] (fun s _ wr => ∃ i : Nat, i ≤ N1 + 1 + N2 ∧ s = .int .i64 i ∧ Hid (Below V3.heap.size V3 wr)) (fun s _ _ => N1 + 1 + N2 - (intOf s).toNat)
      case atStart => exact ⟨0, Nat.zero_le _, rfl, Lib.hid (Below.refl _ _)⟩
      case round =>
        obtain ⟨i, hi3, rfl, HW⟩ := hrel
        by_cases hlt : i < N1 + 1 + N2
        · have HZW := Lib.hid (HZ3.out.below HW.out (Nat.le_refl _))
          obtain ⟨g3, rfl, _, hc3⟩ := HZW.out.at_ (by omega)
          have hg3 : g3 < wr.heap.size := by
            obtain ⟨g', _, e, _, hh, _⟩ := HZW.out.2 (by omega)
            obtain rfl : g' = g3 := by injection e with e; injection e with e; exact e.symm
            exact lt_blk hh
          by_cases h1 : i < N1
          · obtain ⟨g1, rfl, _, hc1⟩ := (HX.out.below HW.out (Nat.le_refl _)).at_ (by omega)
            have hXl : i < (tks la 0).1.length := by rw [← HX.out.1]; exact h1
            obtain ⟨⟨k, p, q⟩, ht⟩ : ∃ t : Tok, (tks la 0).1[i]? = some t := ⟨_, List.getElem?_eq_getElem hXl⟩
            obtain ⟨x0, x1, x2⟩ := hc1 i _ ht
            obtain ⟨y0, y1, y2⟩ := hc3 i _ ((jn_lt hXl).trans ht)
            simp only at x0 x1 x2 y0 y1 y2
            have hg1 : g1 < wr.heap.size := World.block_lt_of_cell? _ _ x0
            have u0 := (World.cell?_alloc_lt wr (ltO 1 n ((n : Int) + 1)) ⟨g1, i * 3, none⟩ hg1).trans x0
            have u1 := (World.cell?_alloc_lt wr (ltO 1 n ((n : Int) + 1)) ⟨g1, i * 3 + 1, none⟩ hg1).trans x1
            have u2 := (World.cell?_alloc_lt wr (ltO 1 n ((n : Int) + 1)) ⟨g1, i * 3 + 2, none⟩ hg1).trans x2
            clear hc1 hc3 ht hXl
            go_upto_region 23 with fail
            clear u0 u1 u2 x0 x1 x2
            obtain ⟨V4, hV4⟩ : ∃ V, V = wr.alloc (ltO k p q) := ⟨_, rfl⟩
            have HA4 := Lib.hid (show Below wr.heap.size wr V4 by rw [hV4]; exact (Below.refl _ _).alloc (Nat.le_refl _) _)
            have t0 : V4.cell? ⟨wr.heap.size, 0, none⟩ = some (.int .u8 k) := by rw [hV4, World.cell?_alloc_at _ _ _ _ rfl]; rfl
            have t1 : V4.cell? ⟨wr.heap.size, 1, none⟩ = some (.int .i64 p) := by rw [hV4, World.cell?_alloc_at _ _ _ _ rfl]; rfl
            have t2 : V4.cell? ⟨wr.heap.size, 2, none⟩ = some (.int .i64 q) := by rw [hV4, World.cell?_alloc_at _ _ _ _ rfl]; rfl
            have v0 : V4.cell? ⟨g3, i * 3, none⟩ = some (.int .u8 k) := by rw [HA4.out.cell hg3]; exact y0
            have v1 : V4.cell? ⟨g3, i * 3 + 1, none⟩ = some (.int .i64 p) := by rw [HA4.out.cell hg3]; exact y1
            have v2 : V4.cell? ⟨g3, i * 3 + 2, none⟩ = some (.int .i64 q) := by rw [HA4.out.cell hg3]; exact y2
            have HEND := Lib.hid (below_tr HW.out HA4.out)
            rw [← hV4]
            clear hV4 y0 y1 y2 HW
            go_quiet (fail)
            go_wp2_with fail
            go_roundw
            case rel => exact ⟨i + 1, by omega, by go_num, Lib.hid (below_dn HEND.out _)⟩
            case measure => simp [intOf]; omega
          · by_cases h2 : i = N1
            · have ht := jn_eq (X := (tks la 0).1) (Y := (tks lb 0).1) (t := (1, la.length, la.length + 1)) (f := sh (la.length + 1))
              rw [← HX.out.1] at ht
              subst h2
              obtain ⟨y0, y1, y2⟩ := hc3 i _ ht
              simp only at y0 y1 y2
              rw [← Hn.out] at y1 y2
              clear hc3 ht
              rw [show ((n + 1 : Nat) : Int) = (n : Int) + 1 from rfl] at y2
              go_upto_region 23 with fail
              obtain ⟨V4, hV4⟩ : ∃ V, V = wr.alloc (ltO 1 n ((n : Int) + 1)) := ⟨_, rfl⟩
              have HA4 := Lib.hid (show Below wr.heap.size wr V4 by rw [hV4]; exact (Below.refl _ _).alloc (Nat.le_refl _) _)
              have t0 : V4.cell? ⟨wr.heap.size, 0, none⟩ = some (.int .u8 1) := by rw [hV4, World.cell?_alloc_at _ _ _ _ rfl]; rfl
              have t1 : V4.cell? ⟨wr.heap.size, 1, none⟩ = some (.int .i64 n) := by rw [hV4, World.cell?_alloc_at _ _ _ _ rfl]; rfl
              have t2 : V4.cell? ⟨wr.heap.size, 2, none⟩ = some (.int .i64 ((n : Int) + 1)) := by rw [hV4, World.cell?_alloc_at _ _ _ _ rfl]; rfl
              have v0 : V4.cell? ⟨g3, i * 3, none⟩ = some (.int .u8 1) := by rw [HA4.out.cell hg3]; exact y0
              have v1 : V4.cell? ⟨g3, i * 3 + 1, none⟩ = some (.int .i64 n) := by rw [HA4.out.cell hg3]; exact y1
              have v2 : V4.cell? ⟨g3, i * 3 + 2, none⟩ = some (.int .i64 ((n : Int) + 1)) := by rw [HA4.out.cell hg3]; exact y2
              have HEND := Lib.hid (below_tr HW.out HA4.out)
              rw [← hV4]
              clear hV4 y0 y1 y2 HW
              go_quiet (fail)
              go_wp2_with fail
              go_roundw
              case rel => exact ⟨i + 1, by omega, by go_num, Lib.hid (below_dn HEND.out _)⟩
              case measure => simp [intOf]; omega
            · have hiN : N1 < i := by omega
              have hjN : i - N1 - 1 < N2 := by omega
              obtain ⟨g2, rfl, _, hc2⟩ := (HY.out.below HW.out (Nat.le_refl _)).at_ (by omega)
              have hYl : i - N1 - 1 < (tks lb 0).1.length := by rw [← HY.out.1]; exact hjN
              obtain ⟨⟨k, p, q⟩, ht⟩ : ∃ t : Tok, (tks lb 0).1[i - N1 - 1]? = some t := ⟨_, List.getElem?_eq_getElem hYl⟩
              obtain ⟨x0, x1, x2⟩ := hc2 _ _ ht
              have hz := jn_gt (X := (tks la 0).1) (Y := (tks lb 0).1) (t := (1, la.length, la.length + 1)) (f := sh (la.length + 1)) (j := i - N1 - 1)
              rw [ht, ← HX.out.1, show N1 + 1 + (i - N1 - 1) = i by omega] at hz
              obtain ⟨y0, y1, y2⟩ := hc3 _ _ hz
              simp only [sh] at x0 x1 x2 y0 y1 y2
              rw [← Hn.out] at y1 y2
              have hpq : p ≤ 2000 ∧ q ≤ 2000 := by
                have h4 := tks_in _ 0 _ k p q (Nat.le_refl _) ht
                have h5 := Hn'.out
                omega
              obtain ⟨hp2, hq2⟩ := hpq
              have hg2 : g2 < wr.heap.size := World.block_lt_of_cell? _ _ x0
              have u0 := (World.cell?_alloc_lt wr (ltO 1 n ((n : Int) + 1)) ⟨g2, (i - N1 - 1) * 3, none⟩ hg2).trans x0
              have u1 := (World.cell?_alloc_lt wr (ltO 1 n ((n : Int) + 1)) ⟨g2, (i - N1 - 1) * 3 + 1, none⟩ hg2).trans x1
              have u2 := (World.cell?_alloc_lt wr (ltO 1 n ((n : Int) + 1)) ⟨g2, (i - N1 - 1) * 3 + 2, none⟩ hg2).trans x2
              clear hc2 hc3 ht hYl hz h1 h2
              rw [show ((p + (n + 1) : Nat) : Int) = (p : Int) + ((n : Int) + 1) by omega] at y1
              rw [show ((q + (n + 1) : Nat) : Int) = (q : Int) + ((n : Int) + 1) by omega] at y2
              go_upto_region 23 with fail
              clear u0 u1 u2 x0 x1 x2
              obtain ⟨V4, hV4⟩ : ∃ V, V = wr.alloc (ltO k ((p : Int) + ((n : Int) + 1)) ((q : Int) + ((n : Int) + 1))) := ⟨_, rfl⟩
              have HA4 := Lib.hid (show Below wr.heap.size wr V4 by rw [hV4]; exact (Below.refl _ _).alloc (Nat.le_refl _) _)
              have t0 : V4.cell? ⟨wr.heap.size, 0, none⟩ = some (.int .u8 k) := by rw [hV4, World.cell?_alloc_at _ _ _ _ rfl]; rfl
              have t1 : V4.cell? ⟨wr.heap.size, 1, none⟩ = some (.int .i64 ((p : Int) + ((n : Int) + 1))) := by rw [hV4, World.cell?_alloc_at _ _ _ _ rfl]; rfl
              have t2 : V4.cell? ⟨wr.heap.size, 2, none⟩ = some (.int .i64 ((q : Int) + ((n : Int) + 1))) := by rw [hV4, World.cell?_alloc_at _ _ _ _ rfl]; rfl
              have v0 : V4.cell? ⟨g3, i * 3, none⟩ = some (.int .u8 k) := by rw [HA4.out.cell hg3]; exact y0
              have v1 : V4.cell? ⟨g3, i * 3 + 1, none⟩ = some (.int .i64 ((p : Int) + ((n : Int) + 1))) := by rw [HA4.out.cell hg3]; exact y1
              have v2 : V4.cell? ⟨g3, i * 3 + 2, none⟩ = some (.int .i64 ((q : Int) + ((n : Int) + 1))) := by rw [HA4.out.cell hg3]; exact y2
              have HEND := Lib.hid (below_tr HW.out HA4.out)
              rw [← hV4]
              clear hV4 y0 y1 y2 HW
              go_quiet (fail)
              go_wp2_with fail
              go_roundw
              case rel => exact ⟨i + 1, by omega, by go_num, Lib.hid (below_dn HEND.out _)⟩
              case measure => simp [intOf]; omega
        · obtain rfl : i = N1 + 1 + N2 := by omega
          obtain ⟨⟨z0, z1⟩, _, _⟩ := (HF3.out.on HW.out).cells
          obtain ⟨⟨g0, g1⟩, _, _⟩ := (HG.out.on HW.out).cells
          rcases HDE.out with ⟨rfl, rfl, rfl⟩ | ⟨rfl, he, hb60, hb61⟩
          · go_wp2_with (go_at_call 6; refine (lives_any _).mono ?_; rintro e w' ⟨rfl, hb⟩)
            go_ret
            exact ⟨rfl, (HBV.out.trans (HW.out.mono HBV.out.size)).trans (hb.mono (HBV.out.trans (HW.out.mono HBV.out.size)).size)⟩
          · subst he
            go_wp2_with (go_at_call 6; refine (lives_any _).mono ?_; rintro e w' ⟨rfl, hb⟩)
            go_ret
            exact ⟨rfl, (HBV.out.trans (HW.out.mono HBV.out.size)).trans (hb.mono (HBV.out.trans (HW.out.mono HBV.out.size)).size)⟩
    · go_wp2_with (go_at_call 6; refine (lives_any _).mono ?_; rintro e w' ⟨rfl, hb⟩)
      go_ret
      exact ⟨rfl, below_tr HBV2.out hb⟩
theorem joinl_any (ha : ArgB w A n c la) (hb : ArgB w A' n' c' lb) (m0 : 0 ≤ mk) (m1 : mk ≤ 255) : Calls Try.prog 5 #[.slice A n c, .slice A' n' c', .int .u8 mk] w fun e w' => e = .returned (.bool true) ∧ Below w.heap.size w w' := by
  by_cases h : 2000 < n
  · exact joinl_long1 ha h
  · by_cases h3 : 2000 < n'
    · exact joinl_long2 ha hb (by omega) h3
    · exact joinl_short ha hb m0 m1 (by omega) (by omega)
end
end Jk
end Go.Proofs.Ytfnahondlcbjnaa
