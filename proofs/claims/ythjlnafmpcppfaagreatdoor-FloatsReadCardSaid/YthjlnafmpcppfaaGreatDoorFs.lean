/- The law FloatsJSON, walked. -/
import Derived.Test.YthjlnafmpcppfaaGreatDoorFr
import Derived.Test.YthjlnafmpcppfaaGreatDoorFL
namespace Go.Proofs.YthjlnafmpcppfaaGreatDoor
open Go.RowKit
namespace Fl

theorem cany_list (l m : List UInt8) : Lib.containsAny l m = l.any (fun c => m.contains c) := by
  unfold Lib.containsAny
  rw [indexAny_tk]
  cases h : l.any (fun c => m.contains c)
  · have hd : l.dropWhile (fun x => !m.contains x) = [] := by
      rw [List.any_eq_false] at h
      rcases dr_head (q := fun x => !m.contains x) l with e | ⟨c, X, e, hc⟩
      · exact e
      · have hm : c ∈ l := by
          have := List.takeWhile_append_dropWhile (p := fun x => !m.contains x) (l := l)
          rw [← this, e]; simp
        exact absurd (by simpa using hc) (h c hm)
    rw [if_pos hd]; rfl
  · rw [if_neg]
    · exact decide_eq_true (by omega)
    · intro e
      obtain ⟨c, hc, hcm⟩ := List.any_eq_true.1 h
      have := List.takeWhile_append_dropWhile (p := fun x => !m.contains x) (l := l)
      rw [e, List.append_nil] at this
      rw [← this] at hc
      have h2 := tk_mem (q := fun x => !m.contains x) l c hc
      rw [hcm] at h2; cases h2
theorem cany_is {l m : List UInt8} {s M : ByteArray} {b : Bool} (w : World) (hs : s = txt l) (hM : M = txt m) (hl : l.length ≤ 100000) (hm : m.length ≤ 100000) (ha : ∀ c ∈ l, c.toNat < 128) (hma : ∀ c ∈ m, c.toNat < 128) (hb : b = l.any (fun c => m.contains c)) :
    Calls Tryz.prog 16 #[.string s, .string M] w fun e w' => e = .returned (.bool b) ∧ Below w.heap.size w w' := by
  have zs : s.size = l.length := by rw [hs, txt_size]
  have zm : M.size = m.length := by rw [hM, txt_size]
  refine (Tryz.strings_ContainsAny_laid s M w (by omega) (by omega) (asc_txt hs ha).2 (asc_txt hM hma).2).mono ?_
  rintro e w' ⟨rfl, hbw⟩
  rw [data_txt hs, data_txt hM, cany_list, hb]
  exact ⟨rfl, hbw⟩
theorem cont_is {l m : List UInt8} {s M : ByteArray} {b : Bool} (w : World) (hs : s = txt l) (hM : M = txt m) (hl : l.length ≤ 100000) (hb : b = Lib.contains l m) (hx : MxL w) :
    Calls Tryz.prog 17 #[.string s, .string M] w fun e w' => e = .returned (.bool b) ∧ Below w.heap.size w w' := by
  obtain ⟨k, hk⟩ := hx
  have zs : s.size = l.length := by rw [hs, txt_size]
  refine (Tryz.strings_Contains s M k w (by omega) hk).mono ?_
  rintro e w' ⟨rfl, rfl⟩
  rw [data_txt hs, data_txt hM, hb]
  exact ⟨rfl, Below.refl _ _⟩
theorem cont_drop {l m : List UInt8} {k : Nat} (hk : k ≤ l.length) (h : l.drop k = m) : Lib.contains l m = true := by
  unfold Lib.contains
  rcases Lib.index_spec l m with ⟨_, h2⟩ | ⟨i, h1, _⟩
  · have := h2 k hk
    unfold Lib.occAt at this
    rw [h, List.isPrefixOf_iff_prefix.2 (List.prefix_refl m)] at this
    cases this
  · rw [h1]; exact decide_eq_true (by omega)
theorem nb_asc {c : UInt8} (h : nb c = true) : c.toNat < 128 := by have := nb_range h; omega
theorem isB_asc {l : List UInt8} (h : isB l = true) : ∀ c ∈ l, c.toNat < 128 := by
  intro c hc
  rcases isB_bytes h c hc with h | rfl | rfl | rfl | rfl | rfl
  · exact nb_asc h
  all_goals decide
theorem mn_asc (l : List UInt8) : ∀ c ∈ l.take (sg0 l), c.toNat < 128 := by
  intro c hc
  unfold sg0 at hc
  split at hc
  · rename_i h
    cases l with
    | nil => cases hc
    | cons d r =>
      rw [bt_cons] at h
      simp at hc
      subst hc
      omega
  · cases hc
theorem inf_asc : ∀ c ∈ INF, c.toNat < 128 := by decide
theorem nan_asc : ∀ c ∈ NAN, c.toNat < 128 := by decide
theorem rdF_asc {l : List UInt8} (h : (rdF l).2 = 0) : ∀ c ∈ l, c.toNat < 128 := by
  intro c hc
  rw [← List.take_append_drop (sg0 l) l] at hc
  rcases List.mem_append.1 hc with hc | hc
  · exact mn_asc l c hc
  · unfold rdF at h
    split at h
    · rename_i e
      rw [e] at hc
      exact inf_asc c hc
    · split at h
      · rename_i e
        rw [e] at hc
        exact nan_asc c hc
      · split at h
        · have hB : isB (mn l ++ st (l.drop (sg0 l))) = true := (rd_isB _).2 (by omega)
          by_cases h95 : c = 95
          · subst h95; decide
          · exact isB_asc hB c (List.mem_append.2 (.inr (by unfold st; rw [List.mem_filter]; exact ⟨hc, by simpa using h95⟩)))
        · cases h
theorem pm_any {l : List UInt8} : l.any (fun c => [43, 95].contains c) = true ↔ (43 : UInt8) ∈ l ∨ (95 : UInt8) ∈ l := by
  rw [List.any_eq_true]
  constructor
  · rintro ⟨c, hc, h⟩
    have : c = 43 ∨ c = 95 := by simpa using h
    rcases this with rfl | rfl
    · exact .inl hc
    · exact .inr hc
  · rintro (h | h)
    · exact ⟨43, h, by decide⟩
    · exact ⟨95, h, by decide⟩
theorem more_any (l : List UInt8) : l.any (fun c => [46, 101, 69].contains c) = more l := by
  unfold more
  congr 1
  funext c
  show List.elem c [46, 101, 69] = (c == 46 || isE c)
  unfold isE
  simp only [List.elem]
  cases (c == 46) <;> cases (c == 101) <;> cases (c == 69) <;> rfl
set_option maxHeartbeats 8000000 in
set_option maxRecDepth 100000 in
theorem json_any (s : ByteArray) (w : World) (hT : AllT w) : Calls Tryz.prog 5 #[.string s] w fun e w' => e = .returned (.bool true) ∧ Below w.heap.size w w' := by
  have HL := Lib.hid flives_any
  have HB0 := Lib.hid (Below.refl w.heap.size w)
  have HT := Lib.hid hT
  clear hT
  by_cases h1 : s.size ≤ 300
  · obtain ⟨l, hl⟩ : ∃ l, l = s.data.toList := ⟨_, rfl⟩
    have hs : s = txt l := by rw [hl]; exact as_txt s
    have la : l.length ≤ 300 := by rw [hl, as_len]; exact h1
    have lu := rdF_len l
    clear hl
    obtain ⟨T, hTT⟩ : ∃ T, T = txt (rdF l).1 := ⟨_, rfl⟩
    obtain ⟨g, hg⟩ : ∃ g, g = (rdF l).2 := ⟨_, rfl⟩
    obtain ⟨W, hW⟩ : ∃ W, W = txt (rd l).1 := ⟨_, rfl⟩
    obtain ⟨c, hc⟩ : ∃ c, c = (rd l).2 := ⟨_, rfl⟩
    have CD := Lib.hid (fun w h => dread_any (l := l) w h hs (by omega))
    have CF := Lib.hid (fun w h => fread_is (l := l) w hs (by omega) h)
    rw [← hTT, ← hg] at CF
    rw [← hW, ← hc] at CD
    by_cases h3 : c = 3
    · by_cases h0 : g = 0
      · have hgz : (rdF l).2 = 0 := by rw [← hg]; exact h0
        have hno := json_no (by rw [← hc]; exact h3) hgz
        have hasc := rdF_asc hgz
        have CI := Lib.hid (fun w h => is_is (x := true) w hTT (by omega) (rdF_kinds hgz).symm h)
        obtain ⟨b1, hb1⟩ : ∃ b, b = l.any (fun c => [43, 95].contains c) := ⟨_, rfl⟩
        obtain ⟨b2, hb2⟩ : ∃ b, b = Lib.contains l INF := ⟨_, rfl⟩
        obtain ⟨b3, hb3⟩ : ∃ b, b = Lib.contains l NAN := ⟨_, rfl⟩
        have A1 := Lib.hid (fun w => cany_is (m := [43, 95]) (M := ⟨#[43, 95]⟩) w hs rfl (by omega) (by decide) hasc (by decide) hb1)
        have A2 := Lib.hid (fun w h => cont_is (M := ⟨#[105, 110, 102]⟩) w hs rfl (by omega) hb2 h)
        have A3 := Lib.hid (fun w h => cont_is (M := ⟨#[110, 97, 110]⟩) w hs rfl (by omega) hb3 h)
        have hone : b1 = true ∨ b2 = true ∨ b3 = true := by
          rcases hno with h | h | h | h
          · exact .inl (by rw [hb1]; exact pm_any.2 (.inr h))
          · exact .inl (by rw [hb1]; exact pm_any.2 (.inl h))
          · exact .inr (.inl (by rw [hb2]; exact cont_drop (sg0_le l) h))
          · exact .inr (.inr (by rw [hb3]; exact cont_drop (sg0_le l) h))
        clear hs la lu hTT hg hW hc hgz hno hasc hb1 hb2 hb3
        subst h3 h0
        cases b1
        · cases b2
          · obtain rfl : b3 = true := by simpa using hone
            clear hone
            go_enter Tryz.func5, Tryz.ntmps5
            go_wp2_with fail
            refine (CD.out _ (HT.out.below HB0.out).dec).mono ?_
            rintro e w1 ⟨rfl, hb⟩
            have HB1 := Lib.hid (II.below_tr HB0.out hb)
            clear hb
            go_wp2_with fail
            refine (CF.out _ (HT.out.below HB1.out)).mono ?_
            rintro e w2 ⟨rfl, hb⟩
            have HB2 := Lib.hid (II.below_tr HB1.out hb)
            clear hb
            go_wp2_with fail
            refine (CI.out _ (HT.out.below HB2.out).dec).mono ?_
            rintro e w3 ⟨rfl, hb⟩
            have HB3 := Lib.hid (II.below_tr HB2.out hb)
            clear hb
            go_wp2_with fail
            refine (A1.out _).mono ?_
            rintro e w4 ⟨rfl, hb⟩
            have HB4 := Lib.hid (II.below_tr HB3.out hb)
            clear hb
            go_wp2_with fail
            refine (A2.out _ (HT.out.below HB4.out).max).mono ?_
            rintro e w5 ⟨rfl, hb⟩
            have HB5 := Lib.hid (II.below_tr HB4.out hb)
            clear hb
            go_wp2_with fail
            refine (A3.out _ (HT.out.below HB5.out).max).mono ?_
            rintro e w6 ⟨rfl, hb⟩
            have HB6 := Lib.hid (II.below_tr HB5.out hb)
            clear hb
            go_wp2_with fail
            refine (HL.out _ (HT.out.below HB6.out)).mono ?_
            rintro e w7 ⟨rfl, hb⟩
            have HB7 := Lib.hid (II.below_tr HB6.out hb)
            clear hb
            go_wp2_with fail
            go_ret
            exact ⟨rfl, HB7.out⟩
          · clear hone
            go_enter Tryz.func5, Tryz.ntmps5
            go_wp2_with fail
            refine (CD.out _ (HT.out.below HB0.out).dec).mono ?_
            rintro e w1 ⟨rfl, hb⟩
            have HB1 := Lib.hid (II.below_tr HB0.out hb)
            clear hb
            go_wp2_with fail
            refine (CF.out _ (HT.out.below HB1.out)).mono ?_
            rintro e w2 ⟨rfl, hb⟩
            have HB2 := Lib.hid (II.below_tr HB1.out hb)
            clear hb
            go_wp2_with fail
            refine (CI.out _ (HT.out.below HB2.out).dec).mono ?_
            rintro e w3 ⟨rfl, hb⟩
            have HB3 := Lib.hid (II.below_tr HB2.out hb)
            clear hb
            go_wp2_with fail
            refine (A1.out _).mono ?_
            rintro e w4 ⟨rfl, hb⟩
            have HB4 := Lib.hid (II.below_tr HB3.out hb)
            clear hb
            go_wp2_with fail
            refine (A2.out _ (HT.out.below HB4.out).max).mono ?_
            rintro e w5 ⟨rfl, hb⟩
            have HB5 := Lib.hid (II.below_tr HB4.out hb)
            clear hb
            go_wp2_with fail
            refine (HL.out _ (HT.out.below HB5.out)).mono ?_
            rintro e w6 ⟨rfl, hb⟩
            have HB6 := Lib.hid (II.below_tr HB5.out hb)
            clear hb
            go_wp2_with fail
            go_ret
            exact ⟨rfl, HB6.out⟩
        · clear hone
          go_enter Tryz.func5, Tryz.ntmps5
          go_wp2_with fail
          refine (CD.out _ (HT.out.below HB0.out).dec).mono ?_
          rintro e w1 ⟨rfl, hb⟩
          have HB1 := Lib.hid (II.below_tr HB0.out hb)
          clear hb
          go_wp2_with fail
          refine (CF.out _ (HT.out.below HB1.out)).mono ?_
          rintro e w2 ⟨rfl, hb⟩
          have HB2 := Lib.hid (II.below_tr HB1.out hb)
          clear hb
          go_wp2_with fail
          refine (CI.out _ (HT.out.below HB2.out).dec).mono ?_
          rintro e w3 ⟨rfl, hb⟩
          have HB3 := Lib.hid (II.below_tr HB2.out hb)
          clear hb
          go_wp2_with fail
          refine (A1.out _).mono ?_
          rintro e w4 ⟨rfl, hb⟩
          have HB4 := Lib.hid (II.below_tr HB3.out hb)
          clear hb
          go_wp2_with fail
          refine (HL.out _ (HT.out.below HB4.out)).mono ?_
          rintro e w5 ⟨rfl, hb⟩
          have HB5 := Lib.hid (II.below_tr HB4.out hb)
          clear hb
          go_wp2_with fail
          go_ret
          exact ⟨rfl, HB5.out⟩
      · have h0' : (g != 0) = true := by simpa using h0
        clear hs la lu hTT hg hW hc h0
        subst h3
        go_enter Tryz.func5, Tryz.ntmps5
        go_wp2_with fail
        refine (CD.out _ (HT.out.below HB0.out).dec).mono ?_
        rintro e w1 ⟨rfl, hb⟩
        have HB1 := Lib.hid (II.below_tr HB0.out hb)
        clear hb
        go_wp2_with fail
        refine (CF.out _ (HT.out.below HB1.out)).mono ?_
        rintro e w2 ⟨rfl, hb⟩
        have HB2 := Lib.hid (II.below_tr HB1.out hb)
        clear hb
        go_wp2_with fail
        refine (HL.out _ (HT.out.below HB2.out)).mono ?_
        rintro e w3 ⟨rfl, hb⟩
        have HB3 := Lib.hid (II.below_tr HB2.out hb)
        clear hb
        go_wp2_with fail
        go_ret
        exact ⟨rfl, HB3.out⟩
    · have hB : isB l = true := (rd_isB l).2 (by rw [← hc]; exact h3)
      have hasc := isB_asc hB
      obtain ⟨m, hm⟩ : ∃ m, m = more l := ⟨_, rfl⟩
      have AM := Lib.hid (fun w => cany_is (m := [46, 101, 69]) (M := ⟨#[46, 101, 69]⟩) (b := m) w hs rfl (by omega) (by decide) hasc (by decide) (by rw [more_any, hm]))
      have h3' : (c == 3) = false := by simpa using h3
      cases m
      · have hf := json_int hB hm.symm
        have hi := json_whole hB hm.symm
        have ET := Lib.hid (show T = ⟨#[]⟩ by rw [hTT, hf]; rfl)
        have EG := Lib.hid (show g = 3 by rw [hg, hf])
        rw [ET.out, EG.out] at CF
        obtain ⟨TI, ci, hci, hne⟩ : ∃ TI ci, II.irv (II.In.rd l) = .tuple #[.string TI, .int .i64 ci] ∧ ci ≠ 3 := by
          cases hr : II.In.rd l with
          | ok t => exact ⟨_, 0, rfl, by decide⟩
          | syn => exact absurd hr hi
          | big => exact ⟨_, 8, rfl, by decide⟩
        have CN := Lib.hid (fun w h => II.pread_is (l := l) w hs (by omega) rfl h)
        rw [hci] at CN
        have hne' : (ci != 3) = true := by simpa using hne
        clear hs la lu hTT hg hW hc hB hasc hm hf hi hci hne h3
        go_enter Tryz.func5, Tryz.ntmps5
        go_wp2_with fail
        refine (CD.out _ (HT.out.below HB0.out).dec).mono ?_
        rintro e w1 ⟨rfl, hb⟩
        have HB1 := Lib.hid (II.below_tr HB0.out hb)
        clear hb
        go_wp2_with fail
        refine (CF.out _ (HT.out.below HB1.out)).mono ?_
        rintro e w2 ⟨rfl, hb⟩
        have HB2 := Lib.hid (II.below_tr HB1.out hb)
        clear hb
        go_wp2_with fail
        refine (AM.out _).mono ?_
        rintro e w3 ⟨rfl, hb⟩
        have HB3 := Lib.hid (II.below_tr HB2.out hb)
        clear hb
        go_wp2_with fail
        refine (CN.out _ (HT.out.below HB3.out).int).mono ?_
        rintro e w4 ⟨rfl, hb⟩
        have HB4 := Lib.hid (II.below_tr HB3.out hb)
        clear hb
        go_wp2_with fail
        refine (HL.out _ (HT.out.below HB4.out)).mono ?_
        rintro e w5 ⟨rfl, hb⟩
        have HB5 := Lib.hid (II.below_tr HB4.out hb)
        clear hb
        go_wp2_with fail
        go_ret
        exact ⟨rfl, HB5.out⟩
      · have hf := json_yes hB hm.symm
        have EG := Lib.hid (show g = c by rw [hg, hc, hf])
        have EW := Lib.hid (show W = T by rw [hW, hTT, hf])
        rw [EG.out] at CF
        rw [EW.out] at CD
        have hsz : 0 < s.size := by rw [hs, txt_size]; exact (isB_size hB).2
        have hx := txt_at hs (k := 0)
        obtain ⟨P, hP⟩ : ∃ P, P = (⟨#[43]⟩ : ByteArray) ++ s := ⟨_, rfl⟩
        have hPt : P = txt (43 :: l) := by rw [hP, hs, show (⟨#[43]⟩ : ByteArray) = txt [43] from rfl, txt_app]; rfl
        have hP' := hP.symm
        have hPz : (⟨#[43]⟩ : ByteArray).size + s.size ≤ 301 := by have : (⟨#[43]⟩ : ByteArray).size = 1 := rfl; omega
        have CI := Lib.hid (fun (h0 : c = 0) w h => is_is (x := true) w hTT (by omega) (rdF_kinds (by rw [← hg, EG.out]; exact h0)).symm h)
        by_cases h45 : bt l 0 = 45
        · have CX := Lib.hid (fun w h => fails_is (s := P) w hPt (by simp; omega) (json_minus h45) h)
          rw [h45] at hx
          clear hs la lu hTT hg hW hc hB hasc hm hf h3 hP hPt h45
          by_cases h0 : c = 0
          · have CI0 := Lib.hid (CI.out h0)
            clear CI
            subst h0
            go_enter Tryz.func5, Tryz.ntmps5
            go_wp2_with fail
            refine (CD.out _ (HT.out.below HB0.out).dec).mono ?_
            rintro e w1 ⟨rfl, hb⟩
            have HB1 := Lib.hid (II.below_tr HB0.out hb)
            clear hb
            go_wp2_with fail
            refine (CF.out _ (HT.out.below HB1.out)).mono ?_
            rintro e w2 ⟨rfl, hb⟩
            have HB2 := Lib.hid (II.below_tr HB1.out hb)
            clear hb
            go_wp2_with fail
            refine (AM.out _).mono ?_
            rintro e w3 ⟨rfl, hb⟩
            have HB3 := Lib.hid (II.below_tr HB2.out hb)
            clear hb
            go_wp2_with fail
            refine (CI0.out _ (HT.out.below HB3.out).dec).mono ?_
            rintro e w4 ⟨rfl, hb⟩
            have HB4 := Lib.hid (II.below_tr HB3.out hb)
            clear hb
            go_wp2_with fail
            refine (CX.out _ (HT.out.below HB4.out)).mono ?_
            rintro e w5 ⟨rfl, hb⟩
            have HB5 := Lib.hid (II.below_tr HB4.out hb)
            clear hb
            go_wp2_with fail
            refine (HL.out _ (HT.out.below HB5.out)).mono ?_
            rintro e w6 ⟨rfl, hb⟩
            have HB6 := Lib.hid (II.below_tr HB5.out hb)
            clear hb
            go_wp2_with fail
            go_ret
            exact ⟨rfl, HB6.out⟩
          · have h0' : (c == 0) = false := by simpa using h0
            clear CI h0
            go_enter Tryz.func5, Tryz.ntmps5
            go_wp2_with fail
            refine (CD.out _ (HT.out.below HB0.out).dec).mono ?_
            rintro e w1 ⟨rfl, hb⟩
            have HB1 := Lib.hid (II.below_tr HB0.out hb)
            clear hb
            go_wp2_with fail
            refine (CF.out _ (HT.out.below HB1.out)).mono ?_
            rintro e w2 ⟨rfl, hb⟩
            have HB2 := Lib.hid (II.below_tr HB1.out hb)
            clear hb
            go_wp2_with fail
            refine (AM.out _).mono ?_
            rintro e w3 ⟨rfl, hb⟩
            have HB3 := Lib.hid (II.below_tr HB2.out hb)
            clear hb
            go_wp2_with fail
            refine (CX.out _ (HT.out.below HB3.out)).mono ?_
            rintro e w4 ⟨rfl, hb⟩
            have HB4 := Lib.hid (II.below_tr HB3.out hb)
            clear hb
            go_wp2_with fail
            refine (HL.out _ (HT.out.below HB4.out)).mono ?_
            rintro e w5 ⟨rfl, hb⟩
            have HB5 := Lib.hid (II.below_tr HB4.out hb)
            clear hb
            go_wp2_with fail
            go_ret
            exact ⟨rfl, HB5.out⟩
        · have CY := Lib.hid (fun w h => fread_is (l := 43 :: l) (s := P) w hPt (by simp; omega) h)
          rw [json_plus hB h45, ← hTT, ← hg, EG.out] at CY
          obtain ⟨z, hz⟩ : ∃ z, z = bt l 0 := ⟨_, rfl⟩
          rw [← hz] at hx h45
          have h45' : (z == 45) = false := by simpa using h45
          clear hs la lu hTT hg hW hc hB hasc hm hf h3 hP hPt h45 hz
          by_cases h0 : c = 0
          · have CI0 := Lib.hid (CI.out h0)
            clear CI
            subst h0
            go_enter Tryz.func5, Tryz.ntmps5
            go_wp2_with fail
            refine (CD.out _ (HT.out.below HB0.out).dec).mono ?_
            rintro e w1 ⟨rfl, hb⟩
            have HB1 := Lib.hid (II.below_tr HB0.out hb)
            clear hb
            go_wp2_with fail
            refine (CF.out _ (HT.out.below HB1.out)).mono ?_
            rintro e w2 ⟨rfl, hb⟩
            have HB2 := Lib.hid (II.below_tr HB1.out hb)
            clear hb
            go_wp2_with fail
            refine (AM.out _).mono ?_
            rintro e w3 ⟨rfl, hb⟩
            have HB3 := Lib.hid (II.below_tr HB2.out hb)
            clear hb
            go_wp2_with fail
            refine (CI0.out _ (HT.out.below HB3.out).dec).mono ?_
            rintro e w4 ⟨rfl, hb⟩
            have HB4 := Lib.hid (II.below_tr HB3.out hb)
            clear hb
            go_wp2_with fail
            refine (CY.out _ (HT.out.below HB4.out)).mono ?_
            rintro e w5 ⟨rfl, hb⟩
            have HB5 := Lib.hid (II.below_tr HB4.out hb)
            clear hb
            go_wp2_with fail
            refine (HL.out _ (HT.out.below HB5.out)).mono ?_
            rintro e w6 ⟨rfl, hb⟩
            have HB6 := Lib.hid (II.below_tr HB5.out hb)
            clear hb
            go_wp2_with fail
            go_ret
            exact ⟨rfl, HB6.out⟩
          · have h0' : (c == 0) = false := by simpa using h0
            clear CI h0
            go_enter Tryz.func5, Tryz.ntmps5
            go_wp2_with fail
            refine (CD.out _ (HT.out.below HB0.out).dec).mono ?_
            rintro e w1 ⟨rfl, hb⟩
            have HB1 := Lib.hid (II.below_tr HB0.out hb)
            clear hb
            go_wp2_with fail
            refine (CF.out _ (HT.out.below HB1.out)).mono ?_
            rintro e w2 ⟨rfl, hb⟩
            have HB2 := Lib.hid (II.below_tr HB1.out hb)
            clear hb
            go_wp2_with fail
            refine (AM.out _).mono ?_
            rintro e w3 ⟨rfl, hb⟩
            have HB3 := Lib.hid (II.below_tr HB2.out hb)
            clear hb
            go_wp2_with fail
            refine (CY.out _ (HT.out.below HB3.out)).mono ?_
            rintro e w4 ⟨rfl, hb⟩
            have HB4 := Lib.hid (II.below_tr HB3.out hb)
            clear hb
            go_wp2_with fail
            refine (HL.out _ (HT.out.below HB4.out)).mono ?_
            rintro e w5 ⟨rfl, hb⟩
            have HB5 := Lib.hid (II.below_tr HB4.out hb)
            clear hb
            go_wp2_with fail
            go_ret
            exact ⟨rfl, HB5.out⟩
  · go_enter Tryz.func5, Tryz.ntmps5
    go_wp2_with fail
    refine (HL.out _ (HT.out.below HB0.out)).mono ?_
    rintro e w1 ⟨rfl, hb⟩
    have HB1 := Lib.hid (II.below_tr HB0.out hb)
    clear hb
    go_wp2_with fail
    go_ret
    exact ⟨rfl, HB1.out⟩
end Fl
end Go.Proofs.YthjlnafmpcppfaaGreatDoor
