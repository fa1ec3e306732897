/- What landed: parts put together, whether they are sound, a text split. -/
import Derived.Test.YthjlnafmpcppfaaGreatDoorFl
namespace Go.Proofs.YthjlnafmpcppfaaGreatDoor
open Go.RowKit
namespace Fl

/-- The library's bound on what is looked up in place lies in its cell. -/
def MxL (w : World) : Prop := ∃ m, w.cell? ⟨0, 0, none⟩ = some (.int .i64 m)
theorem MxL.below {w w' : World} (h : MxL w) (hb : Below w.heap.size w w') : MxL w' := by
  obtain ⟨m, hm⟩ := h
  exact ⟨m, by rw [hb.cell (II.cell_lt hm)]; exact hm⟩
theorem MxL.drewN {w : World} (h : MxL w) (k : Nat) : MxL (w.drewN k) := h
/-- A float's text in parts. -/
abbrev wv (m a p e : ByteArray) : Value := .agg #[.string m, .string a, .string p, .string e]
abbrev wo (m a p e : ByteArray) : Obj := .cells #[.string m, .string a, .string p, .string e] 36
abbrev sl4 (a b c d : ByteArray) : Obj := .cells #[.string a, .string b, .string c, .string d] 9
theorem join_any {a b c d : List UInt8} {A B C D T : ByteArray} (bk : Nat) (w : World) (hA : A = txt a) (hB : B = txt b) (hC : C = txt c) (hD : D = txt d) (hl : a.length + (b.length + (c.length + d.length)) ≤ 1000000) (hT : T = txt (a ++ (b ++ (c ++ d))))
    (h0 : w.cell? ⟨bk, 0, none⟩ = some (.string A)) (h1 : w.cell? ⟨bk, 1, none⟩ = some (.string B)) (h2 : w.cell? ⟨bk, 2, none⟩ = some (.string C)) (h3 : w.cell? ⟨bk, 3, none⟩ = some (.string D)) :
    Calls Tryz.prog 66 #[.slice (some ⟨bk, 0, none⟩) 4 4, .string ⟨#[]⟩] w fun e w' => e = .returned (.string T) ∧ Below w.heap.size w w' := by
  have hj : Lib.join ([A, B, C, D].map (·.data.toList)) (⟨#[]⟩ : ByteArray).data.toList = a ++ (b ++ (c ++ d)) := by
    simp only [List.map_cons, List.map_nil]
    rw [data_txt hA, data_txt hB, data_txt hC, data_txt hD]
    exact join_four a b c d
  refine (Tryz.strings_Join bk 0 4 [A, B, C, D] ⟨#[]⟩ w ?_ (II.cell_lt h0) (by simp) (by simp) ?_).mono ?_
  · intro j x hx
    rw [Nat.zero_add]
    match j, hx with
    | 0, hx => obtain rfl : A = x := by simpa using hx
               exact h0
    | 1, hx => obtain rfl : B = x := by simpa using hx
               exact h1
    | 2, hx => obtain rfl : C = x := by simpa using hx
               exact h2
    | 3, hx => obtain rfl : D = x := by simpa using hx
               exact h3
    | n + 4, hx => simp at hx
  · rw [hj]; simp only [List.length_append]; omega
  · rintro e w' ⟨rfl, hb⟩
    rw [hj, hT]
    exact ⟨rfl, hb⟩
theorem repl_any {l : List UInt8} {s T : ByteArray} (w : World) (hs : s = txt l) (hl : l.length ≤ 1000000) (hT : T = txt (st l)) (hm : MxL w) :
    Calls Tryz.prog 65 #[.string s, .string ⟨#[95]⟩, .string ⟨#[]⟩] w fun e w' => e = .returned (.string T) ∧ Below w.heap.size w w' := by
  obtain ⟨m, hm⟩ := hm
  have z : s.size = l.length := by rw [hs, txt_size]
  refine (Tryz.strings_ReplaceAll s ⟨#[95]⟩ ⟨#[]⟩ m w (by omega) hm (by show 1 ≤ 1; omega) (by show s.size + _ * 0 ≤ _; omega)).mono ?_
  rintro e w' ⟨rfl, hb⟩
  rw [data_txt hs, show (⟨#[95]⟩ : ByteArray).data.toList = [95] from rfl, show (⟨#[]⟩ : ByteArray).data.toList = [] from rfl, replaceAll_st, hT]
  exact ⟨rfl, hb⟩
theorem together_is {a b c d : List UInt8} {A B C D T : ByteArray} (bk : Nat) (w : World) (hA : A = txt a) (hB : B = txt b) (hC : C = txt c) (hD : D = txt d) (hl : a.length + (b.length + (c.length + d.length)) ≤ 1000000) (hT : T = txt (st (a ++ (b ++ (c ++ d)))))
    (h0 : w.cell? ⟨bk, 0, none⟩ = some (.string A)) (h1 : w.cell? ⟨bk, 1, none⟩ = some (.string B)) (h2 : w.cell? ⟨bk, 2, none⟩ = some (.string C)) (h3 : w.cell? ⟨bk, 3, none⟩ = some (.string D)) (hm : MxL w) :
    Calls Tryz.prog 40 #[.slice (some ⟨bk, 0, none⟩) 4 4] w fun e w' => e = .returned (.string T) ∧ Below w.heap.size w w' := by
  obtain ⟨J, hJ⟩ : ∃ J, J = txt (a ++ (b ++ (c ++ d))) := ⟨_, rfl⟩
  have CJ := Lib.hid (join_any bk w hA hB hC hD hl hJ h0 h1 h2 h3)
  have CR := Lib.hid (fun w h => repl_any (T := T) w hJ (by simp only [List.length_append]; omega) hT h)
  have HM := Lib.hid hm
  clear hA hB hC hD hl hT h0 h1 h2 h3 hJ hm
  go_enter Tryz.func40, Tryz.ntmps40
  go_wp2_with fail
  refine CJ.out.mono ?_
  rintro e w1 ⟨rfl, hb⟩
  have HB := Lib.hid hb
  clear hb
  go_wp2_with fail
  refine (CR.out _ (HM.out.below HB.out)).mono ?_
  rintro e w2 ⟨rfl, hb⟩
  have HB2 := Lib.hid (II.below_tr HB.out hb)
  clear hb
  go_wp2_with fail
  go_ret
  exact ⟨rfl, HB2.out⟩
theorem number_is {a b c d : List UInt8} {A B C D T : ByteArray} (w : World) (hA : A = txt a) (hB : B = txt b) (hC : C = txt c) (hD : D = txt d) (hl : a.length + (b.length + (c.length + d.length)) ≤ 1000000) (hT : T = txt (st (a ++ (b ++ (c ++ d))))) (hm : MxL w) :
    Calls Tryz.prog 23 #[wv A B C D] w fun e w' => e = .returned (.string T) ∧ Below w.heap.size w w' := by
  have CT := Lib.hid (fun (bk : Nat) (w : World) (q0 : w.cell? ⟨bk, 0, none⟩ = some (.string A)) (q1 : w.cell? ⟨bk, 1, none⟩ = some (.string B)) (q2 : w.cell? ⟨bk, 2, none⟩ = some (.string C)) (q3 : w.cell? ⟨bk, 3, none⟩ = some (.string D)) (h : MxL w) => together_is (T := T) bk w hA hB hC hD hl hT q0 q1 q2 q3 h)
  have HM := Lib.hid hm
  clear hA hB hC hD hl hT hm
  have HB : Hid (Below w.heap.size w ((w.alloc (wo A B C D)).alloc (sl4 A B C D))) := Lib.hid (((Below.refl _ _).alloc (Nat.le_refl _) _).alloc (by simp) _)
  go_enter Tryz.func23, Tryz.ntmps23
  go_wp2_with fail
  refine (CT.out _ _ (by simp [go_sem]) (by simp [go_sem]) (by simp [go_sem]) (by simp [go_sem]) (HM.out.below HB.out)).mono ?_
  rintro e w1 ⟨rfl, hb⟩
  have HB2 := Lib.hid (II.below_tr HB.out hb)
  clear hb
  go_wp2_with fail
  go_ret
  exact ⟨rfl, HB2.out⟩
/-- What holds of parts. -/
def sndP (w p e : List UInt8) : Bool := (decide (p ≠ []) || decide (e ≠ [])) && snd w p e
theorem uns_drop (l : List UInt8) : l.drop (sg0 l) = uns l := by
  cases l with
  | nil => rfl
  | cons c r =>
    unfold sg0
    rw [bt_cons]
    by_cases h1 : c = 43
    · subst h1; rfl
    · by_cases h2 : c = 45
      · subst h2; rfl
      · rw [uns_other h1 h2, if_neg]
        · rfl
        · rintro (h | h)
          · exact h1 (UInt8.toNat_inj.1 (show c.toNat = 43 by omega))
          · exact h2 (UInt8.toNat_inj.1 (show c.toNat = 45 by omega))
set_option maxHeartbeats 4000000 in
set_option maxRecDepth 100000 in
theorem sound_is {a b c : List UInt8} {M A B C : ByteArray} {x : Bool} (w : World) (hA : A = txt a) (hB : B = txt b) (hC : C = txt c) (hl : a.length + (b.length + c.length) ≤ 90000) (hx : x = sndP a b c) (hT : II.Tab w) :
    Calls Tryz.prog 39 #[wv M A B C] w fun e w' => e = .returned (.bool x) ∧ Below w.heap.size w w' := by
  have zb : B.size = b.length := by rw [hB, txt_size]
  have zc : C.size = c.length := by rw [hC, txt_size]
  have eb := txt_empty hB
  have ec := txt_empty hC
  obtain ⟨g, hg⟩ : ∃ g, g = II.In.good 10 a := ⟨_, rfl⟩
  obtain ⟨p, hp⟩ : ∃ p, p = sp false (b.drop 1) := ⟨_, rfl⟩
  obtain ⟨q, hq⟩ : ∃ q, q = sp false (uns (c.drop 1)) := ⟨_, rfl⟩
  obtain ⟨G, hG⟩ : ∃ G, G = txt (mn (c.drop 1)) := ⟨_, rfl⟩
  obtain ⟨U, hU⟩ : ∃ U, U = txt (uns (c.drop 1)) := ⟨_, rfl⟩
  obtain ⟨B1, hB1⟩ : ∃ T, T = txt (b.drop 1) := ⟨_, rfl⟩
  obtain ⟨C1, hC1⟩ : ∃ T, T = txt (c.drop 1) := ⟨_, rfl⟩
  have EB := Lib.hid (show B.extract 1 B.size = B1 by rw [hB1, hB, txt_drop])
  have EC := Lib.hid (show C.extract 1 C.size = C1 by rw [hC1, hC, txt_drop])
  have CI := Lib.hid (fun w h => integer_is (x := g) w hA (by omega) hg h)
  have CP := Lib.hid (fun w => spaced_is (x := p) w hB1 (by simp; omega) hp)
  have ul : (uns (c.drop 1)).length ≤ c.length := by rw [← uns_drop]; simp
  have CQ := Lib.hid (fun w => spaced_is (x := q) w hU (by omega) hq)
  clear ul
  have CS := Lib.hid (fun w => signed_is (T := U) w hC1 hG (by rw [hU, uns_drop]))
  have hxx : x = ((decide (b ≠ []) || decide (c ≠ [])) && (g && (decide (b = []) || p) && (decide (c = []) || q))) := by rw [hx, hg, hp, hq]; rfl
  have HT := Lib.hid (hT.below ((Below.refl w.heap.size w).alloc (Nat.le_refl _) (wo M A B C)))
  have HB0 : Hid (Below w.heap.size w (w.alloc (wo M A B C))) := Lib.hid ((Below.refl w.heap.size w).alloc (Nat.le_refl _) _)
  have nb1 : b ≠ [] → 1 ≤ B.size := fun h => by rw [zb]; exact List.length_pos_iff.2 h
  have nc1 : c ≠ [] → 1 ≤ C.size := fun h => by rw [zc]; exact List.length_pos_iff.2 h
  clear hA hB hC hl hx hT zb zc hg hp hq hG hU hB1 hC1
  by_cases gb : b = []
  · rw [decide_eq_true gb] at eb
    by_cases gc : c = []
    · have E := Lib.hid (show x = false by rw [hxx]; simp [gb, gc])
      rw [decide_eq_true gc] at ec
      clear hxx gb gc nb1 nc1
      go_enter Tryz.func39, Tryz.ntmps39
      go_wp2_with fail
      go_ret
      exact ⟨ret_bool E.out.symm, HB0.out⟩
    · have z1 := nc1 gc
      have hxq : x = (g && q) := by rw [hxx]; simp [gb, gc]
      rw [decide_eq_false gc] at ec
      clear hxx gb gc nb1 nc1
      cases q
      · have E := Lib.hid (show x = false by rw [hxq]; simp)
        clear hxq
        go_enter Tryz.func39, Tryz.ntmps39
        go_wp2_with (first
          | (go_at_call 37; rw [EC.out]; refine (CS.out _).mono ?_; rintro e w' ⟨rfl, rfl⟩)
          | (go_at_call 63; refine (CQ.out _).mono ?_; rintro e w' ⟨rfl, rfl⟩))
        go_ret
        exact ⟨ret_bool E.out.symm, HB0.out⟩
      · have E := Lib.hid (show x = g by rw [hxq]; simp)
        clear hxq
        go_enter Tryz.func39, Tryz.ntmps39
        go_wp2_with (first
          | (go_at_call 37; rw [EC.out]; refine (CS.out _).mono ?_; rintro e w' ⟨rfl, rfl⟩)
          | (go_at_call 63; refine (CQ.out _).mono ?_; rintro e w' ⟨rfl, rfl⟩))
        refine (CI.out _ HT.out).mono ?_
        rintro e w' ⟨rfl, hb⟩
        have HB2 := Lib.hid (II.below_tr HB0.out hb)
        clear hb
        go_wp2_with fail
        go_ret
        exact ⟨ret_bool E.out.symm, HB2.out⟩
  · have y1 := nb1 gb
    rw [decide_eq_false gb] at eb
    cases p
    · have E := Lib.hid (show x = false by rw [hxx]; simp [gb])
      clear hxx gb nb1 nc1
      go_enter Tryz.func39, Tryz.ntmps39
      go_wp2_with (first
          | (go_at_call 63; rw [EB.out]; refine (CP.out _).mono ?_; rintro e w' ⟨rfl, rfl⟩))
      go_ret
      exact ⟨ret_bool E.out.symm, HB0.out⟩
    · by_cases gc : c = []
      · have E := Lib.hid (show x = g by rw [hxx]; simp [gb, gc])
        rw [decide_eq_true gc] at ec
        clear hxx gb gc nb1 nc1
        go_enter Tryz.func39, Tryz.ntmps39
        go_wp2_with (first
          | (go_at_call 63; rw [EB.out]; refine (CP.out _).mono ?_; rintro e w' ⟨rfl, rfl⟩))
        refine (CI.out _ HT.out).mono ?_
        rintro e w' ⟨rfl, hb⟩
        have HB2 := Lib.hid (II.below_tr HB0.out hb)
        clear hb
        go_wp2_with fail
        go_ret
        exact ⟨ret_bool E.out.symm, HB2.out⟩
      · have z1 := nc1 gc
        have hxq : x = (g && q) := by rw [hxx]; simp [gb, gc]
        rw [decide_eq_false gc] at ec
        clear hxx gb gc nb1 nc1
        cases q
        · have E := Lib.hid (show x = false by rw [hxq]; simp)
          clear hxq
          go_enter Tryz.func39, Tryz.ntmps39
          go_upto_region 6 with (go_at_call 63; rw [EB.out]; refine (CP.out _).mono ?_; rintro e w' ⟨rfl, rfl⟩)
          go_wp2_with (first
            | (go_at_call 37; rw [EC.out]; refine (CS.out _).mono ?_; rintro e w' ⟨rfl, rfl⟩)
            | (go_at_call 63; refine (CQ.out _).mono ?_; rintro e w' ⟨rfl, rfl⟩))
          go_ret
          exact ⟨ret_bool E.out.symm, HB0.out⟩
        · have E := Lib.hid (show x = g by rw [hxq]; simp)
          clear hxq
          go_enter Tryz.func39, Tryz.ntmps39
          go_upto_region 6 with (go_at_call 63; rw [EB.out]; refine (CP.out _).mono ?_; rintro e w' ⟨rfl, rfl⟩)
          go_wp2_with (first
            | (go_at_call 37; rw [EC.out]; refine (CS.out _).mono ?_; rintro e w' ⟨rfl, rfl⟩)
            | (go_at_call 63; refine (CQ.out _).mono ?_; rintro e w' ⟨rfl, rfl⟩))
          refine (CI.out _ HT.out).mono ?_
          rintro e w' ⟨rfl, hb⟩
          have HB2 := Lib.hid (II.below_tr HB0.out hb)
          clear hb
          go_wp2_with fail
          go_ret
          exact ⟨ret_bool E.out.symm, HB2.out⟩
end Fl
end Go.Proofs.YthjlnafmpcppfaaGreatDoor
