/- The law Utf8sJoin, walked: it answers true, and nothing that was there is turned. -/
import Derived.Test.YtllnnogdpagioaaDoorLives
import Derived.Test.YtllnnogdpagioaaDoorApp
import Derived.Test.YtllnnogdpagioaaDoorJoinM
namespace Go.Proofs.YtllnnogdpagioaaDoor
open Go.RowKit

/-- The tables of the program, as it lays them. -/
def Tab (w : World) : Prop := Masks w ∧ Heads w ∧ 1 < w.heap.size
theorem Tab.below {B : Nat} {w w' : World} (h : Tab w) (hb : Below B w w') (hB : 1 < B) : Tab w' := ⟨h.1.below hb (by omega), h.2.1.below hb hB, Nat.lt_of_lt_of_le h.2.2 hb.size⟩
theorem lives_tab {w : World} (h : Tab w) : Calls Tryd.prog 9 #[] w fun e w' => e = .returned (.bool true) ∧ Below w.heap.size w w' := lives_any w h.1 h.2.1 h.2.2
/-- A slice of bytes that came in. -/
def ArgB (w : World) (A : Option Addr) (n c : Nat) (l : List UInt8) : Prop := n = l.length ∧ n ≤ c ∧ c ≤ maxLen ∧ Byt w w.heap.size A l ∧ (A = none → c = 0)
/-- A slice of numbers that came in. -/
def ArgN (w : World) (A : Option Addr) (n c : Nat) (l : List Int) : Prop := n = l.length ∧ n ≤ c ∧ c ≤ maxLen ∧ Num w w.heap.size A l ∧ (A = none → c = 0)

theorem join_long1 {la lb : List UInt8} {A A' : Option Addr} {n c n' c' : Nat} {w : World} (ha : ArgB w A n c la) (_hb : ArgB w A' n' c' lb) (hT : Tab w) (h : 500 < n) :
    Calls Tryd.prog 7 #[.slice A n c, .slice A' n' c'] w fun e w' => e = .returned (.bool true) ∧ Below w.heap.size w w' := by
  obtain ⟨_, h1, h2, _⟩ := ha
  unfold maxLen at h2
  clear _hb
  have HT := Lib.hid hT
  clear hT
  have h' : (500 : Int) < n := by omega
  go_enter Tryd.func7, Tryd.ntmps7
  go_wp2_with (go_at_call 9; refine (lives_tab HT.out).mono ?_; rintro e w' ⟨rfl, hb⟩)
  go_ret
  exact ⟨rfl, hb⟩
theorem join_long2 {la lb : List UInt8} {A A' : Option Addr} {n c n' c' : Nat} {w : World} (_ha : ArgB w A n c la) (hb : ArgB w A' n' c' lb) (hT : Tab w) (h : n ≤ 500) (h3 : 500 < n') :
    Calls Tryd.prog 7 #[.slice A n c, .slice A' n' c'] w fun e w' => e = .returned (.bool true) ∧ Below w.heap.size w w' := by
  obtain ⟨_, h1, h2, _⟩ := hb
  unfold maxLen at h2
  clear _ha
  have HT := Lib.hid hT
  clear hT
  have h' : ¬ (500 : Int) < n := by omega
  have h3' : (500 : Int) < n' := by omega
  go_enter Tryd.func7, Tryd.ntmps7
  go_wp2_with (go_at_call 9; refine (lives_tab HT.out).mono ?_; rintro e w' ⟨rfl, hb⟩)
  go_ret
  exact ⟨rfl, hb⟩

/-- The two lists, one behind the other: what is made of them. -/
theorem join_made {la lb : List UInt8} {v1 v2 : Value} {w w1 w2 : World} {n n' : Nat} (_h1 : w1.ownsRow w.heap.size 5 1 v1 (0 + n) ([] ++ bytV la)) (hg1 : w.grownBy w1 (Value.slice none 0 0).ownBlock)
    (hat : v1.ownBlock = (Value.slice none 0 0).ownBlock ∨ v1.ownBlock = some w.heap.size) (h2 : w2.ownsRow w.heap.size 5 1 v2 (0 + n + n') ([] ++ bytV la ++ bytV lb)) (hg2 : w1.grownBy w2 v1.ownBlock) :
    Below w.heap.size w w2 ∧ ∃ A c, v2 = .slice A (n + n') c ∧ n + n' ≤ c ∧ c ≤ maxLen ∧ n + n' = (la ++ lb).length ∧ Byt w2 w2.heap.size A (la ++ lb) := by
  have hb1 : Below w.heap.size w w1 := (Below.refl _ _).grown hg1 (Nat.le_refl _) (fun _ h => by cases h)
  have hb2 : Below w.heap.size w w2 := hb1.grown hg2 hb1.size (fun k hk => by
    rcases hat with e | e
    · rw [e] at hk; cases hk
    · rw [e] at hk; cases hk; exact Nat.le_refl _)
  have h3 : w2.ownsRow w.heap.size 5 1 v2 (n + n') (bytV (la ++ lb)) := by simpa [bytV] using h2
  obtain ⟨A, c, e1, e2, e3, e4, e5, _⟩ := own_form h3
  exact ⟨hb2, A, c, e1, e2, e3, e4, e5⟩
set_option maxHeartbeats 2000000 in
theorem join_tt {la lb : List UInt8} {A A' : Option Addr} {n c n' c' : Nat} {w : World} (ha : ArgB w A n c la) (hb : ArgB w A' n' c' lb) (hT : Tab w) (h5 : n ≤ 500) (h5' : n' ≤ 500) (hx : scn la = la.length) (hy : scn lb = lb.length) :
    Calls Tryd.prog 7 #[.slice A n c, .slice A' n' c'] w fun e w' => e = .returned (.bool true) ∧ Below w.heap.size w w' := by
  obtain ⟨hn, hnc, hcm, hA, hnil⟩ := ha
  obtain ⟨hn', hnc', hcm', hA', hnil'⟩ := hb
  have X1 := Lib.hid (show (0 : Int) = chkAt la ∧ true = chkOk la by simp [chkAt, chkOk, hx])
  have Y1 := Lib.hid (show (0 : Int) = chkAt lb ∧ true = chkOk lb by simp [chkAt, chkOk, hy])
  have Z1 := Lib.hid (show (0 : Int) = chkAt (la ++ lb) ∧ true = chkOk (la ++ lb) by simp [chkAt, chkOk, scn_append lb hx, hy])
  have HT := Lib.hid hT
  have Hn := Lib.hid hn
  have Hn' := Lib.hid hn'
  have Hnil := Lib.hid hnil
  have Hnil' := Lib.hid hnil'
  have h6 : ¬ (500 : Int) < n := by omega
  have h7 : ¬ (500 : Int) < n' := by omega
  have hcm1 := hcm
  have hcm2 := hcm'
  unfold maxLen at hcm1 hcm2
  clear hT hn hn' hnil hnil'
  obtain ⟨i0, hi, hz0, hz1, hz2⟩ := info_parts (show (Tryd.prog.info? 5).map (fun i => (i.zero, i.size, i.bytes)) = some (some (.int .u8 0), 1, 1) by kernel_rfl)
  go_enter Tryd.func7, Tryd.ntmps7
  go_wp2_with (first
    | (at_builtin; refine wpApp _ rfl (.const (.slice none 0 0)) (.tmp 26) 22 rfl w.heap.size 5 i0 (.int .u8 0) 1 Tryd.underlying22 hi hz0 hz1 hz2 rfl (.slice none 0 0) 0 [] rfl (World.ownsRow_nil _ _ _ _) A n c w.heap.size la rfl Hn.out hA Hnil.out (by unfold maxLen; omega) (by omega) (Nat.le_refl _) ?_; intro v1 w1 hown1 hg1 hat1)
    | (at_builtin; refine wpApp _ rfl (.tmp 27) (.tmp 28) 22 rfl w.heap.size 5 i0 (.int .u8 0) 1 Tryd.underlying22 hi hz0 hz1 hz2 rfl v1 (0 + n) ([] ++ bytV la) rfl hown1 A' n' c' w.heap.size lb rfl Hn'.out (Lst.keep hA' fun p hp => by have h : Below w.heap.size w w1 := (Below.refl _ _).grown hg1 (Nat.le_refl _) (fun _ h => by cases h); exact h.cell hp) Hnil'.out (by unfold maxLen; omega) (by omega) hg1.size ?_; intro v2 w2 hown2 hg2 hat2; obtain ⟨hbel, Ab, cb, rfl, hbc, hbm, hbn, hBb⟩ := join_made hown1 hg1 hat1 hown2 hg2; have Hbn := Lib.hid hbn; have HT2 := Lib.hid (HT.out.below hbel HT.out.2.2); have hA2 := hA.below hbel; have hA2' := hA'.below hbel; clear hown1 hg1 hat1 hown2 hg2 hat2 hbn)
    | (go_at_call 11; ((with_reducible refine (check_is (x := 0) (p := true) n c Hn.out hnc hA2 hcm X1.out.1 X1.out.2).mono ?_); rintro e w' ⟨rfl, rfl⟩))
    | (go_at_call 11; ((with_reducible refine (check_is (x := 0) (p := true) n' c' Hn'.out hnc' hA2' hcm' Y1.out.1 Y1.out.2).mono ?_); rintro e w' ⟨rfl, rfl⟩))
    | (go_at_call 11; ((with_reducible refine (check_is (x := 0) (p := true) (n + n') cb Hbn.out hbc hBb hbm Z1.out.1 Z1.out.2).mono ?_); rintro e w' ⟨rfl, rfl⟩)))
  go_loop [14] (fun i => ∃ k : Nat, k ≤ n ∧ i = .int .i64 k) (fun i => n - (intOf i).toNat)
  case atStart => exact ⟨0, Nat.zero_le _, rfl⟩
  case round =>
    obtain ⟨k, hk, rfl⟩ := hrel
    by_cases hlt : k < n
    · have hkl : k < la.length := by have := Hn.out; omega
      have S := Lib.hid (chk_single la hkl)
      obtain ⟨b, off, rfl, _, hc⟩ := hA2.at_ hkl
      have hck := hc k hkl
      have hcut := (hA2.cutAt (k := k) (by omega)).take 1
      have HL := Lib.hid (show 1 = ((la.drop k).take 1).length by simp; omega)
      clear hc
      by_cases h128 : bt la k < 128
      · go_wp2_with (go_at_call 11; ((refine (check_is (x := 0) (p := true) _ _ HL.out (by omega) hcut (by unfold maxLen; omega) S.out.1.symm (by rw [S.out.2]; simp [h128])).mono ?_); rintro e w' ⟨rfl, rfl⟩))
        go_round
        case rel => exact ⟨k + 1, by omega, by go_num⟩
        case measure => simp [intOf]; omega
      · have h128' : decide (bt la k < 128) = false := by simpa using h128
        go_wp2_with (go_at_call 11; ((refine (check_is (x := 0) (p := false) _ _ HL.out (by omega) hcut (by unfold maxLen; omega) S.out.1.symm (by rw [S.out.2]; simp [h128])).mono ?_); rintro e w' ⟨rfl, rfl⟩))
        go_round
        case rel => exact ⟨k + 1, by omega, by go_num⟩
        case measure => simp [intOf]; omega
    · go_wp2_with (go_at_call 9; refine (lives_tab HT2.out).mono ?_; rintro e w' ⟨rfl, hb⟩)
      go_ret
      exact ⟨rfl, hbel.trans (hb.mono hbel.size)⟩
set_option maxHeartbeats 2000000 in
theorem join_tf {la lb : List UInt8} {A A' : Option Addr} {n c n' c' : Nat} {w : World} (ha : ArgB w A n c la) (hb : ArgB w A' n' c' lb) (hT : Tab w) (h5 : n ≤ 500) (h5' : n' ≤ 500) (hx : scn la = la.length) (hy : scn lb < lb.length) :
    Calls Tryd.prog 7 #[.slice A n c, .slice A' n' c'] w fun e w' => e = .returned (.bool true) ∧ Below w.heap.size w w' := by
  obtain ⟨hn, hnc, hcm, hA, hnil⟩ := ha
  obtain ⟨hn', hnc', hcm', hA', hnil'⟩ := hb
  obtain ⟨j0, hj0⟩ : ∃ j0, j0 = scn lb := ⟨_, rfl⟩
  have hjn : j0 ≤ n' := by omega
  have X1 := Lib.hid (show (0 : Int) = chkAt la ∧ true = chkOk la by simp [chkAt, chkOk, hx])
  have Y1 := Lib.hid (show (j0 : Int) = chkAt lb ∧ false = chkOk lb from ⟨by rw [chkAt, if_neg (by omega), hj0], by simp [chkOk]; omega⟩)
  have Z1 := Lib.hid (show (n : Int) + j0 = chkAt (la ++ lb) ∧ false = chkOk (la ++ lb) from ⟨by rw [chkAt, scn_append lb hx, if_neg (by simp; omega), hj0, hn]; omega, by simp [chkOk, scn_append lb hx]; omega⟩)
  clear hx hy hj0
  have HT := Lib.hid hT
  have Hn := Lib.hid hn
  have Hn' := Lib.hid hn'
  have Hnil := Lib.hid hnil
  have Hnil' := Lib.hid hnil'
  have h6 : ¬ (500 : Int) < n := by omega
  have h7 : ¬ (500 : Int) < n' := by omega
  have hcm1 := hcm
  have hcm2 := hcm'
  unfold maxLen at hcm1 hcm2
  clear hT hn hn' hnil hnil'
  obtain ⟨i0, hi, hz0, hz1, hz2⟩ := info_parts (show (Tryd.prog.info? 5).map (fun i => (i.zero, i.size, i.bytes)) = some (some (.int .u8 0), 1, 1) by kernel_rfl)
  go_enter Tryd.func7, Tryd.ntmps7
  go_wp2_with (first
    | (at_builtin; refine wpApp _ rfl (.const (.slice none 0 0)) (.tmp 26) 22 rfl w.heap.size 5 i0 (.int .u8 0) 1 Tryd.underlying22 hi hz0 hz1 hz2 rfl (.slice none 0 0) 0 [] rfl (World.ownsRow_nil _ _ _ _) A n c w.heap.size la rfl Hn.out hA Hnil.out (by unfold maxLen; omega) (by omega) (Nat.le_refl _) ?_; intro v1 w1 hown1 hg1 hat1)
    | (at_builtin; refine wpApp _ rfl (.tmp 27) (.tmp 28) 22 rfl w.heap.size 5 i0 (.int .u8 0) 1 Tryd.underlying22 hi hz0 hz1 hz2 rfl v1 (0 + n) ([] ++ bytV la) rfl hown1 A' n' c' w.heap.size lb rfl Hn'.out (Lst.keep hA' fun p hp => by have h : Below w.heap.size w w1 := (Below.refl _ _).grown hg1 (Nat.le_refl _) (fun _ h => by cases h); exact h.cell hp) Hnil'.out (by unfold maxLen; omega) (by omega) hg1.size ?_; intro v2 w2 hown2 hg2 hat2; obtain ⟨hbel, Ab, cb, rfl, hbc, hbm, hbn, hBb⟩ := join_made hown1 hg1 hat1 hown2 hg2; have Hbn := Lib.hid hbn; have HT2 := Lib.hid (HT.out.below hbel HT.out.2.2); have hA2 := hA.below hbel; have hA2' := hA'.below hbel; clear hown1 hg1 hat1 hown2 hg2 hat2 hbn)
    | (go_at_call 11; ((with_reducible refine (check_is (x := 0) (p := true) n c Hn.out hnc hA2 hcm X1.out.1 X1.out.2).mono ?_); rintro e w' ⟨rfl, rfl⟩))
    | (go_at_call 11; ((with_reducible refine (check_is (x := (j0 : Int)) (p := false) n' c' Hn'.out hnc' hA2' hcm' Y1.out.1 Y1.out.2).mono ?_); rintro e w' ⟨rfl, rfl⟩))
    | (go_at_call 11; ((with_reducible refine (check_is (x := (n : Int) + j0) (p := false) (n + n') cb Hbn.out hbc hBb hbm Z1.out.1 Z1.out.2).mono ?_); rintro e w' ⟨rfl, rfl⟩)))
  go_loop [14] (fun i => ∃ k : Nat, k ≤ n ∧ i = .int .i64 k) (fun i => n - (intOf i).toNat)
  case atStart => exact ⟨0, Nat.zero_le _, rfl⟩
  case round =>
    obtain ⟨k, hk, rfl⟩ := hrel
    by_cases hlt : k < n
    · have hkl : k < la.length := by have := Hn.out; omega
      have S := Lib.hid (chk_single la hkl)
      obtain ⟨b, off, rfl, _, hc⟩ := hA2.at_ hkl
      have hck := hc k hkl
      have hcut := (hA2.cutAt (k := k) (by omega)).take 1
      have HL := Lib.hid (show 1 = ((la.drop k).take 1).length by simp; omega)
      clear hc
      by_cases h128 : bt la k < 128
      · go_wp2_with (go_at_call 11; ((refine (check_is (x := 0) (p := true) _ _ HL.out (by omega) hcut (by unfold maxLen; omega) S.out.1.symm (by rw [S.out.2]; simp [h128])).mono ?_); rintro e w' ⟨rfl, rfl⟩))
        go_round
        case rel => exact ⟨k + 1, by omega, by go_num⟩
        case measure => simp [intOf]; omega
      · have h128' : decide (bt la k < 128) = false := by simpa using h128
        go_wp2_with (go_at_call 11; ((refine (check_is (x := 0) (p := false) _ _ HL.out (by omega) hcut (by unfold maxLen; omega) S.out.1.symm (by rw [S.out.2]; simp [h128])).mono ?_); rintro e w' ⟨rfl, rfl⟩))
        go_round
        case rel => exact ⟨k + 1, by omega, by go_num⟩
        case measure => simp [intOf]; omega
    · go_wp2_with (go_at_call 9; refine (lives_tab HT2.out).mono ?_; rintro e w' ⟨rfl, hb⟩)
      go_ret
      exact ⟨rfl, hbel.trans (hb.mono hbel.size)⟩
set_option maxHeartbeats 2000000 in
theorem join_f3 {la lb : List UInt8} {A A' : Option Addr} {n c n' c' : Nat} {w : World} (ha : ArgB w A n c la) (hb : ArgB w A' n' c' lb) (hT : Tab w) (h5 : n ≤ 500) (h5' : n' ≤ 500) (_hx : scn la < la.length) (h3 : scn la + 3 < la.length) :
    Calls Tryd.prog 7 #[.slice A n c, .slice A' n' c'] w fun e w' => e = .returned (.bool true) ∧ Below w.heap.size w w' := by
  obtain ⟨hn, hnc, hcm, hA, hnil⟩ := ha
  obtain ⟨hn', hnc', hcm', hA', hnil'⟩ := hb
  obtain ⟨i0, hi0⟩ : ∃ i0, i0 = scn la := ⟨_, rfl⟩
  have hin : i0 ≤ n := by omega
  have hin' : ¬ (n : Int) < i0 := by omega
  have X1 := Lib.hid (show (i0 : Int) = chkAt la ∧ false = chkOk la from ⟨by rw [chkAt, if_neg (by omega), hi0], by simp [chkOk]; omega⟩)
  obtain ⟨j0, hj0⟩ : ∃ j0, j0 = chkAt lb := ⟨_, rfl⟩
  obtain ⟨p0, hp0⟩ : ∃ p0, p0 = chkOk lb := ⟨_, rfl⟩
  have Y1 := Lib.hid (show j0 = chkAt lb ∧ p0 = chkOk lb from ⟨hj0, hp0⟩)
  have HK := Lib.hid (show i0 = (la.take i0).length by simp; omega)
  have T1 := Lib.hid (show (0 : Int) = chkAt (la.take i0) ∧ true = chkOk (la.take i0) by
    rw [hi0, chk_take]; exact ⟨by rw [chkAt, if_pos (by rw [(scn_take la).1]; simp; omega)], rfl⟩)
  clear hj0 hp0
  have Z1 := Lib.hid (show (i0 : Int) = chkAt (la ++ lb) ∧ false = chkOk (la ++ lb) from ⟨by rw [chkAt, scn_wrong lb h3, if_neg (by simp; omega), hi0], by simp [chkOk, scn_wrong lb h3]; omega⟩)
  have h33 : (i0 : Int) + 3 < n := by omega
  clear _hx h3 hi0
  have HT := Lib.hid hT
  have Hn := Lib.hid hn
  have Hn' := Lib.hid hn'
  have Hnil := Lib.hid hnil
  have Hnil' := Lib.hid hnil'
  have h6 : ¬ (500 : Int) < n := by omega
  have h7 : ¬ (500 : Int) < n' := by omega
  have hcm1 := hcm
  have hcm2 := hcm'
  unfold maxLen at hcm1 hcm2
  clear hT hn hn' hnil hnil'
  obtain ⟨TI, hi, hz0, hz1, hz2⟩ := info_parts (show (Tryd.prog.info? 5).map (fun i => (i.zero, i.size, i.bytes)) = some (some (.int .u8 0), 1, 1) by kernel_rfl)
  go_enter Tryd.func7, Tryd.ntmps7
  go_wp2_with (first
    | (at_builtin; refine wpApp _ rfl (.const (.slice none 0 0)) (.tmp 26) 22 rfl w.heap.size 5 TI (.int .u8 0) 1 Tryd.underlying22 hi hz0 hz1 hz2 rfl (.slice none 0 0) 0 [] rfl (World.ownsRow_nil _ _ _ _) A n c w.heap.size la rfl Hn.out hA Hnil.out (by unfold maxLen; omega) (by omega) (Nat.le_refl _) ?_; intro v1 w1 hown1 hg1 hat1)
    | (at_builtin; refine wpApp _ rfl (.tmp 27) (.tmp 28) 22 rfl w.heap.size 5 TI (.int .u8 0) 1 Tryd.underlying22 hi hz0 hz1 hz2 rfl v1 (0 + n) ([] ++ bytV la) rfl hown1 A' n' c' w.heap.size lb rfl Hn'.out (Lst.keep hA' fun p hp => by have h : Below w.heap.size w w1 := (Below.refl _ _).grown hg1 (Nat.le_refl _) (fun _ h => by cases h); exact h.cell hp) Hnil'.out (by unfold maxLen; omega) (by omega) hg1.size ?_; intro v2 w2 hown2 hg2 hat2; obtain ⟨hbel, Ab, cb, rfl, hbc, hbm, hbn, hBb⟩ := join_made hown1 hg1 hat1 hown2 hg2; have Hbn := Lib.hid hbn; have HT2 := Lib.hid (HT.out.below hbel HT.out.2.2); have hA2 := hA.below hbel; have hA2' := hA'.below hbel; clear hown1 hg1 hat1 hown2 hg2 hat2 hbn)
    | (go_at_call 11; ((with_reducible refine (check_is (x := (i0 : Int)) (p := false) n c Hn.out hnc hA2 hcm X1.out.1 X1.out.2).mono ?_); rintro e w' ⟨rfl, rfl⟩))
    | (go_at_call 11; ((with_reducible refine (check_is (x := j0) (p := p0) n' c' Hn'.out hnc' hA2' hcm' Y1.out.1 Y1.out.2).mono ?_); rintro e w' ⟨rfl, rfl⟩))
    | (go_at_call 11; ((with_reducible refine (check_is (x := (i0 : Int)) (p := false) (n + n') cb Hbn.out hbc hBb hbm Z1.out.1 Z1.out.2).mono ?_); rintro e w' ⟨rfl, rfl⟩))
    | (go_at_call 11; ((with_reducible refine (check_is (x := 0) (p := true) i0 c HK.out (by omega) (hA2.take i0) hcm T1.out.1 T1.out.2).mono ?_); rintro e w' ⟨rfl, rfl⟩)))
  go_loop [14] (fun i => ∃ k : Nat, k ≤ n ∧ i = .int .i64 k) (fun i => n - (intOf i).toNat)
  case atStart => exact ⟨0, Nat.zero_le _, rfl⟩
  case round =>
    obtain ⟨k, hk, rfl⟩ := hrel
    by_cases hlt : k < n
    · have hkl : k < la.length := by have := Hn.out; omega
      have S := Lib.hid (chk_single la hkl)
      obtain ⟨b, off, rfl, _, hc⟩ := hA2.at_ hkl
      have hck := hc k hkl
      have hcut := (hA2.cutAt (k := k) (by omega)).take 1
      have HL := Lib.hid (show 1 = ((la.drop k).take 1).length by simp; omega)
      clear hc
      by_cases h128 : bt la k < 128
      · go_wp2_with (go_at_call 11; ((refine (check_is (x := 0) (p := true) _ _ HL.out (by omega) hcut (by unfold maxLen; omega) S.out.1.symm (by rw [S.out.2]; simp [h128])).mono ?_); rintro e w' ⟨rfl, rfl⟩))
        go_round
        case rel => exact ⟨k + 1, by omega, by go_num⟩
        case measure => simp [intOf]; omega
      · have h128' : decide (bt la k < 128) = false := by simpa using h128
        go_wp2_with (go_at_call 11; ((refine (check_is (x := 0) (p := false) _ _ HL.out (by omega) hcut (by unfold maxLen; omega) S.out.1.symm (by rw [S.out.2]; simp [h128])).mono ?_); rintro e w' ⟨rfl, rfl⟩))
        go_round
        case rel => exact ⟨k + 1, by omega, by go_num⟩
        case measure => simp [intOf]; omega
    · go_wp2_with (go_at_call 9; refine (lives_tab HT2.out).mono ?_; rintro e w' ⟨rfl, hb⟩)
      go_ret
      exact ⟨rfl, hbel.trans (hb.mono hbel.size)⟩
set_option maxHeartbeats 2000000 in
theorem join_f4 {la lb : List UInt8} {A A' : Option Addr} {n c n' c' : Nat} {w : World} (ha : ArgB w A n c la) (hb : ArgB w A' n' c' lb) (hT : Tab w) (h5 : n ≤ 500) (h5' : n' ≤ 500) (hx : scn la < la.length) (h3 : ¬ scn la + 3 < la.length) :
    Calls Tryd.prog 7 #[.slice A n c, .slice A' n' c'] w fun e w' => e = .returned (.bool true) ∧ Below w.heap.size w w' := by
  obtain ⟨hn, hnc, hcm, hA, hnil⟩ := ha
  obtain ⟨hn', hnc', hcm', hA', hnil'⟩ := hb
  obtain ⟨i0, hi0⟩ : ∃ i0, i0 = scn la := ⟨_, rfl⟩
  have hin : i0 ≤ n := by omega
  have hin' : ¬ (n : Int) < i0 := by omega
  have X1 := Lib.hid (show (i0 : Int) = chkAt la ∧ false = chkOk la from ⟨by rw [chkAt, if_neg (by omega), hi0], by simp [chkOk]; omega⟩)
  obtain ⟨j0, hj0⟩ : ∃ j0, j0 = chkAt lb := ⟨_, rfl⟩
  obtain ⟨p0, hp0⟩ : ∃ p0, p0 = chkOk lb := ⟨_, rfl⟩
  have Y1 := Lib.hid (show j0 = chkAt lb ∧ p0 = chkOk lb from ⟨hj0, hp0⟩)
  have HK := Lib.hid (show i0 = (la.take i0).length by simp; omega)
  have T1 := Lib.hid (show (0 : Int) = chkAt (la.take i0) ∧ true = chkOk (la.take i0) by
    rw [hi0, chk_take]; exact ⟨by rw [chkAt, if_pos (by rw [(scn_take la).1]; simp; omega)], rfl⟩)
  clear hj0 hp0
  obtain ⟨k0, hk0⟩ : ∃ k0, k0 = chkAt (la ++ lb) := ⟨_, rfl⟩
  obtain ⟨q0, hq0⟩ : ∃ q0, q0 = chkOk (la ++ lb) := ⟨_, rfl⟩
  have Z1 := Lib.hid (show k0 = chkAt (la ++ lb) ∧ q0 = chkOk (la ++ lb) from ⟨hk0, hq0⟩)
  have h33 : ¬ (i0 : Int) + 3 < n := by omega
  clear hx h3 hi0 hk0 hq0
  have HT := Lib.hid hT
  have Hn := Lib.hid hn
  have Hn' := Lib.hid hn'
  have Hnil := Lib.hid hnil
  have Hnil' := Lib.hid hnil'
  have h6 : ¬ (500 : Int) < n := by omega
  have h7 : ¬ (500 : Int) < n' := by omega
  have hcm1 := hcm
  have hcm2 := hcm'
  unfold maxLen at hcm1 hcm2
  clear hT hn hn' hnil hnil'
  obtain ⟨TI, hi, hz0, hz1, hz2⟩ := info_parts (show (Tryd.prog.info? 5).map (fun i => (i.zero, i.size, i.bytes)) = some (some (.int .u8 0), 1, 1) by kernel_rfl)
  go_enter Tryd.func7, Tryd.ntmps7
  go_wp2_with (first
    | (at_builtin; refine wpApp _ rfl (.const (.slice none 0 0)) (.tmp 26) 22 rfl w.heap.size 5 TI (.int .u8 0) 1 Tryd.underlying22 hi hz0 hz1 hz2 rfl (.slice none 0 0) 0 [] rfl (World.ownsRow_nil _ _ _ _) A n c w.heap.size la rfl Hn.out hA Hnil.out (by unfold maxLen; omega) (by omega) (Nat.le_refl _) ?_; intro v1 w1 hown1 hg1 hat1)
    | (at_builtin; refine wpApp _ rfl (.tmp 27) (.tmp 28) 22 rfl w.heap.size 5 TI (.int .u8 0) 1 Tryd.underlying22 hi hz0 hz1 hz2 rfl v1 (0 + n) ([] ++ bytV la) rfl hown1 A' n' c' w.heap.size lb rfl Hn'.out (Lst.keep hA' fun p hp => by have h : Below w.heap.size w w1 := (Below.refl _ _).grown hg1 (Nat.le_refl _) (fun _ h => by cases h); exact h.cell hp) Hnil'.out (by unfold maxLen; omega) (by omega) hg1.size ?_; intro v2 w2 hown2 hg2 hat2; obtain ⟨hbel, Ab, cb, rfl, hbc, hbm, hbn, hBb⟩ := join_made hown1 hg1 hat1 hown2 hg2; have Hbn := Lib.hid hbn; have HT2 := Lib.hid (HT.out.below hbel HT.out.2.2); have hA2 := hA.below hbel; have hA2' := hA'.below hbel; clear hown1 hg1 hat1 hown2 hg2 hat2 hbn)
    | (go_at_call 11; ((with_reducible refine (check_is (x := (i0 : Int)) (p := false) n c Hn.out hnc hA2 hcm X1.out.1 X1.out.2).mono ?_); rintro e w' ⟨rfl, rfl⟩))
    | (go_at_call 11; ((with_reducible refine (check_is (x := j0) (p := p0) n' c' Hn'.out hnc' hA2' hcm' Y1.out.1 Y1.out.2).mono ?_); rintro e w' ⟨rfl, rfl⟩))
    | (go_at_call 11; ((with_reducible refine (check_is (x := k0) (p := q0) (n + n') cb Hbn.out hbc hBb hbm Z1.out.1 Z1.out.2).mono ?_); rintro e w' ⟨rfl, rfl⟩))
    | (go_at_call 11; ((with_reducible refine (check_is (x := 0) (p := true) i0 c HK.out (by omega) (hA2.take i0) hcm T1.out.1 T1.out.2).mono ?_); rintro e w' ⟨rfl, rfl⟩)))
  go_loop [14] (fun i => ∃ k : Nat, k ≤ n ∧ i = .int .i64 k) (fun i => n - (intOf i).toNat)
  case atStart => exact ⟨0, Nat.zero_le _, rfl⟩
  case round =>
    obtain ⟨k, hk, rfl⟩ := hrel
    by_cases hlt : k < n
    · have hkl : k < la.length := by have := Hn.out; omega
      have S := Lib.hid (chk_single la hkl)
      obtain ⟨b, off, rfl, _, hc⟩ := hA2.at_ hkl
      have hck := hc k hkl
      have hcut := (hA2.cutAt (k := k) (by omega)).take 1
      have HL := Lib.hid (show 1 = ((la.drop k).take 1).length by simp; omega)
      clear hc
      by_cases h128 : bt la k < 128
      · go_wp2_with (go_at_call 11; ((refine (check_is (x := 0) (p := true) _ _ HL.out (by omega) hcut (by unfold maxLen; omega) S.out.1.symm (by rw [S.out.2]; simp [h128])).mono ?_); rintro e w' ⟨rfl, rfl⟩))
        go_round
        case rel => exact ⟨k + 1, by omega, by go_num⟩
        case measure => simp [intOf]; omega
      · have h128' : decide (bt la k < 128) = false := by simpa using h128
        go_wp2_with (go_at_call 11; ((refine (check_is (x := 0) (p := false) _ _ HL.out (by omega) hcut (by unfold maxLen; omega) S.out.1.symm (by rw [S.out.2]; simp [h128])).mono ?_); rintro e w' ⟨rfl, rfl⟩))
        go_round
        case rel => exact ⟨k + 1, by omega, by go_num⟩
        case measure => simp [intOf]; omega
    · go_wp2_with (go_at_call 9; refine (lives_tab HT2.out).mono ?_; rintro e w' ⟨rfl, hb⟩)
      go_ret
      exact ⟨rfl, hbel.trans (hb.mono hbel.size)⟩
/-- The law Utf8sJoin. -/
theorem join_any {la lb : List UInt8} {A A' : Option Addr} {n c n' c' : Nat} {w : World} (ha : ArgB w A n c la) (hb : ArgB w A' n' c' lb) (hT : Tab w) :
    Calls Tryd.prog 7 #[.slice A n c, .slice A' n' c'] w fun e w' => e = .returned (.bool true) ∧ Below w.heap.size w w' := by
  by_cases h5 : 500 < n
  · exact join_long1 ha hb hT h5
  by_cases h6 : 500 < n'
  · exact join_long2 ha hb hT (by omega) h6
  have h1 := scn_le la
  have h2 := scn_le lb
  by_cases hx : scn la = la.length
  · by_cases hy : scn lb = lb.length
    · exact join_tt ha hb hT (by omega) (by omega) hx hy
    · exact join_tf ha hb hT (by omega) (by omega) hx (by omega)
  · by_cases h3 : scn la + 3 < la.length
    · exact join_f3 ha hb hT (by omega) (by omega) (by omega) h3
    · exact join_f4 ha hb hT (by omega) (by omega) (by omega) h3
end Go.Proofs.YtllnnogdpagioaaDoor
