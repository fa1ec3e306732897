/- The law Utf8sPut, walked: it answers true, and nothing that was there is turned. -/
import Derived.Test.YtllnnogdpagioaaDoorRefPut
import Derived.Test.YtllnnogdpagioaaDoorLawCheck
namespace Go.Proofs.YtllnnogdpagioaaDoor
open Go.RowKit

theorem ints_at {l : List Int} {j : Nat} {u : Value} (h : (ints l)[j]? = some u) : j < l.length ∧ u = .int .i64 (it l j) := by
  unfold ints at h
  rw [List.getElem?_map] at h
  obtain ⟨c, hc, rfl⟩ := Option.map_eq_some_iff.1 h
  obtain ⟨hj, rfl⟩ := List.getElem?_eq_some_iff.1 hc
  exact ⟨hj, by simp [it, hj]⟩
theorem ints_cells {w : World} {B : Nat} {ad : Addr} {l : List Int} (h : Num w B (some ad) l) : ∀ j u, (ints l)[j]? = some u → w.cell? (ad.add j) = some u := fun j u hu => by
  obtain ⟨hj, rfl⟩ := ints_at hu
  obtain ⟨b, off, e, _, hc⟩ := h.at_ hj
  obtain rfl := Option.some.inj e
  rw [addAt, hc j hj]
theorem num_none {w : World} {B : Nat} {l : List Int} (h : Num w B none l) : l = [] := by
  rcases Nat.eq_zero_or_pos l.length with h0 | h0
  · exact List.eq_nil_of_length_eq_zero h0
  · obtain ⟨_, _, e, _⟩ := h.at_ h0; cases e
theorem Num.front {w : World} {B : Nat} {A : Option Addr} {l r : List Int} (h : Num w B A (l ++ r)) : Num w B A l := by
  have := Lst.less (m := l.length) h (by simp)
  exact this.same fun k hk => by simp [it, List.getElem?_append, hk]
/-- The marks behind a twin. -/
def mark2 : List Int := [90, 90]
def TwinNPost (w : World) (l : List Int) (n : Nat) (e : Ending) (w' : World) : Prop :=
  e = .returned (.slice (some ⟨w.heap.size, 0, none⟩) n (n + 2)) ∧ Num w' w'.heap.size (some ⟨w.heap.size, 0, none⟩) (l ++ mark2) ∧ Below w.heap.size w w' ∧ w.heap.size < w'.heap.size

set_option maxHeartbeats 1000000 in
theorem twinn_any {l : List Int} {A : Option Addr} {n c : Nat} {w : World} (ha : ArgN w A n c l) (hs : n ≤ 65536) :
    Calls Tryd.prog 20 #[.slice A n c] w (TwinNPost w l n) := by
  obtain ⟨hn, hnc, hcm, hA, hnil⟩ := ha
  have Hn := Lib.hid hn
  have Hnil := Lib.hid hnil
  have HL := Lib.hid (show (ints l).length = n * 1 by rw [hn]; simp [ints])
  clear hn hnil
  obtain ⟨i0, hi, hz0, hz1, hz2⟩ := info_parts info3
  go_enter Tryd.func20, Tryd.ntmps20
  go_wp2_with (first
    | (at_make; refine wpList_make_own _ rfl _ _ 27 rfl w.heap.size 3 i0 (.int .i64 0) 1 Tryd.underlying27 hi hz0 hz1 .i64 .i64 _ (n + 2) rfl rfl (by simp) (by rw [hz2]; omega) (by unfold maxLen; omega) (Nat.le_refl _) ?_; intro w1 hown1 hg1; have hb1 : Below w.heap.size w w1 := (Below.refl _ _).grown hg1 (Nat.le_refl _) (fun _ h => by cases h))
    | (at_builtin; refine wpList_append_fits_any _ rfl (.tmp 8) (.tmp 9) 27 rfl w.heap.size 3 i0 1 Tryd.underlying27 hi hz1 w.heap.size 0 (n + 2) [] rfl hown1 A n c (ints l) rfl HL.out (fun h => ⟨by subst h; have := num_none hA; have h2 := Hn.out; rw [this] at h2; exact h2, Hnil.out h⟩) (fun ad h => by subst h; exact ints_cells (Lst.below hA hb1)) (ints_oneCell .i64 l) (by omega) ?_; intro w2 hown2 hg2; simp only [Nat.zero_add, List.nil_append] at hown2)
    | (at_builtin; refine wpList_append_fits _ rfl (.tmp 11) (.tmp 12) 27 rfl w.heap.size 3 i0 1 Tryd.underlying27 hi hz1 w.heap.size n (n + 2) (ints l) rfl (hown2.alloc _) ⟨w2.heap.size, 0, none⟩ 2 2 (ints mark2) rfl rfl (cells_new _ _ rfl) (ints_oneCell .i64 mark2) (by omega) ?_; intro w3 hown3 hg3))
  have hb2 := hb1.grown hg2 hb1.size (fun _ h => by cases h; exact Nat.le_refl _)
  have hb3 := (hb2.alloc hb2.size _).grown hg3 (by have := hb2.size; simp; omega) (fun _ h => by cases h; exact Nat.le_refl _)
  have h3 : w3.ownsRow w.heap.size 3 1 (.slice (some ⟨w.heap.size, 0, none⟩) (n + 2) (n + 2)) (n + 2) (ints (l ++ mark2)) := by simpa [ints] using hown3
  have hN3 := own_num h3
  have hlt := (h3.lt _ rfl).2
  clear hown1 hg1 hb1 hown2 hg2 hb2 hown3 hg3 h3
  go_wp2
  go_ret
  exact ⟨rfl, hN3, hb3, hlt⟩

set_option maxHeartbeats 1000000 in
theorem leftn_any {l : List Int} {B B' g : Nat} {A : Option Addr} (n c : Nat) {w : World} (hn : n = l.length) (hT : Num w B (some ⟨g, 0, none⟩) (l ++ mark2)) (hA : Num w B' A l) (hs : n ≤ 65536) :
    Calls Tryd.prog 24 #[.slice (some ⟨g, 0, none⟩) n (n + 2), .slice A n c] w fun e w' => e = .returned (.bool true) ∧ ∃ q, w' = w.drewN q := by
  have hT1 := hT.front
  have hlen : (l ++ mark2).length = n + 2 := by rw [hn]; simp [mark2]
  obtain ⟨g', off', e, _, hc⟩ := hT.at_ (k := 0) (by omega)
  injection e with e
  injection e with e1 e2
  subst e1; subst e2
  have k0 : w.cell? ⟨g, n, none⟩ = some (.int .i64 90) := by have := hc n (by omega); rw [Nat.zero_add] at this; rw [this, hn]; simp [it, mark2]
  have k1 : w.cell? ⟨g, n + 1, none⟩ = some (.int .i64 90) := by have := hc (n + 1) (by omega); rw [Nat.zero_add] at this; rw [this, hn]; simp [it, mark2]
  have Hn := Lib.hid hn
  clear hn hc hlen
  go_enter Tryd.func24, Tryd.ntmps24
  go_wp2_with (go_at_call 14; refine (samen_is (p := true) _ _ _ _ Hn.out hT1 Hn.out hA (by unfold maxLen; omega) (by unfold maxLen; omega) (by simp)).mono ?_; rintro e w' ⟨rfl, q, rfl⟩)
  go_ret
  exact ⟨rfl, q, rfl⟩

theorem puts_len (l : List Int) : (puts l).length = (putI l).length := by simp [puts]

theorem lawput_long {l : List Int} {A : Option Addr} {n c : Nat} {w : World} (ha : ArgN w A n c l) (hT : Tab w) (h : 500 < n) :
    Calls Tryd.prog 5 #[.slice A n c] w fun e w' => e = .returned (.bool true) ∧ Below w.heap.size w w' := by
  obtain ⟨_, h1, h2, _⟩ := ha
  unfold maxLen at h2
  have HT := Lib.hid hT
  clear hT
  have h' : (500 : Int) < n := by omega
  go_enter Tryd.func5, Tryd.ntmps5
  go_wp2_with (go_at_call 9; refine (lives_tab HT.out).mono ?_; rintro e w' ⟨rfl, hb⟩)
  go_ret
  exact ⟨rfl, hb⟩

set_option maxHeartbeats 2000000 in
theorem lawput_short {l : List Int} {A : Option Addr} {n c : Nat} {w : World} (ha : ArgN w A n c l) (hT : Tab w) (h : n ≤ 500) :
    Calls Tryd.prog 5 #[.slice A n c] w fun e w' => e = .returned (.bool true) ∧ Below w.heap.size w w' := by
  have HT := Lib.hid hT
  have Ha := Lib.hid ha
  obtain ⟨hn, hnc, hcm, hA, _⟩ := ha
  have hcm' := hcm
  unfold maxLen at hcm'
  have Hn := Lib.hid hn
  have h' : ¬ (500 : Int) < n := by omega
  have h1 := hT.2.2
  obtain ⟨N, HN⟩ : ∃ N, Hid (N = (putI l).length) := ⟨_, rfl⟩
  have hN : N ≤ 2000 := by have := HN.out; have h2 := putTo_len l l.length; rw [← hn] at h2; unfold putI at this; rw [← hn] at this; omega
  have HNb := Lib.hid (show N = (puts l).length by rw [puts_len]; exact HN.out)
  clear hT hn
  go_enter Tryd.func5, Tryd.ntmps5
  go_wp2_with fail
  refine (twinn_any Ha.out (by omega)).mono ?_
  rintro e w1 ⟨rfl, hB1, hb1, hs1⟩
  have hB1l := hB1.front
  have HT1 := Lib.hid (HT.out.below hb1 h1)
  go_wp2_with fail
  refine (puts_is n (n + 2) w1.heap.size N Hn.out hB1l (Nat.le_refl _) (by omega) HT1.out.2.1 HT1.out.2.2 rfl rfl HN.out).mono ?_
  rintro e w2 ⟨rfl, hown2, hb2⟩
  have hs2 := (hown2.lt _ rfl).2
  obtain ⟨f1, hr1⟩ := own_row hown2
  have hX2 : Byt w2 w2.heap.size (some ⟨w1.heap.size, 0, none⟩) (puts l) := own_byt (putTo_bd l _) hown2
  have hb12 : Below w.heap.size w w2 := hb1.trans (hb2.mono (Nat.le_of_lt hs1))
  have hA2 : Num w2 w.heap.size A l := Lst.below hA hb12
  clear hb1
  go_wp2_with fail
  refine (rput_any n c Hn.out (Lst.more hA2 hb12.size) (by omega)).mono ?_
  rintro e w3 ⟨A3, N3, c3, rfl, hN3, hNc3, hc3, hB3, hb3⟩
  have HN3 := Lib.hid hN3
  clear hN3
  go_wp2_with fail
  refine (sameb_is (p := true) _ _ _ _ HNb.out (hX2.below hb3) HN3.out hB3 (by simp)).mono ?_
  rintro e w' ⟨rfl, rfl⟩
  clear hX2 hB3
  go_wp2_with fail
  refine (leftn_any _ _ Hn.out (Lst.below (Lst.below hB1 (hb2.mono (Nat.le_refl _))) (hb3.mono hb2.size)) (Lst.below hA2 (hb3.mono hb12.size)) (by omega)).mono ?_
  rintro e w3' ⟨rfl, q3, rfl⟩
  have hb3' : Below w2.heap.size w2 (w3.drewN q3) := below_drewN hb3 q3
  have hb13 : Below w.heap.size w (w3.drewN q3) := hb12.trans (hb3'.mono hb12.size)
  have hs3 : w2.heap.size ≤ w3.heap.size := hb3.size
  have hB3l : Num (w3.drewN q3) (w3.drewN q3).heap.size (some ⟨w.heap.size, 0, none⟩) l := Lst.more (Lst.below (Lst.below hB1l (hb2.mono (Nat.le_refl _))) (hb3'.mono hb2.size)) (show w1.heap.size ≤ (w3.drewN q3).heap.size from Nat.le_trans (Nat.le_of_lt hs2) hs3)
  have HT3 := Lib.hid (HT.out.below hb13 h1)
  have Hr1 := Lib.hid hr1
  clear hB1 hB1l hA2 hb2 hb3 hown2 hr1 hb12
  go_wp2_with fail
  refine (puts_is n (n + 2) w3.heap.size N Hn.out hB3l (Nat.le_refl _) (by omega) HT3.out.2.1 HT3.out.2.2 rfl rfl HN.out).mono ?_
  rintro e w4 ⟨rfl, hown4, hb4⟩
  have hs4 : w3.heap.size < w4.heap.size := (hown4.lt _ rfl).2
  obtain ⟨f2, hr2⟩ := own_row hown4
  have hb24 : Below w2.heap.size w2 w4 := hb3'.trans (hb4.mono hs3)
  have hb14 : Below w.heap.size w w4 := hb13.trans (hb4.mono hb13.size)
  have HO := Lib.hid (own_start (t := 22) (u1 := .int .u8 1) (u2 := .int .u8 2) (B := w.heap.size) Hr1.out hb24 hr2)
  clear hr2 hb24 hown4 hb4 hb3' hb13 hB3l
  go_wp2_with fail
  refine (ownb_any HO.out (by omega) (by omega) (by omega) (by omega) (by omega) (by omega) (by omega)).mono ?_
  rintro e w5 ⟨rfl, hb5⟩
  have hb15 : Below w.heap.size w w5 := (hb14.alloc hb14.size _).trans hb5
  have HT5 := Lib.hid (HT.out.below hb15 h1)
  clear hb5 hb14
  go_wp2_with fail
  refine (lives_tab HT5.out).mono ?_
  rintro e w6 ⟨rfl, hb6⟩
  go_wp2_with fail
  go_ret
  exact ⟨rfl, hb15.trans (hb6.mono hb15.size)⟩
/-- The law Utf8sPut. -/
theorem lawput_any {l : List Int} {A : Option Addr} {n c : Nat} {w : World} (ha : ArgN w A n c l) (hT : Tab w) :
    Calls Tryd.prog 5 #[.slice A n c] w fun e w' => e = .returned (.bool true) ∧ Below w.heap.size w w' := by
  by_cases h : 500 < n
  · exact lawput_long ha hT h
  · exact lawput_short ha hT (by omega)
end Go.Proofs.YtllnnogdpagioaaDoor
