/- The document's answer on the numbers of runes, walked. -/
import Derived.Test.YtllnnogdpagioaaDoorRefPlace
import Derived.Test.YtllnnogdpagioaaDoorRunes
import Derived.Test.YtllnnogdpagioaaDoorLives
import Derived.Maps.AppendAt
namespace Go.Proofs.YtllnnogdpagioaaDoor
open Go.RowKit

/-- What a whole rune's bytes look like. -/
theorem lng_shape {l : List UInt8} (h : lng l = l.length) (h0 : 0 < l.length) : bhd (bt l 0) = l.length - 1 ∧ ∀ j, 1 ≤ j → j < l.length → wth (bt l j) 128 191 = true := by
  have h4 := lng_le4 l
  rcases bhd_cases (bt l 0) with g | g | g | g | g
  · have := lng_none g; omega
  · have := lng_0 h0 g; exact ⟨by omega, fun j a b => by omega⟩
  · by_cases hs : l.length ≤ 1
    · have := lng_short (k := 1) hs g; omega
    · have e := lng_1 (l := l) (by omega) g
      by_cases hc : wth (bt l 1) (lo1 (bt l 0)) (hi1 (bt l 0)) = true
      · rw [if_pos hc] at e
        refine ⟨by omega, fun j a b => ?_⟩
        obtain rfl : j = 1 := by omega
        exact lohi _ _ hc
      · rw [if_neg hc] at e; omega
  · by_cases hs : l.length ≤ 2
    · have := lng_short (k := 2) hs g; omega
    · have e := lng_2 (l := l) (by omega) g
      by_cases hc : wth (bt l 1) (lo1 (bt l 0)) (hi1 (bt l 0)) = true ∧ wth (bt l 2) 128 191 = true
      · rw [if_pos hc] at e
        refine ⟨by omega, fun j a b => ?_⟩
        have hj : j = 1 ∨ j = 2 := by omega
        rcases hj with rfl | rfl
        · exact lohi _ _ hc.1
        · exact hc.2
      · rw [if_neg hc] at e; omega
  · by_cases hs : l.length ≤ 3
    · have := lng_short (k := 3) hs g; omega
    · have e := lng_3 (l := l) (by omega) g
      by_cases hc : wth (bt l 1) (lo1 (bt l 0)) (hi1 (bt l 0)) = true ∧ wth (bt l 2) 128 191 = true ∧ wth (bt l 3) 128 191 = true
      · rw [if_pos hc] at e
        refine ⟨by omega, fun j a b => ?_⟩
        have hj : j = 1 ∨ j = 2 ∨ j = 3 := by omega
        rcases hj with rfl | rfl | rfl
        · exact lohi _ _ hc.1
        · exact hc.2.1
        · exact hc.2.2
      · rw [if_neg hc] at e; omega
theorem bhd_back {c : Int} (h0 : 0 ≤ c) (h1 : c ≤ 255) : (bhd c = 0 → c ≤ 127) ∧ (bhd c = 1 → 194 ≤ c ∧ c ≤ 223) ∧ (bhd c = 2 → 224 ≤ c ∧ c ≤ 239) ∧ (bhd c = 3 → 240 ≤ c ∧ c ≤ 244) := by
  rcases bhd_range h0 h1 with h | h | h | h | h | h <;> omega

theorem rnum_1 (l : List UInt8) (hl : l.length = 1) (b off c : Nat) {w : World} (hc : ∀ k, k < l.length → w.cell? ⟨b, off + k, none⟩ = some (.int .u8 (bt l k))) (hv : lng l = l.length) :
    Calls Tryd.prog 30 #[.slice (some ⟨b, off, none⟩) 1 c] w fun e w' => e = .returned (.int .i64 (nmb l)) ∧ w = w' := by
  have c0 : w.cell? ⟨b, off, none⟩ = some (.int .u8 (bt l 0)) := hc 0 (by omega)
  have b0 := bt_lo l 0
  have b1 := bt_hi l 0
  have hb := (bhd_back b0 b1).1 (by have := (lng_shape hv (by omega)).1; omega)
  have E := Lib.hid (show nmb l = bt l 0 by
    have h : nmb l = bt l 0 % 128 := by rw [nmb, hl]; rfl
    rw [h]; omega)
  clear hc hl hv
  go_enter Tryd.func30, Tryd.ntmps30
  go_wp2
  go_ret
  exact ⟨ret_int E.out.symm, rfl⟩
set_option maxHeartbeats 1000000 in
theorem rnum_2 (l : List UInt8) (hl : l.length = 2) (b off c : Nat) {w : World} (hc : ∀ k, k < l.length → w.cell? ⟨b, off + k, none⟩ = some (.int .u8 (bt l k))) (hv : lng l = l.length) :
    Calls Tryd.prog 30 #[.slice (some ⟨b, off, none⟩) 2 c] w fun e w' => e = .returned (.int .i64 (nmb l)) ∧ w = w' := by
  have c0 : w.cell? ⟨b, off, none⟩ = some (.int .u8 (bt l 0)) := hc 0 (by omega)
  have b0 := bt_lo l 0
  have b1 := bt_hi l 0
  have HS := Lib.hid (lng_shape hv (by omega))
  have hb := (bhd_back b0 b1).2.1 (by have := HS.out.1; omega)
  obtain ⟨hb0, hb1⟩ := hb
  have ENmb := Lib.hid (show nmb l = numTo l 2 1 by rw [nmb, hl])
  have EFst := Lib.hid (show numTo l 2 0 = bt l 0 - 192 by
    have h : numTo l 2 0 = bt l 0 % 32 := rfl
    rw [h]; omega)
  have HL := Lib.hid hl
  have HC := Lib.hid hc
  clear hc hl hv
  go_enter Tryd.func30, Tryd.ntmps30
  go_wp2
  go_loop [3, 4] (fun t i => ∃ k : Nat, k ≤ 1 ∧ i = .int .i64 ((k : Int) + 1) ∧ t = .int .i64 (numTo l 2 k)) (fun _ i => 2 - (intOf i).toNat)
  case atStart => exact ⟨0, Nat.zero_le _, rfl, by rw [EFst.out]⟩
  case round =>
    obtain ⟨k, hk, rfl, rfl⟩ := hrel
    obtain ⟨h2, h3⟩ := numTo_bd l 2 k
    have h3 := h3 (by omega)
    by_cases hlt : k < 1
    · have hck : w.cell? ⟨b, off + (k + 1), none⟩ = some (.int .u8 (bt l (k + 1))) := HC.out (k + 1) (by have := HL.out; omega)
      have hw := wth_true (HS.out.2 (k + 1) (by omega) (by have := HL.out; omega))
      obtain ⟨d0, d1⟩ := hw
      have HN := Lib.hid (show numTo l 2 (k + 1) = 64 * numTo l 2 k + bt l (k + 1) - 128 by
        have h : numTo l 2 (k + 1) = numTo l 2 k * 64 + bt l (k + 1) % 64 := rfl
        rw [h]; omega)
      go_wp2
      go_round
      case rel => exact ⟨k + 1, by omega, by go_num, by rw [HN.out]⟩
      case measure => simp [intOf]; omega
    · obtain rfl : k = 1 := by omega
      go_wp2
      go_ret
      exact ⟨ret_int ENmb.out.symm, rfl⟩
set_option maxHeartbeats 1000000 in
theorem rnum_3 (l : List UInt8) (hl : l.length = 3) (b off c : Nat) {w : World} (hc : ∀ k, k < l.length → w.cell? ⟨b, off + k, none⟩ = some (.int .u8 (bt l k))) (hv : lng l = l.length) :
    Calls Tryd.prog 30 #[.slice (some ⟨b, off, none⟩) 3 c] w fun e w' => e = .returned (.int .i64 (nmb l)) ∧ w = w' := by
  have c0 : w.cell? ⟨b, off, none⟩ = some (.int .u8 (bt l 0)) := hc 0 (by omega)
  have b0 := bt_lo l 0
  have b1 := bt_hi l 0
  have HS := Lib.hid (lng_shape hv (by omega))
  have hb := (bhd_back b0 b1).2.2.1 (by have := HS.out.1; omega)
  obtain ⟨hb0, hb1⟩ := hb
  have ENmb := Lib.hid (show nmb l = numTo l 3 2 by rw [nmb, hl])
  have EFst := Lib.hid (show numTo l 3 0 = bt l 0 - 224 by
    have h : numTo l 3 0 = bt l 0 % 16 := rfl
    rw [h]; omega)
  have HL := Lib.hid hl
  have HC := Lib.hid hc
  clear hc hl hv
  go_enter Tryd.func30, Tryd.ntmps30
  go_wp2
  go_loop [3, 4] (fun t i => ∃ k : Nat, k ≤ 2 ∧ i = .int .i64 ((k : Int) + 1) ∧ t = .int .i64 (numTo l 3 k)) (fun _ i => 3 - (intOf i).toNat)
  case atStart => exact ⟨0, Nat.zero_le _, rfl, by rw [EFst.out]⟩
  case round =>
    obtain ⟨k, hk, rfl, rfl⟩ := hrel
    obtain ⟨h2, h3⟩ := numTo_bd l 3 k
    have h3 := h3 (by omega)
    by_cases hlt : k < 2
    · have hck : w.cell? ⟨b, off + (k + 1), none⟩ = some (.int .u8 (bt l (k + 1))) := HC.out (k + 1) (by have := HL.out; omega)
      have hw := wth_true (HS.out.2 (k + 1) (by omega) (by have := HL.out; omega))
      obtain ⟨d0, d1⟩ := hw
      have HN := Lib.hid (show numTo l 3 (k + 1) = 64 * numTo l 3 k + bt l (k + 1) - 128 by
        have h : numTo l 3 (k + 1) = numTo l 3 k * 64 + bt l (k + 1) % 64 := rfl
        rw [h]; omega)
      go_wp2
      go_round
      case rel => exact ⟨k + 1, by omega, by go_num, by rw [HN.out]⟩
      case measure => simp [intOf]; omega
    · obtain rfl : k = 2 := by omega
      go_wp2
      go_ret
      exact ⟨ret_int ENmb.out.symm, rfl⟩
set_option maxHeartbeats 1000000 in
theorem rnum_4 (l : List UInt8) (hl : l.length = 4) (b off c : Nat) {w : World} (hc : ∀ k, k < l.length → w.cell? ⟨b, off + k, none⟩ = some (.int .u8 (bt l k))) (hv : lng l = l.length) :
    Calls Tryd.prog 30 #[.slice (some ⟨b, off, none⟩) 4 c] w fun e w' => e = .returned (.int .i64 (nmb l)) ∧ w = w' := by
  have c0 : w.cell? ⟨b, off, none⟩ = some (.int .u8 (bt l 0)) := hc 0 (by omega)
  have b0 := bt_lo l 0
  have b1 := bt_hi l 0
  have HS := Lib.hid (lng_shape hv (by omega))
  have hb := (bhd_back b0 b1).2.2.2 (by have := HS.out.1; omega)
  obtain ⟨hb0, hb1⟩ := hb
  have ENmb := Lib.hid (show nmb l = numTo l 4 3 by rw [nmb, hl])
  have EFst := Lib.hid (show numTo l 4 0 = bt l 0 - 240 by
    have h : numTo l 4 0 = bt l 0 % 8 := rfl
    rw [h]; omega)
  have HL := Lib.hid hl
  have HC := Lib.hid hc
  clear hc hl hv
  go_enter Tryd.func30, Tryd.ntmps30
  go_wp2
  go_loop [3, 4] (fun t i => ∃ k : Nat, k ≤ 3 ∧ i = .int .i64 ((k : Int) + 1) ∧ t = .int .i64 (numTo l 4 k)) (fun _ i => 4 - (intOf i).toNat)
  case atStart => exact ⟨0, Nat.zero_le _, rfl, by rw [EFst.out]⟩
  case round =>
    obtain ⟨k, hk, rfl, rfl⟩ := hrel
    obtain ⟨h2, h3⟩ := numTo_bd l 4 k
    have h3 := h3 (by omega)
    by_cases hlt : k < 3
    · have hck : w.cell? ⟨b, off + (k + 1), none⟩ = some (.int .u8 (bt l (k + 1))) := HC.out (k + 1) (by have := HL.out; omega)
      have hw := wth_true (HS.out.2 (k + 1) (by omega) (by have := HL.out; omega))
      obtain ⟨d0, d1⟩ := hw
      have HN := Lib.hid (show numTo l 4 (k + 1) = 64 * numTo l 4 k + bt l (k + 1) - 128 by
        have h : numTo l 4 (k + 1) = numTo l 4 k * 64 + bt l (k + 1) % 64 := rfl
        rw [h]; omega)
      go_wp2
      go_round
      case rel => exact ⟨k + 1, by omega, by go_num, by rw [HN.out]⟩
      case measure => simp [intOf]; omega
    · obtain rfl : k = 3 := by omega
      go_wp2
      go_ret
      exact ⟨ret_int ENmb.out.symm, rfl⟩
theorem rnum_any {l : List UInt8} {B : Nat} {A : Option Addr} (n c : Nat) {w : World} (hn : n = l.length) (hA : Byt w B A l) (hv : lng l = l.length) (h0 : 0 < n) :
    Calls Tryd.prog 30 #[.slice A n c] w fun e w' => e = .returned (.int .i64 (nmb l)) ∧ w = w' := by
  obtain ⟨b, off, rfl, _, hc⟩ := hA.at_ (k := 0) (by omega)
  have h4 : n ≤ 4 := by have := lng_le4 l; omega
  match n, h0, h4 with
  | 1, _, _ => exact rnum_1 l hn.symm b off c hc hv
  | 2, _, _ => exact rnum_2 l hn.symm b off c hc hv
  | 3, _, _ => exact rnum_3 l hn.symm b off c hc hv
  | 4, _, _ => exact rnum_4 l hn.symm b off c hc hv
theorem rnum_is {l : List UInt8} {B : Nat} {A : Option Addr} {x : Int} (n c : Nat) {w : World} (hn : n = l.length) (hA : Byt w B A l) (hv : lng l = l.length) (h0 : 0 < n) (hx : x = nmb l) :
    Calls Tryd.prog 30 #[.slice A n c] w fun e w' => e = .returned (.int .i64 x) ∧ w = w' := hx ▸ rnum_any n c hn hA hv h0

/-- What an owned row is as a slice of numbers. -/
theorem own_formN {w : World} {base n : Nat} {v : Value} {l : List Int} (h : w.ownsRow base 3 1 v n (ints l)) :
    ∃ A c, v = .slice A n c ∧ n ≤ c ∧ c ≤ maxLen ∧ n = l.length ∧ Num w w.heap.size A l := by
  have hn : n = l.length := by have := h.1; simp [ints] at this; omega
  rcases h.2 with ⟨rfl, rfl⟩ | ⟨g, cap, cur, rfl, _, _, hnc, hcm, _⟩
  · exact ⟨none, 0, rfl, Nat.le_refl _, Nat.zero_le _, hn, fun hl => absurd hl (by omega)⟩
  · exact ⟨some ⟨g, 0, none⟩, cap, rfl, hnc, hcm, hn, own_num h⟩

def RRunesPost (w : World) (l : List UInt8) (e : Ending) (w' : World) : Prop :=
  ∃ A N c, e = .returned (.slice A N c) ∧ N = (rns l).length ∧ N ≤ c ∧ c ≤ maxLen ∧ Num w' w'.heap.size A (rns l) ∧ Below w.heap.size w w'
/-- What holds at each round's head: k bytes are done, d are the numbers of these. -/
def QRel (w wr : World) (l : List UInt8) (k j : Nat) (v : Value) : Prop :=
  ∃ d : List Int, rns l = d ++ rns (l.drop k) ∧ j = d.length ∧ j ≤ k ∧ wr.ownsRow w.heap.size 3 1 v j (ints d) ∧ Below w.heap.size w wr ∧ (v.ownBlock = none ∨ ∃ g, v.ownBlock = some g ∧ w.heap.size ≤ g)
theorem QRel.stop {w wr : World} {l : List UInt8} {k j : Nat} {v : Value} (h : QRel w wr l k j v) (hz : lng (l.drop k) = 0) : RRunesPost w l (.returned v) wr := by
  obtain ⟨d, hd, hj, _, hown, hb, _⟩ := h
  rw [rns_stop hz, List.append_nil] at hd
  obtain ⟨A, c, rfl, h1, h2, h3, h4⟩ := own_formN hown
  rw [← hd] at h4 hj
  exact ⟨A, j, c, rfl, hj, h1, h2, h4, hb⟩
theorem QRel.next {w wr w2 : World} {l : List UInt8} {k j q : Nat} {v v2 : Value} {o : Obj} {d : List Int} {x : Int} (hq : q = lng (l.drop k)) (hz : q ≠ 0) (hx : x = nmb ((l.drop k).take q)) (hd : rns l = d ++ rns (l.drop k)) (hj : j = d.length) (hjk : j ≤ k) (hb : Below w.heap.size w wr)
    (hv : v.ownBlock = none ∨ ∃ g, v.ownBlock = some g ∧ w.heap.size ≤ g) (hown : w2.ownsRow w.heap.size 3 1 v2 (j + 1) (ints d ++ [.int .i64 x])) (hg : (wr.alloc o).grownBy w2 v.ownBlock) : QRel w w2 l (k + q) (j + 1) v2 := by
  subst hq; subst hx
  have hr := rns_step hz
  rw [List.drop_drop] at hr
  refine ⟨d ++ [nmb ((l.drop k).take (lng (l.drop k)))], by rw [hd, hr]; simp, by simp; omega, by omega, by simpa [ints] using hown, ?_, ?_⟩
  · refine (hb.alloc (by exact hb.size) o).grown hg (by have := hb.size; simp; omega) (fun g e => ?_)
    rcases hv with h | ⟨g', h, h'⟩
    · rw [h] at e; cases e
    · rw [h] at e; cases e; exact h'
  · rcases hown.2 with ⟨e, _⟩ | ⟨g, cap, cur, e, hbg, _⟩
    · exact .inl (by rw [e]; rfl)
    · exact .inr ⟨g, by rw [e]; rfl, hbg⟩

set_option maxHeartbeats 2000000 in
theorem rrunes_any {l : List UInt8} {A : Option Addr} (n c : Nat) {w : World} (hn : n = l.length) (hnc : n ≤ c) (hA : Byt w w.heap.size A l) (hm : c ≤ maxLen) (hs : n ≤ 65536) :
    Calls Tryd.prog 15 #[.slice A n c] w (RRunesPost w l) := by
  have Hn := Lib.hid hn
  have hm' := hm
  unfold maxLen at hm
  clear hn
  obtain ⟨i0, hi, hz0, hz1, hz2⟩ := info_parts info3
  have R0 : QRel w w l 0 0 (.slice none 0 0) := ⟨[], by simp, rfl, Nat.le_refl _, World.ownsRow_nil _ _ _ _, Below.refl _ _, .inl rfl⟩
  go_enter Tryd.func15, Tryd.ntmps15
  go_wp2
  go_loopw [3, 4] (fun v i wr => ∃ k j : Nat, k ≤ n ∧ i = .int .i64 k ∧ QRel w wr l k j v) (fun _ i _ => n - (intOf i).toNat)
  case atStart => exact ⟨0, 0, Nat.zero_le _, rfl, R0⟩
  case round =>
    obtain ⟨k, j, hk, rfl, R⟩ := hrel
    clear R0
    by_cases hlt : k < n
    · have hbel := R.choose_spec.2.2.2.2.1
      have hcut := (hA.below hbel).cut' (k := k) (by have := Hn.out; omega)
      obtain ⟨q, HQ⟩ : ∃ q, Hid (q = lng (l.drop k)) := ⟨_, rfl⟩
      have hq : q ≤ n - k := by have := lng_le (l.drop k); have := HQ.out; have := Hn.out; simp at *; omega
      have hq4 : q ≤ 4 := by have := lng_le4 (l.drop k); have := HQ.out; omega
      by_cases hz : q = 0
      · have R1 := R.stop (by rw [← HQ.out, hz])
        subst hz
        clear R
        go_wp2_with (go_at_call 27; refine (rlong_is 0 _ _ (by have := Hn.out; simp; omega) hcut (by unfold maxLen; omega) (by have := HQ.out; omega)).mono ?_; rintro e w' ⟨rfl, rfl⟩)
        go_ret
        exact R1
      · have hz' : ((q : Int) == 0) = false := by simp; omega
        obtain ⟨d, hd, hj, hjk, hown, _, hv⟩ := R
        obtain ⟨x, HX⟩ : ∃ x, Hid (x = nmb ((l.drop k).take q)) := ⟨_, rfl⟩
        have hcutq := hcut.take q
        have HL := Lib.hid (show q = ((l.drop k).take q).length by have := Hn.out; simp; omega)
        have HV := Lib.hid (show lng ((l.drop k).take q) = ((l.drop k).take q).length by rw [← HL.out, lng_take (by rw [← HQ.out]; exact Nat.le_refl _) (by rw [← HQ.out]; exact hz)]; exact HQ.out.symm)
        have Hj := Lib.hid hj
        have Hd := Lib.hid hd
        have Hv := Lib.hid hv
        clear hd hj hv
        go_wp2_with (first
          | (go_at_call 27; refine (rlong_is (q : Int) _ _ (by have := Hn.out; simp; omega) hcut (by unfold maxLen; omega) (by have := HQ.out; omega)).mono ?_; rintro e w' ⟨rfl, rfl⟩)
          | (go_at_call 30; refine (rnum_is (x := x) _ _ (by have := HL.out; omega) hcutq HV.out (by omega) HX.out).mono ?_; rintro e w' ⟨rfl, rfl⟩)
          | (at_builtin; refine wpList_append_own _ rfl (.tmp 17) (.tmp 25) 27 rfl w.heap.size 3 i0 (.int .i64 0) 1 8 Tryd.underlying27 hi hz0 hz1 hz2 rfl (by decide) _ j (ints d) rfl (hown.alloc _) ⟨wr.heap.size, 0, none⟩ 1 1 [.int .i64 x] rfl rfl (cell_one_new _ _ _) (ints_oneCell .i64 [x]) (by unfold maxLen; omega) (by omega) (by have := hbel.size; simp; omega) ?_; intro v2 w2 hown2 hg2 _))
        have R2 := QRel.next HQ.out hz HX.out Hd.out Hj.out hjk hbel Hv.out hown2 hg2
        go_roundw
        case rel => exact ⟨k + q, j + 1, by omega, by go_num, R2⟩
        case measure => simp [intOf]; omega
    · have R1 := R.stop (by rw [List.drop_eq_nil_iff.2 (by have := Hn.out; omega)]; rfl)
      clear R
      go_wp2
      go_ret
      exact R1
end Go.Proofs.YtllnnogdpagioaaDoor
