/- What is put is runes, and is got as it was put: as lists, and as Go's own way to go through a text. -/
import Derived.Test.YtllnnogdpagioaaDoorRefRunes
import Derived.Test.YtllnnogdpagioaaDoorRefPut
import Derived.Laws.RangeAny
namespace Go.Proofs.YtllnnogdpagioaaDoor
open Go.RowKit

/-- Is it a rune's number? -/
def Kn (r : Int) : Prop := 0 ≤ r ∧ r ≤ 1114111 ∧ (r < 55296 ∨ 57343 < r)
theorem knw_kn (r : Int) : Kn (knw r) := by unfold knw Kn; split <;> omega
theorem knw_id {r : Int} (h : Kn r) : knw r = r := by unfold Kn at h; rw [knw, if_pos h]
/-- A rune's bytes. -/
def encl (r : Int) : List UInt8 := (encI r).map b8
theorem bt_b8 {l : List Int} (h : ∀ x ∈ l, 0 ≤ x ∧ x ≤ 255) {k : Nat} (hk : k < l.length) : bt (l.map b8) k = l[k] := by
  have := h l[k] (List.getElem_mem hk)
  simp only [bt, b8, List.getD_eq_getElem?_getD, List.getElem?_map, List.getElem?_eq_getElem hk, Option.map_some, Option.getD_some]
  rw [UInt8.toNat_ofNat_of_lt' (by simp [UInt8.size]; omega)]
  omega
theorem enc_facts {r : Int} (h : Kn r) : lng (encl r) = (encl r).length ∧ nmb (encl r) = r := by
  obtain ⟨h0, h1, h2⟩ := h
  have hbd := encI_bd h0 h1
  by_cases a : r < 128
  · have e : encI r = [r] := by rw [encI, if_pos a]
    have hl : (encl r).length = 1 := by simp [encl, e]
    have b0 : bt (encl r) 0 = r := by rw [encl, bt_b8 hbd (by simp [e])]; simp [e]
    have g : bhd (bt (encl r) 0) = 0 := by rw [b0]; simp [bhd, wth]; omega
    refine ⟨by rw [lng_0 (by omega) g, hl], ?_⟩
    rw [nmb, hl]
    show bt (encl r) 0 % 128 = r
    rw [b0]; omega
  by_cases b : r < 2048
  · have e : encI r = [192 + r / 64, 128 + r % 64] := by rw [encI, if_neg a, if_pos b]
    have hl : (encl r).length = 2 := by simp [encl, e]
    have b0 : bt (encl r) 0 = 192 + r / 64 := by rw [encl, bt_b8 hbd (by simp [e])]; simp [e]
    have b1 : bt (encl r) 1 = 128 + r % 64 := by rw [encl, bt_b8 hbd (by simp [e])]; simp [e]
    have g : bhd (bt (encl r) 0) = 1 := by
      have := bhd_range (c := bt (encl r) 0) (bt_lo _ _) (bt_hi _ _)
      rw [b0] at this ⊢; omega
    refine ⟨?_, ?_⟩
    · rw [lng_1 (by omega) g, if_pos, hl]
      exact (lohi_spc (by rw [b1]; simp [wth]; omega)).2 (by rw [b0]; unfold spc; omega)
    · rw [nmb, hl]
      show bt (encl r) 0 % 32 * 64 + bt (encl r) 1 % 64 = r
      rw [b0, b1]; omega
  by_cases c : r < 65536
  · have e : encI r = [224 + r / 4096, 128 + r / 64 % 64, 128 + r % 64] := by rw [encI, if_neg a, if_neg b, if_pos c]
    have hl : (encl r).length = 3 := by simp [encl, e]
    have b0 : bt (encl r) 0 = 224 + r / 4096 := by rw [encl, bt_b8 hbd (by simp [e])]; simp [e]
    have b1 : bt (encl r) 1 = 128 + r / 64 % 64 := by rw [encl, bt_b8 hbd (by simp [e])]; simp [e]
    have b2 : bt (encl r) 2 = 128 + r % 64 := by rw [encl, bt_b8 hbd (by simp [e])]; simp [e]
    have g : bhd (bt (encl r) 0) = 2 := by
      have := bhd_range (c := bt (encl r) 0) (bt_lo _ _) (bt_hi _ _)
      rw [b0] at this ⊢; omega
    refine ⟨?_, ?_⟩
    · rw [lng_2 (by omega) g, if_pos, hl]
      refine ⟨(lohi_spc (by rw [b1]; simp [wth]; omega)).2 ?_, by rw [b2]; simp [wth]; omega⟩
      rw [b0, b1]; unfold spc; omega
    · rw [nmb, hl]
      show (bt (encl r) 0 % 16 * 64 + bt (encl r) 1 % 64) * 64 + bt (encl r) 2 % 64 = r
      rw [b0, b1, b2]; omega
  · have e : encI r = [240 + r / 262144, 128 + r / 4096 % 64, 128 + r / 64 % 64, 128 + r % 64] := by rw [encI, if_neg a, if_neg b, if_neg c]
    have hl : (encl r).length = 4 := by simp [encl, e]
    have b0 : bt (encl r) 0 = 240 + r / 262144 := by rw [encl, bt_b8 hbd (by simp [e])]; simp [e]
    have b1 : bt (encl r) 1 = 128 + r / 4096 % 64 := by rw [encl, bt_b8 hbd (by simp [e])]; simp [e]
    have b2 : bt (encl r) 2 = 128 + r / 64 % 64 := by rw [encl, bt_b8 hbd (by simp [e])]; simp [e]
    have b3 : bt (encl r) 3 = 128 + r % 64 := by rw [encl, bt_b8 hbd (by simp [e])]; simp [e]
    have g : bhd (bt (encl r) 0) = 3 := by
      have := bhd_range (c := bt (encl r) 0) (bt_lo _ _) (bt_hi _ _)
      rw [b0] at this ⊢; omega
    refine ⟨?_, ?_⟩
    · rw [lng_3 (by omega) g, if_pos, hl]
      refine ⟨(lohi_spc (by rw [b1]; simp [wth]; omega)).2 ?_, by rw [b2]; simp [wth]; omega, by rw [b3]; simp [wth]; omega⟩
      rw [b0, b1]; unfold spc; omega
    · rw [nmb, hl]
      show ((bt (encl r) 0 % 8 * 64 + bt (encl r) 1 % 64) * 64 + bt (encl r) 2 % 64) * 64 + bt (encl r) 3 % 64 = r
      rw [b0, b1, b2, b3]; omega
/-- The bytes of runes, from the front. -/
def pub (l : List Int) : List UInt8 := l.flatMap fun x => encl (knw x)
theorem putTo_flat (l : List Int) {k : Nat} (hk : k ≤ l.length) : putTo l k = (l.take k).flatMap fun x => encI (knw x) := by
  induction k with
  | zero => simp [putTo]
  | succ k ih =>
    rw [putTo, ih (by omega), List.take_succ_eq_append_getElem (by omega), List.flatMap_append]
    simp [it, show k < l.length by omega]
theorem puts_pub (l : List Int) : puts l = pub l := by
  unfold puts putI pub
  rw [putTo_flat l (Nat.le_refl _), List.take_length, List.map_flatMap]
  rfl
theorem pub_cons (x : Int) (l : List Int) : pub (x :: l) = encl (knw x) ++ pub l := by simp [pub]
theorem encl_pos (r : Int) : 0 < (encl r).length := by have := (encI_len4 r).2; simpa [encl] using this
theorem lng_enc (x : Int) (r : List UInt8) : lng (encl (knw x) ++ r) = (encl (knw x)).length := by
  have h := (enc_facts (knw_kn x)).1
  have := encl_pos (knw x)
  rw [lng_append (by omega), h]
theorem pub_back (l : List Int) : scn (pub l) = (pub l).length ∧ rns (pub l) = l.map knw := by
  induction l with
  | nil => exact ⟨scn_stop rfl, rns_stop rfl⟩
  | cons x l ih =>
    have h := lng_enc x (pub l)
    have hp := encl_pos (knw x)
    rw [pub_cons]
    have ed : (encl (knw x) ++ pub l).drop (lng (encl (knw x) ++ pub l)) = pub l := by rw [h]; simp
    have et : (encl (knw x) ++ pub l).take (lng (encl (knw x) ++ pub l)) = encl (knw x) := by rw [h]; simp
    constructor
    · rw [scn_step (by omega), ed, ih.1, h]; simp
    · rw [rns_step (by omega), ed, et, ih.2, (enc_facts (knw_kn x)).2]; rfl
theorem pub_drop (l : List Int) (k : Nat) : (pub l).drop (pub (l.take k)).length = pub (l.drop k) := by
  have : pub l = pub (l.take k) ++ pub (l.drop k) := by simp only [pub]; rw [← List.flatMap_append, List.take_append_drop]
  rw [this]; simp

/-- Go's own way to go through a text comes to the same runes. -/
theorem get_bt (b : List UInt8) (i : Nat) (h : i < b.length) : (((⟨b.toArray⟩ : ByteArray).get! i).toNat : Int) = bt b i := by
  have e : (⟨b.toArray⟩ : ByteArray).get! i = b[i] := by
    show b.toArray[i]! = _
    simp [h]
  rw [e]; simp [bt, h]
theorem decode_lng (b : List UInt8) (p : Nat) (hz : lng (b.drop p) ≠ 0) : Utf8.decode ⟨b.toArray⟩ p = ((nmb ((b.drop p).take (lng (b.drop p)))).toNat, lng (b.drop p)) := by
  obtain ⟨l, hl⟩ : ∃ l, b.drop p = l := ⟨_, rfl⟩
  rw [hl] at hz ⊢
  have hll := lng_le l
  have hbl : l.length = b.length - p := by rw [← hl]; simp
  have hsz : (⟨b.toArray⟩ : ByteArray).size = b.length := by simp [ByteArray.size]
  have at_ : ∀ k, k < l.length → (((⟨b.toArray⟩ : ByteArray).get! (p + k)).toNat : Int) = bt l k := fun k hk => by
    rw [get_bt b (p + k) (by omega), ← hl, bt_drop]
  obtain ⟨m, hm⟩ : ∃ m, l.take (lng l) = m := ⟨_, rfl⟩
  have hml : m.length = lng l := by rw [← hm]; simp; omega
  have hmb : ∀ k, k < lng l → bt m k = bt l k := fun k hk => by rw [← hm, bt_take _ hk]
  have hv : lng m = m.length := by rw [← hm, lng_take (Nat.le_refl _) hz]; rw [hm, hml]
  rw [hm]
  have hs := lng_shape hv (by omega)
  have h4 := lng_le4 l
  have r0 := bt_lo m 0
  have r1 := bt_hi m 0
  have hb := bhd_back r0 r1
  have hsp : ∀ c x, wth x 128 191 = true → wth x (lo1 c) (hi1 c) = true → ¬ spc c x := fun c x h => (lohi_spc h).1
  have a0 := at_ 0 (by omega)
  have m0 := hmb 0 (by omega)
  rw [Nat.add_zero] at a0
  have hn : nmb m = numTo m (lng l) (lng l - 1) := by rw [nmb, hml]
  have hC : CRel m (lng l) := fun j a b => ⟨by omega, hs.2 j a (by omega)⟩
  have hns : lng l ≠ 1 → ¬ spc (bt m 0) (bt m 1) := fun h1 s => by
    have := lng_bad (l := m) (m := lng l - 1) (by have := hs.1; omega) (by omega) (by rwa [show lng l - 1 + 1 = lng l by omega]) s
    omega
  have hc : lng l = 1 ∨ lng l = 2 ∨ lng l = 3 ∨ lng l = 4 := by omega
  have hs1 := hs.1
  have hs2 := hs.2
  clear hsp hs
  rcases hc with e | e | e | e
  · rw [e] at hn
    have e1 : nmb m = bt m 0 % 128 := hn
    have hb0 := hb.1 (by omega)
    rw [e1, e]
    simp only [Utf8.decode, Nat.add_zero]
    rw [if_pos (by omega)]
    simp only [Prod.mk.injEq, and_true]; omega
  · rw [e] at hn
    have e1 : nmb m = bt m 0 % 32 * 64 + bt m 1 % 64 := hn
    obtain ⟨hb0, hb1⟩ := hb.2.1 (by omega)
    have a1 := at_ 1 (by omega)
    have m1 := hmb 1 (by omega)
    obtain ⟨c0, c1⟩ := wth_true (hs2 1 (by omega) (by omega))
    rw [e1, e]
    simp only [Utf8.decode, Nat.add_zero, hsz]
    rw [if_neg (by omega), if_pos (by simp only [Bool.and_eq_true, beq_iff_eq, decide_eq_true_eq]; omega), if_pos (by omega)]
    simp only [Prod.mk.injEq, and_true]; omega
  · rw [e] at hn
    have e1 : nmb m = (bt m 0 % 16 * 64 + bt m 1 % 64) * 64 + bt m 2 % 64 := hn
    obtain ⟨hb0, hb1⟩ := hb.2.2.1 (by omega)
    have a1 := at_ 1 (by omega)
    have m1 := hmb 1 (by omega)
    have a2 := at_ 2 (by omega)
    have m2 := hmb 2 (by omega)
    obtain ⟨c0, c1⟩ := wth_true (hs2 1 (by omega) (by omega))
    obtain ⟨d0, d1⟩ := wth_true (hs2 2 (by omega) (by omega))
    have hsp := hns (by omega)
    unfold spc at hsp
    rw [e1, e]
    simp only [Utf8.decode, Nat.add_zero, hsz]
    rw [if_neg (by omega), if_neg (by simp only [Bool.and_eq_true, beq_iff_eq, decide_eq_true_eq]; omega), if_pos (by simp only [Bool.and_eq_true, beq_iff_eq, decide_eq_true_eq]; omega),
      if_pos (by simp only [Utf8.valid, Bool.and_eq_true, Bool.or_eq_true, decide_eq_true_eq]; omega)]
    simp only [Prod.mk.injEq, and_true]; omega
  · rw [e] at hn
    have e1 : nmb m = ((bt m 0 % 8 * 64 + bt m 1 % 64) * 64 + bt m 2 % 64) * 64 + bt m 3 % 64 := hn
    obtain ⟨hb0, hb1⟩ := hb.2.2.2 (by omega)
    have a1 := at_ 1 (by omega)
    have m1 := hmb 1 (by omega)
    have a2 := at_ 2 (by omega)
    have m2 := hmb 2 (by omega)
    have a3 := at_ 3 (by omega)
    have m3 := hmb 3 (by omega)
    obtain ⟨c0, c1⟩ := wth_true (hs2 1 (by omega) (by omega))
    obtain ⟨d0, d1⟩ := wth_true (hs2 2 (by omega) (by omega))
    obtain ⟨f0, f1⟩ := wth_true (hs2 3 (by omega) (by omega))
    have hsp := hns (by omega)
    unfold spc at hsp
    rw [e1, e]
    simp only [Utf8.decode, Nat.add_zero, hsz]
    rw [if_neg (by omega), if_neg (by simp only [Bool.and_eq_true, beq_iff_eq, decide_eq_true_eq]; omega), if_neg (by simp only [Bool.and_eq_true, beq_iff_eq, decide_eq_true_eq]; omega),
      if_pos (by simp only [Bool.and_eq_true, beq_iff_eq, decide_eq_true_eq]; omega), if_pos (by simp only [Utf8.valid, Bool.and_eq_true, Bool.or_eq_true, decide_eq_true_eq]; omega)]
    simp only [Prod.mk.injEq, and_true]; omega
/-- How many bytes the first k runes have. -/
def pos (l : List Int) (k : Nat) : Nat := (pub (l.take k)).length
theorem pos_next {l : List Int} {k : Nat} (hk : k < l.length) : pos l (k + 1) = pos l k + (encl (knw (it l k))).length := by
  have e : pub (l.take k ++ [l[k]]) = pub (l.take k) ++ encl (knw l[k]) := by
    unfold pub; rw [List.flatMap_append, List.flatMap_singleton]
  have e2 : it l k = l[k] := by simp [it, hk]
  unfold pos
  rw [List.take_succ_eq_append_getElem hk, e, List.length_append, e2]
theorem pos_lt {l : List Int} {k : Nat} (hk : k < l.length) : pos l k < (pub l).length := by
  have h1 := pos_next hk
  have h2 := encl_pos (knw (it l k))
  have h3 : pos l (k + 1) ≤ (pub l).length := by
    have : pub l = pub (l.take (k + 1)) ++ pub (l.drop (k + 1)) := by simp only [pub]; rw [← List.flatMap_append, List.take_append_drop]
    rw [this]; simp [pos]
  omega
theorem pos_all (l : List Int) : pos l l.length = (pub l).length := by simp [pos]
/-- At the k-th rune's first byte Go comes to its number. -/
theorem decode_pub {l : List Int} {k : Nat} (hk : k < l.length) : Utf8.decode ⟨(pub l).toArray⟩ (pos l k) = ((knw (it l k)).toNat, (encl (knw (it l k))).length) := by
  have hd : (pub l).drop (pos l k) = encl (knw (it l k)) ++ pub (l.drop (k + 1)) := by
    unfold pos
    rw [pub_drop, List.drop_eq_getElem_cons hk, pub_cons]
    simp [it, hk]
  have hl := lng_enc (it l k) (pub (l.drop (k + 1)))
  have hp := encl_pos (knw (it l k))
  rw [decode_lng (pub l) (pos l k) (by rw [hd, hl]; omega), hd, hl]
  simp only [List.take_left]
  rw [(enc_facts (knw_kn _)).2]
end Go.Proofs.YtllnnogdpagioaaDoor
