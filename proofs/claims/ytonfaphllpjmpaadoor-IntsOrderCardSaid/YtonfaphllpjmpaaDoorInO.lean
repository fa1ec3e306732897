/- Is a text's number above another one's: the document's over. -/
import Derived.Test.YtonfaphllpjmpaaDoorInD
import Derived.Laws.Cover1
namespace Go.Proofs.YtonfaphllpjmpaaDoor
open Go.RowKit

theorem toList_txt (l : List UInt8) : (txt l).toList = l := by
  rw [Lib.toList_data]; rfl
namespace In
theorem dv_lt : ∀ {l : List UInt8}, dec l → dv l < 10 ^ l.length
  | [], _ => by simp [dv]
  | c :: r, h => by
    obtain ⟨h1, h2⟩ := dec_cons.1 h
    have := dv_lt h2
    have e : d10 c ≤ 9 := by unfold d10; omega
    have h3 : d10 c * 10 ^ r.length ≤ 9 * 10 ^ r.length := Nat.mul_le_mul_right _ e
    simp only [dv, List.length_cons, Nat.pow_succ]; omega
theorem dN_low {n : Nat} (hn : n ≠ 0) : 10 ^ ((dN 10 n).length - 1) ≤ n := by
  obtain ⟨d, r, e, h1, h2⟩ := dN_head (b := 10) (by omega) (by omega) hn
  have hv := dv_dN n
  rw [e] at hv ⊢
  simp only [dv, List.length_cons, Nat.add_sub_cancel] at hv ⊢
  rw [ch_ten h2, d10_of h2] at hv
  have : 1 * 10 ^ r.length ≤ d * 10 ^ r.length := Nat.mul_le_mul_right _ h1
  omega
theorem dN_high (n : Nat) : n < 10 ^ (dN 10 n).length := by
  have := dv_lt (dec_dN n)
  rwa [dv_dN] at this
theorem dN_len_pos (n : Nat) : 1 ≤ (dN 10 n).length := by
  have := dN_ne 10 n
  cases h : dN 10 n with
  | nil => exact absurd h this
  | cons _ _ => simp
/-- A longer normal form is a greater number. -/
theorem len_lt {m n : Nat} (h : (dN 10 m).length < (dN 10 n).length) : m < n := by
  have h0 : n ≠ 0 := by
    rintro rfl
    rw [dN_zero (by omega)] at h
    have := dN_len_pos m
    simp only [List.length_singleton] at h; omega
  have h1 := dN_high m
  have h2 := dN_low h0
  have h3 : 10 ^ (dN 10 m).length ≤ 10 ^ ((dN 10 n).length - 1) := Nat.pow_le_pow_right (by omega) (by omega)
  omega
theorem less_dv : ∀ {l k : List UInt8}, l.length = k.length → dec l → dec k → Op.bytesLess l k = decide (dv l < dv k)
  | [], [], _, _, _ => rfl
  | a :: x, b :: y, hl, h1, h2 => by
    obtain ⟨a1, x1⟩ := dec_cons.1 h1
    obtain ⟨b1, y1⟩ := dec_cons.1 h2
    have hl2 : x.length = y.length := by simpa using hl
    have ih := less_dv hl2 x1 y1
    have hx := dv_lt x1
    have hy := dv_lt y1
    have ea : a.toNat = 48 + d10 a := by unfold d10; omega
    have eb : b.toNat = 48 + d10 b := by unfold d10; omega
    have va : dv (a :: x) = d10 a * 10 ^ y.length + dv x := by rw [dv, hl2]
    have vb : dv (b :: y) = d10 b * 10 ^ y.length + dv y := rfl
    rw [hl2] at hx
    rw [Bool.eq_iff_iff, decide_eq_true_iff, va, vb]
    simp only [Op.bytesLess, Bool.or_eq_true, Bool.and_eq_true, decide_eq_true_eq, beq_iff_eq, ih]
    generalize 10 ^ y.length = P at *
    rcases Nat.lt_trichotomy (d10 a) (d10 b) with h | h | h
    · have hab : a < b := by rw [UInt8.lt_iff_toNat_lt]; omega
      have h3 : (d10 a + 1) * P ≤ d10 b * P := Nat.mul_le_mul_right _ h
      rw [Nat.add_mul] at h3
      exact ⟨fun _ => by omega, fun _ => .inl hab⟩
    · have hab : a = b := UInt8.toNat_inj.1 (by omega)
      subst hab
      have : ¬ a < a := by rw [UInt8.lt_iff_toNat_lt]; omega
      exact ⟨fun h => by rcases h with h | h; exact absurd h this; omega, fun h => .inr ⟨rfl, by omega⟩⟩
    · have hab : ¬ a < b := by rw [UInt8.lt_iff_toNat_lt]; omega
      have hne : a ≠ b := by rintro rfl; omega
      have h3 : (d10 b + 1) * P ≤ d10 a * P := Nat.mul_le_mul_right _ h
      rw [Nat.add_mul] at h3
      exact ⟨fun h => by rcases h with h | h; exact absurd h hab; exact absurd h.1 hne, fun h => by omega⟩
theorem over_dN {m n : Nat} (h : (dN 10 m).length = (dN 10 n).length) : (!(Op.bytesLess (dN 10 m) (dN 10 n) || dN 10 m == dN 10 n)) = decide (n < m) := by
  rw [less_dv h (dec_dN m) (dec_dN n), dv_dN, dv_dN]
  by_cases e : m = n
  · subst e; simp
  · have hne : dN 10 m ≠ dN 10 n := by
      intro h2
      have := congrArg dv h2
      rw [dv_dN, dv_dN] at this
      exact e this
    by_cases h3 : m < n
    · rw [decide_eq_true h3, decide_eq_false (by omega)]; rfl
    · rw [decide_eq_false h3, decide_eq_true (by omega)]; simp [hne]
end In
theorem over_any {m n : Nat} {s t : ByteArray} {x : Bool} (w : World) (hs : s = txt (In.dN 10 m)) (ht : t = txt (In.dN 10 n)) (hx : x = decide (n < m)) :
    Calls Tryd.prog 26 #[.string s, .string t] w fun e w' => e = .returned (.bool x) ∧ w = w' := by
  have hsz : s.size = (In.dN 10 m).length := by rw [hs, txt_size]
  have htz : t.size = (In.dN 10 n).length := by rw [ht, txt_size]
  by_cases h : s.size = t.size
  · have hn : ((s.size : Int) != (t.size : Int)) = false := by simp [h]
    have HE := Lib.hid (show (!Op.bytesLess s.toList t.toList && !s.toList == t.toList) = x by
      rw [← Bool.not_or, hs, ht, toList_txt, toList_txt, hx]
      exact In.over_dN (by rw [← hsz, ← htz]; exact h))
    clear hs ht hx hsz htz h
    go_enter Tryd.func26, Tryd.ntmps26
    go_wp2_with fail
    go_ret
    exact ⟨ret_bool HE.out, rfl⟩
  · have hn : ((s.size : Int) != (t.size : Int)) = true := by simp; omega
    have HX : Hid (x = decide (t.size < s.size)) := by
      refine Lib.hid ?_
      rw [hx]
      rcases Nat.lt_or_ge t.size s.size with h1 | h1
      · rw [decide_eq_true h1, decide_eq_true (In.len_lt (by rw [← hsz, ← htz]; exact h1))]
      · have := In.len_lt (m := m) (n := n) (by rw [← hsz, ← htz]; omega)
        rw [decide_eq_false (by omega), decide_eq_false (by omega)]
    clear hs ht hx hsz htz h
    go_enter Tryd.func26, Tryd.ntmps26
    go_wp2_with fail
    go_ret
    exact ⟨ret_bool (by rw [HX.out]), rfl⟩
end Go.Proofs.YtonfaphllpjmpaaDoor
