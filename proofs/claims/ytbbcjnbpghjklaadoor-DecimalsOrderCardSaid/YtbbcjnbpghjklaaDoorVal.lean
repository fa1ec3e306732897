/- Values of numerals, and of normal forms, as numbers; what Read's text has for a value. Lists alone. -/
import Derived.Test.YtbbcjnbpghjklaaDoorKnown
import Derived.Test.YtbbcjnbpghjklaaDoorOrder
namespace Go.Proofs.YtbbcjnbpghjklaaDoor
open Go.RowKit

/-- What numerals tell. -/
def vN : List UInt8 → Nat
  | [] => 0
  | x :: D => (x.toNat - 48) * 10 ^ D.length + vN D
theorem vN_app (D E : List UInt8) : vN (D ++ E) = vN D * 10 ^ E.length + vN E := by
  induction D with
  | nil => simp [vN]
  | cons x D ih =>
    rw [List.cons_append]
    simp only [vN]
    rw [ih, List.length_append, Nat.pow_add, Nat.add_mul, Nat.mul_assoc, Nat.add_assoc]
theorem nbN {x : UInt8} (h : nb x = true) : 48 ≤ x.toNat ∧ x.toNat ≤ 57 := by have := nb_range h; omega
theorem vN_lt {D : List UInt8} (h : ∀ x ∈ D, nb x = true) : vN D < 10 ^ D.length := by
  induction D with
  | nil => simp [vN]
  | cons x D ih =>
    have hx := nbN (h x (by simp))
    have := ih (fun y hy => h y (by simp [hy]))
    simp only [vN, List.length_cons, Nat.pow_succ]
    have h1 : (x.toNat - 48) * 10 ^ D.length ≤ 9 * 10 ^ D.length := Nat.mul_le_mul_right _ (by omega)
    omega
theorem vN_ge {D : List UInt8} (hne : D ≠ []) (h : ∀ x ∈ D, nb x = true) (hf : bt D 0 ≠ 48) : 10 ^ (D.length - 1) ≤ vN D := by
  cases D with
  | nil => exact absurd rfl hne
  | cons x D =>
    have hx := nbN (h x (by simp))
    rw [bt_cons] at hf
    simp only [vN, List.length_cons, Nat.add_sub_cancel]
    have h1 : 1 * 10 ^ D.length ≤ (x.toNat - 48) * 10 ^ D.length := Nat.mul_le_mul_right _ (by omega)
    omega
theorem vN_pos {D : List UInt8} (hne : D ≠ []) (h : ∀ x ∈ D, nb x = true) (hl : bt D (D.length - 1) ≠ 48) : 0 < vN D := by
  rcases List.eq_nil_or_concat D with rfl | ⟨r, x, rfl⟩
  · exact absurd rfl hne
  · rw [List.concat_eq_append] at h hl ⊢
    have hx := nbN (h x (by simp))
    rw [show (r ++ [x]).length - 1 = r.length by simp, bt_app, bt_cons] at hl
    rw [vN_app]
    simp only [vN, List.length_nil, Nat.pow_zero, Nat.mul_one, Nat.add_zero]
    omega
theorem lex_val : ∀ D E : List UInt8, (∀ x ∈ D, nb x = true) → (∀ x ∈ E, nb x = true) → (E ≠ [] → bt E (E.length - 1) ≠ 48) → lexL D E = true → vN D * 10 ^ E.length < vN E * 10 ^ D.length
  | [], [], _, _, _, h => by cases h
  | [], b :: t, _, hE, hl, _ => by
    have := vN_pos (by simp) hE (hl (by simp))
    simp only [vN, Nat.zero_mul, List.length_nil, Nat.pow_zero, Nat.mul_one] at this ⊢
    exact this
  | _ :: _, [], _, _, _, h => by cases h
  | a :: s, b :: t, hD, hE, hl, h => by
    have ha := nbN (hD a (by simp))
    have hb := nbN (hE b (by simp))
    have hs := vN_lt (fun y hy => hD y (by simp [hy]) : ∀ y ∈ s, nb y = true)
    simp only [vN, List.length_cons, Nat.pow_succ]
    obtain ⟨A, hA⟩ : ∃ A, A = 10 ^ s.length := ⟨_, rfl⟩
    obtain ⟨B, hB⟩ : ∃ B, B = 10 ^ t.length := ⟨_, rfl⟩
    have hB0 : 0 < B := by rw [hB]; exact Nat.pow_pos (by omega)
    by_cases e : a = b
    · subst e
      have h2 : lexL s t = true := by simpa [lexL] using h
      have ih := lex_val s t (fun y hy => hD y (by simp [hy])) (fun y hy => hE y (by simp [hy])) (by
        intro hne
        have h3 := hl (by simp)
        have hp := List.length_pos_iff.2 hne
        have e4 : bt (a :: t) ((a :: t).length - 1) = bt t (t.length - 1) := by
          rw [show (a :: t) = [a] ++ t from rfl, bt_app_ge _ _ (by simp; omega)]; congr 1
        rw [e4] at h3; exact h3) h2
      rw [← hA, ← hB] at ih ⊢
      have e1 : ((a.toNat - 48) * A + vN s) * (B * 10) = 10 * ((a.toNat - 48) * (A * B) + vN s * B) := by
        simp only [Nat.mul_add, Nat.mul_assoc, Nat.mul_comm, Nat.mul_left_comm]
      have e2 : ((a.toNat - 48) * B + vN t) * (A * 10) = 10 * ((a.toNat - 48) * (A * B) + vN t * A) := by
        simp only [Nat.mul_add, Nat.mul_assoc, Nat.mul_comm, Nat.mul_left_comm]
      rw [e1, e2]; omega
    · have h2 : a.toNat < b.toNat := by simpa [lexL, e] using h
      rw [← hA] at hs
      rw [← hA, ← hB]
      have c1 : (a.toNat - 48) * A + vN s < (b.toNat - 48) * A := by
        have : (a.toNat - 48 + 1) * A ≤ (b.toNat - 48) * A := Nat.mul_le_mul_right _ (by omega)
        rw [Nat.add_mul, Nat.one_mul] at this; omega
      have c2 : ((a.toNat - 48) * A + vN s) * (B * 10) < ((b.toNat - 48) * A) * (B * 10) := Nat.mul_lt_mul_of_pos_right c1 (by omega)
      have e1 : ((b.toNat - 48) * A) * (B * 10) = ((b.toNat - 48) * B) * (A * 10) := by
        simp only [Nat.mul_assoc, Nat.mul_comm, Nat.mul_left_comm]
      rw [Nat.add_mul ((b.toNat - 48) * B)]
      omega
theorem vN_ito (n : Nat) : vN (itoN n) = n := by
  induction n using Nat.strongRecOn with
  | ind n ih =>
    by_cases h : n < 10
    · rw [itoN_lt h]
      have := u8_digit n h
      simp only [vN, List.length_nil, Nat.pow_zero]
      omega
    · rw [itoN_ge h, vN_app, ih (n / 10) (by omega), ih (n % 10) (by omega), itoN_lt (by omega : n % 10 < 10)]
      simp; omega
/-- Magnitudes: which is less. -/
theorem ltM_val {D E : List UInt8} {x y : Int} (hD : Fine D) (hE : Fine E) (M : Int) (hx : 0 ≤ x + M) (hy : 0 ≤ y + M) (h : ltM D x E y = true) : vN D * 10 ^ (x + M).toNat < vN E * 10 ^ (y + M).toNat := by
  obtain ⟨a, ha⟩ : ∃ a : Nat, (x + M).toNat = a := ⟨_, rfl⟩
  obtain ⟨b, hb⟩ : ∃ a : Nat, (y + M).toNat = a := ⟨_, rfl⟩
  have hDl := List.length_pos_iff.2 hD.some
  have hEl := List.length_pos_iff.2 hE.some
  rw [ha, hb]
  rw [ltM_iff] at h
  rcases h with h | ⟨h, hl⟩
  · have h1 := vN_lt hD.nums
    have h2 := vN_ge hE.some hE.nums hE.first
    have h3 : vN D * 10 ^ a < 10 ^ D.length * 10 ^ a := Nat.mul_lt_mul_of_pos_right h1 (Nat.pow_pos (by omega))
    have h4 : 10 ^ (E.length - 1) * 10 ^ b ≤ vN E * 10 ^ b := Nat.mul_le_mul_right _ h2
    have h5 : (10 : Nat) ^ (D.length + a) ≤ 10 ^ (E.length - 1 + b) := Nat.pow_le_pow_right (by omega) (by omega)
    rw [Nat.pow_add, Nat.pow_add] at h5
    omega
  · have h1 := lex_val D E hD.nums hE.nums (fun _ => hE.last) hl
    have h2 : vN D * 10 ^ E.length * 10 ^ a < vN E * 10 ^ D.length * 10 ^ a := Nat.mul_lt_mul_of_pos_right h1 (Nat.pow_pos (by omega))
    have e1 : vN D * 10 ^ E.length * 10 ^ a = vN D * 10 ^ a * 10 ^ E.length := by simp only [Nat.mul_comm, Nat.mul_left_comm]
    have e2 : vN E * 10 ^ D.length * 10 ^ a = vN E * 10 ^ b * 10 ^ E.length := by
      rw [Nat.mul_assoc, ← Nat.pow_add, Nat.mul_assoc, ← Nat.pow_add, show D.length + a = b + E.length by omega]
    rw [e1, e2] at h2
    exact Nat.lt_of_mul_lt_mul_right h2
/-- A number with a sign. -/
def sgI (m : Bool) (n : Nat) : Int := if m = true then -(n : Int) else n
/-- A normal form's value, so many tens times. -/
def sval (M : Int) (l : List UInt8) : Int := if l = [48] then 0 else sgI (ptM l) (vN (ptD l) * 10 ^ (ptX l + M).toNat)
theorem norm_fine {l : List UInt8} (h : norm l = true) (h0 : l ≠ [48]) : Fine (ptD l) := by
  rcases norm_shape h with e | ⟨m, T, N, e, hT, h1, h2⟩
  · exact absurd e h0
  · have R := rd_mk m N hT h1 h2
    rw [← e] at R
    rw [R.2.2.2.2.1]; exact hT
theorem fine_pos {D : List UInt8} (h : Fine D) (a : Nat) : 0 < vN D * 10 ^ a := Nat.mul_pos (vN_pos h.some h.nums h.last) (Nat.pow_pos (by omega))
theorem less_sval {a b : List UInt8} (M : Int) (ha : norm a = true) (hb : norm b = true) (hx : 0 ≤ ptX a + M) (hy : 0 ≤ ptX b + M) (h : less a b = true) : sval M a < sval M b := by
  rw [less_iff ha hb] at h
  unfold sval sgI
  rcases cls_range a with ⟨c1, n1, m1⟩ | ⟨c1, n1⟩ | ⟨c1, n1, m1⟩ <;> rcases cls_range b with ⟨c2, n2, m2⟩ | ⟨c2, n2⟩ | ⟨c2, n2, m2⟩
  · have hl : ltM (ptD b) (ptX b) (ptD a) (ptX a) = true := by
      rcases h with h | ⟨h, h', l⟩ | ⟨h, h', l⟩
      · omega
      · omega
      · exact l
    have := ltM_val (norm_fine hb n2) (norm_fine ha n1) M hy hx hl
    rw [if_neg n1, if_neg n2, if_pos m1, if_pos m2]; omega
  · have := fine_pos (norm_fine ha n1) (ptX a + M).toNat
    rw [if_neg n1, if_pos n2, if_pos m1]; omega
  · have h1 := fine_pos (norm_fine ha n1) (ptX a + M).toNat
    have h2 := fine_pos (norm_fine hb n2) (ptX b + M).toNat
    rw [if_neg n1, if_neg n2, if_pos m1, if_neg (by rw [m2]; simp)]; omega
  · exfalso; rcases h with h | ⟨h, h', l⟩ | ⟨h, h', l⟩ <;> omega
  · exfalso; rcases h with h | ⟨h, h', l⟩ | ⟨h, h', l⟩ <;> omega
  · have := fine_pos (norm_fine hb n2) (ptX b + M).toNat
    rw [if_pos n1, if_neg n2, if_neg (by rw [m2]; simp)]; omega
  · exfalso; rcases h with h | ⟨h, h', l⟩ | ⟨h, h', l⟩ <;> omega
  · exfalso; rcases h with h | ⟨h, h', l⟩ | ⟨h, h', l⟩ <;> omega
  · have hl : ltM (ptD a) (ptX a) (ptD b) (ptX b) = true := by
      rcases h with h | ⟨h, h', l⟩ | ⟨h, h', l⟩
      · omega
      · exact l
      · omega
    have := ltM_val (norm_fine ha n1) (norm_fine hb n2) M hx hy hl
    rw [if_neg n1, if_neg n2, if_neg (by rw [m1]; simp), if_neg (by rw [m2]; simp)]; omega
theorem sval_eq {a b : List UInt8} (M : Int) (ha : norm a = true) (hb : norm b = true) (hx : 0 ≤ ptX a + M) (hy : 0 ≤ ptX b + M) : a = b ↔ sval M a = sval M b := by
  refine ⟨fun h => by rw [h], fun h => ?_⟩
  by_cases e : a = b
  · exact e
  · exfalso
    rcases less_tot ha hb e with h1 | h1
    · have := less_sval M ha hb hx hy h1; omega
    · have := less_sval M hb ha hy hx h1; omega
theorem sval_less {a b : List UInt8} (M : Int) (ha : norm a = true) (hb : norm b = true) (hx : 0 ≤ ptX a + M) (hy : 0 ≤ ptX b + M) : less a b = decide (sval M a < sval M b) := by
  cases h : less a b
  · refine (decide_eq_false (fun h2 => ?_)).symm
    by_cases e : a = b
    · rw [e] at h2; omega
    · rcases less_tot ha hb e with h1 | h1
      · rw [h] at h1; cases h1
      · have := less_sval M hb ha hy hx h1; omega
  · exact (decide_eq_true (less_sval M ha hb hx hy h)).symm
theorem vN_trimL (d : List UInt8) : vN (trimL d) = vN d := by
  cases d with
  | nil => rw [trimL_end (by simp)]
  | cons x r =>
    by_cases h : x = 48
    · subst h
      rw [trimL_on (d := 48 :: r) (by simp) (by rw [bt_cons]; rfl), List.drop_succ_cons, List.drop_zero, vN_trimL r]
      simp [vN]
    · rw [trimL_end]
      rw [bt_cons]
      intro h2
      exact h (UInt8.toNat_inj.1 (by have := h2.2; simpa using (by omega : x.toNat = 48)))
theorem vN_trimR' : ∀ (n : Nat) (d : List UInt8), d.length = n → vN d = vN (trimR d) * 10 ^ (d.length - (trimR d).length) := by
  intro n
  induction n with
  | zero => intro d hd; obtain rfl := List.length_eq_zero_iff.1 hd; rw [trimR_end (by simp)]; simp [vN]
  | succ n ih =>
    intro d hd
    rcases List.eq_nil_or_concat d with rfl | ⟨r, x, rfl⟩
    · simp at hd
    · rw [List.concat_eq_append] at hd ⊢
      have hr : r.length = n := by simpa using hd
      have hb : bt (r ++ [x]) ((r ++ [x]).length - 1) = (x.toNat : Int) := by
        rw [show (r ++ [x]).length - 1 = r.length by simp, bt_app, bt_cons]
      by_cases h : x = 48
      · subst h
        rw [trimR_on (by simp) (by rw [hb]; rfl), show (r ++ [(48 : UInt8)]).take ((r ++ [(48 : UInt8)]).length - 1) = r by simp, vN_app, ih r hr]
        have hle := trimR_len r
        simp only [vN, List.length_nil, List.length_append, List.length_cons]
        rw [show r.length + (0 + 1) - (trimR r).length = (r.length - (trimR r).length) + 1 by omega, Nat.pow_succ]
        simp [Nat.mul_assoc, Nat.pow_succ]
      · rw [trimR_end]
        · simp
        · rw [hb]
          intro h2
          exact h (UInt8.toNat_inj.1 (by have := h2.2; simpa using (by omega : x.toNat = 48)))
theorem vN_trimR (d : List UInt8) : vN d = vN (trimR d) * 10 ^ (d.length - (trimR d).length) := vN_trimR' d.length d rfl
/-- The value of Read's text. -/
theorem rd_val {l : List UInt8} (M : Int) (h : (rd l).2 = 0) (hM : 0 ≤ (powR l (q4 l) (q5 l)).1 - ((q3 l : Int) - q2 l) + M) :
    sval M (rd l).1 = sgI (decide (bt l 0 = 45)) (vN (rdD l) * 10 ^ ((powR l (q4 l) (q5 l)).1 - ((q3 l : Int) - q2 l) + M).toNat) := by
  have hX := frX_range l
  have hle := trimR_len (rdD l)
  rcases fr_rd h with ⟨hK, e, _, _, _⟩ | ⟨hK, hF, e1, e2, e3, e⟩
  · rw [e]
    have : vN (rdD l) = 0 := by rw [vN_trimR, hK]; simp [vN]
    rw [this]; unfold sval sgI; simp
  · rw [e3] at hX
    have R := rd_mk (decide (bt l 0 = 45)) (rdN l) hF hX.1 hX.2
    rw [e]
    unfold sval
    rw [if_neg R.2.2.1, R.2.2.2.1, R.2.2.2.2.1, R.2.2.2.2.2]
    congr 1
    have h1 : vN (rdT l) = vN (trimR (rdD l)) := vN_trimL _
    rw [h1]
    conv => rhs; rw [vN_trimR]
    rw [Nat.mul_assoc, ← Nat.pow_add]
    congr 2
    unfold rdN; omega
theorem rd_X {l : List UInt8} (h : (rd l).2 = 0) (M : Int) (hM : 0 ≤ (powR l (q4 l) (q5 l)).1 - ((q3 l : Int) - q2 l) + M) (hM0 : 0 ≤ M) : 0 ≤ ptX (rd l).1 + M := by
  have hX := frX_range l
  have hle := trimR_len (rdD l)
  rcases fr_rd h with ⟨hK, e, _, _, _⟩ | ⟨hK, hF, e1, e2, e3, e⟩
  · rw [e, nought_parts.2.2]; omega
  · rw [e3] at hX
    have R := rd_mk (decide (bt l 0 = 45)) (rdN l) hF hX.1 hX.2
    rw [e, R.2.2.2.2.2]
    unfold rdN; omega
end Go.Proofs.YtbbcjnbpghjklaaDoor
