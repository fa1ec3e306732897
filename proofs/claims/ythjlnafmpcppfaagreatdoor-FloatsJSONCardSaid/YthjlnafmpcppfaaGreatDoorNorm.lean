/- Normal forms, as lists: what is printed is read again as itself. -/
import Derived.Test.YthjlnafmpcppfaaGreatDoorLess
namespace Go.Proofs.YthjlnafmpcppfaaGreatDoor
open Go.RowKit

def nb (x : UInt8) : Bool := nmr (x.toNat : Int)
theorem bt_app_lt {a : List UInt8} (b : List UInt8) {k : Nat} (h : k < a.length) : bt (a ++ b) k = bt a k := by simp [bt, List.getElem?_append, h]
theorem bt_app_ge (a b : List UInt8) {k : Nat} (h : a.length ≤ k) : bt (a ++ b) k = bt b (k - a.length) := by simp [bt, List.getElem?_append, Nat.not_lt.2 h]
theorem bt_app (a b : List UInt8) : bt (a ++ b) a.length = bt b 0 := by rw [bt_app_ge _ _ (Nat.le_refl _), Nat.sub_self]
theorem bt_cons (x : UInt8) (b : List UInt8) : bt (x :: b) 0 = (x.toNat : Int) := by simp [bt]
theorem nmr_no {c : Int} (h : c < 48 ∨ 57 < c) : nmr c = false := by simp [nmr]; omega
theorem nmr_zero : nmr 0 = false := rfl
theorem runE_app (T : List UInt8) : ∀ (a c : List UInt8), (∀ x ∈ T, nb x = true) → nmr (bt c 0) = false → runE (a ++ (T ++ c)) a.length = a.length + T.length := by
  induction T with
  | nil => intro a c _ hc; rw [List.nil_append, runE_end (by rw [bt_app, hc]; simp)]; rfl
  | cons x T ih =>
    intro a c hT hc
    have hx : nmr (bt (a ++ (x :: T ++ c)) a.length) = true := by rw [bt_app, List.cons_append, bt_cons]; exact hT x (by simp)
    rw [runE_on (by simp) hx]
    have := ih (a ++ [x]) c (fun y hy => hT y (by simp [hy])) hc
    rw [show a ++ [x] ++ (T ++ c) = a ++ (x :: T ++ c) by simp, List.length_append] at this
    rw [show a.length + 1 = a.length + [x].length from rfl, this]; simp; omega
/-- What numerals tell. -/
def val : List UInt8 → Int → Int
  | [], n => n
  | x :: D, n => val D (10 * n + ((x.toNat : Int) - 48))
theorem val_app (D E : List UInt8) : ∀ n, val (D ++ E) n = val E (val D n) := by
  induction D with
  | nil => intro n; rfl
  | cons x D ih => intro n; exact ih _
theorem nb_range {x : UInt8} (h : nb x = true) : 48 ≤ (x.toNat : Int) ∧ (x.toNat : Int) ≤ 57 := by simpa [nb, nmr] using h
theorem val_ge (D : List UInt8) : ∀ n : Int, (∀ x ∈ D, nb x = true) → 0 ≤ n → n ≤ val D n := by
  induction D with
  | nil => intro n _ _; exact Int.le_refl _
  | cons x D ih =>
    intro n hD hn
    have hx := nb_range (hD x (by simp))
    have := ih (10 * n + ((x.toNat : Int) - 48)) (fun y hy => hD y (by simp [hy])) (by omega)
    show n ≤ val D (10 * n + ((x.toNat : Int) - 48))
    omega
theorem powA_val (D : List UInt8) : ∀ (a : List UInt8) (n : Int), (∀ x ∈ D, nb x = true) → 0 ≤ n → val D n ≤ 1000000000 → powA (a ++ D) (a.length + D.length) a.length n = some (val D n) := by
  induction D with
  | nil => intro a n _ _ _; rw [powA_end (by simp)]; rfl
  | cons x D ih =>
    intro a n hD hn hv
    have hx := nb_range (hD x (by simp))
    have hv' : val D (10 * n + ((x.toNat : Int) - 48)) ≤ 1000000000 := hv
    have hge := val_ge D (10 * n + ((x.toNat : Int) - 48)) (fun y hy => hD y (by simp [hy])) (by omega)
    have hb : bt (a ++ x :: D) a.length = (x.toNat : Int) := by rw [bt_app, bt_cons]
    rw [powA_on (by simp) (by rw [hb]; omega), hb]
    have := ih (a ++ [x]) (10 * n + ((x.toNat : Int) - 48)) (fun y hy => hD y (by simp [hy])) (by omega) hv'
    rw [show a ++ [x] ++ D = a ++ x :: D by simp] at this
    rw [show a.length + 1 = (a ++ [x]).length by simp, show a.length + (x :: D).length = (a ++ [x]).length + D.length by simp; omega, this]; rfl
theorem u8_digit (n : Nat) (h : n < 10) : ((UInt8.ofNat (48 + n)).toNat : Int) = 48 + n := by
  have : (48 + n) % 256 = 48 + n := Nat.mod_eq_of_lt (by omega)
  simp; omega
theorem itoN_spec (n : Nat) : (∀ x ∈ itoN n, nb x = true) ∧ val (itoN n) 0 = n ∧ itoN n ≠ [] := by
  induction n using Nat.strongRecOn with
  | ind n ih =>
    by_cases h : n < 10
    · rw [itoN_lt h]
      have e := u8_digit n h
      refine ⟨fun x hx => ?_, ?_, by simp⟩
      · obtain rfl : x = UInt8.ofNat (48 + n) := by simpa using hx
        unfold nb; rw [e]; simp [nmr]; omega
      · simp only [val]; rw [e]; omega
    · rw [itoN_ge h]
      obtain ⟨a1, a2, a3⟩ := ih (n / 10) (by omega)
      obtain ⟨b1, b2, b3⟩ := ih (n % 10) (by omega)
      refine ⟨fun x hx => ?_, ?_, by simp [a3]⟩
      · rcases List.mem_append.1 hx with h1 | h1
        · exact a1 x h1
        · exact b1 x h1
      · rw [val_app, a2, itoN_lt (by omega)]
        simp only [val]; rw [u8_digit _ (by omega)]; omega
end Go.Proofs.YthjlnafmpcppfaaGreatDoor
