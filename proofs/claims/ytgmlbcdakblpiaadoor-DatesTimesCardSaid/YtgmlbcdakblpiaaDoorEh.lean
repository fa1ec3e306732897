/- The law DatesDays, walked. -/
import Derived.Test.YtgmlbcdakblpiaaDoorEg
namespace Go.Proofs.YtgmlbcdakblpiaaDoor
open Go.RowKit
namespace Da

theorem rd_date {D : List UInt8} (h1 : D.length = 10) (h2 : dte D = true) : rdD D = if mD D = true then (D, 0) else ([], 9) := by
  have hn : D ≠ [] := by intro e; rw [e] at h1; cases h1
  have sh : Sh D [] [] [] := ⟨.inl hn, fun _ => ⟨h1, h2⟩, fun h => absurd rfl h, fun h => absurd rfl h, fun h => absurd rfl h⟩
  have e : ∀ c, asm c D [] [] [] = D := fun c => by simp [asm, md]
  obtain ⟨a, _, _⟩ := rd_asm sh (c := 84) (by decide)
  rw [e] at a
  rw [a]
  have e2 : ok D [] [] = mD D := by unfold ok; rw [decide_eq_false hn]; simp
  have e3 : nm D [] [] [] = D := by
    rw [nm]; exact e 84
  rw [e2, e3]
def dl (y m d : Nat) : List UInt8 := nml y 4 ++ 45 :: (nml m 2 ++ 45 :: nml d 2)
theorem dl_is (y m d : Nat) : dl y m d = [dc (y / 10 ^ 3), dc (y / 10 ^ 2), dc (y / 10 ^ 1), dc (y / 10 ^ 0), 45, dc (m / 10 ^ 1), dc (m / 10 ^ 0), 45, dc (d / 10 ^ 1), dc (d / 10 ^ 0)] := rfl
theorem dl_bt (y m d : Nat) : bt (dl y m d) 0 = 48 + ((y / 1000 % 10 : Nat) : Int) ∧ bt (dl y m d) 1 = 48 + ((y / 100 % 10 : Nat) : Int) ∧ bt (dl y m d) 2 = 48 + ((y / 10 % 10 : Nat) : Int) ∧ bt (dl y m d) 3 = 48 + ((y / 1 % 10 : Nat) : Int) ∧
    bt (dl y m d) 5 = 48 + ((m / 10 % 10 : Nat) : Int) ∧ bt (dl y m d) 6 = 48 + ((m / 1 % 10 : Nat) : Int) ∧ bt (dl y m d) 8 = 48 + ((d / 10 % 10 : Nat) : Int) ∧ bt (dl y m d) 9 = 48 + ((d / 1 % 10 : Nat) : Int) :=
  ⟨dc_val _, dc_val _, dc_val _, dc_val _, dc_val _, dc_val _, dc_val _, dc_val _⟩
theorem t2_of {l : List UInt8} {i a b : Nat} (h1 : bt l i = 48 + (a : Int)) (h2 : bt l (i + 1) = 48 + (b : Int)) (ha : a < 10) (hb : b < 10) : t2 l i = true := t2_iff.2 (by omega)
theorem v2_of {l : List UInt8} {i a b : Nat} (h1 : bt l i = 48 + (a : Int)) (h2 : bt l (i + 1) = 48 + (b : Int)) : v2 l i = 10 * a + b := by unfold v2; omega
theorem dl_dte (y m d : Nat) : dte (dl y m d) = true := by
  obtain ⟨h0, h1, h2, h3, h5, h6, h8, h9⟩ := dl_bt y m d
  exact dte_iff.2 ⟨t2_of h0 h1 (Nat.mod_lt _ (by omega)) (Nat.mod_lt _ (by omega)), t2_of h2 h3 (Nat.mod_lt _ (by omega)) (Nat.mod_lt _ (by omega)), rfl, t2_of h5 h6 (Nat.mod_lt _ (by omega)) (Nat.mod_lt _ (by omega)), rfl, t2_of h8 h9 (Nat.mod_lt _ (by omega)) (Nat.mod_lt _ (by omega))⟩
theorem dl_mD {y m d : Nat} (hy : y < 10000) (hm : m < 100) (hd : d < 100) : mD (dl y m d) = decide (1 ≤ (m : Int) ∧ (m : Int) ≤ 12 ∧ 1 ≤ (d : Int) ∧ (d : Int) ≤ days y m) := by
  obtain ⟨h0, h1, h2, h3, h5, h6, h8, h9⟩ := dl_bt y m d
  have a1 : v2 (dl y m d) 5 = (m : Int) := by rw [v2_of h5 h6]; omega
  have a2 : v2 (dl y m d) 8 = (d : Int) := by rw [v2_of h8 h9]; omega
  have a3 : 100 * v2 (dl y m d) 0 + v2 (dl y m d) 2 = (y : Int) := by rw [v2_of h0 h1, v2_of h2 h3]; omega
  rw [mD, a1, a2, a3]
theorem dl_rd {y m d : Nat} (hy : y < 10000) (hm : m < 100) (hd : d < 100) : rdD (dl y m d) = if 1 ≤ (m : Int) ∧ (m : Int) ≤ 12 ∧ 1 ≤ (d : Int) ∧ (d : Int) ≤ days y m then (dl y m d, 0) else ([], 9) := by
  rw [rd_date rfl (dl_dte y m d), dl_mD hy hm hd]
  by_cases h : 1 ≤ (m : Int) ∧ (m : Int) ≤ 12 ∧ 1 ≤ (d : Int) ∧ (d : Int) ≤ days y m
  · rw [if_pos h, if_pos (decide_eq_true h)]
  · rw [if_neg h, if_neg (by rw [decide_eq_false h]; simp)]
/-- Days up to the first of a month, from a first of March on. -/
def shf (m : Nat) : Nat := (m + 9) % 12
def frm (y m : Nat) : Nat := 400 + y - shf m / 10
def dys (y m : Nat) : Int := (frm y m : Int) * 365 + ((frm y m / 4 : Nat) : Int) - ((frm y m / 100 : Nat) : Int) + ((frm y m / 400 : Nat) : Int) + (((shf m * 306 + 5) / 10 : Nat) : Int)
theorem dys_days {y m : Nat} (h1 : 1 ≤ m) (h2 : m ≤ 12) : dys (y + m / 12) (m % 12 + 1) - dys y m = days y m := by
  have : m = 1 ∨ m = 2 ∨ m = 3 ∨ m = 4 ∨ m = 5 ∨ m = 6 ∨ m = 7 ∨ m = 8 ∨ m = 9 ∨ m = 10 ∨ m = 11 ∨ m = 12 := by omega
  rcases this with rfl | rfl | rfl | rfl | rfl | rfl | rfl | rfl | rfl | rfl | rfl | rfl
  · have : days y (1 : Nat) = 31 := rfl
    rw [this]; simp only [dys, frm, shf, Nat.reduceAdd, Nat.reduceMod, Nat.reduceDiv, Nat.reduceMul, Nat.add_zero]; omega
  · have e : days y (2 : Nat) = if leap y = true then 29 else 28 := rfl
    rw [e]
    unfold leap
    simp only [dys, frm, shf, Nat.reduceAdd, Nat.reduceMod, Nat.reduceDiv, Nat.reduceMul, Nat.add_zero, Nat.sub_zero]
    by_cases h : (y : Int) % 400 = 0 ∨ (y : Int) % 4 = 0 ∧ (y : Int) % 100 ≠ 0
    · rw [decide_eq_true h, if_pos rfl]; omega
    · rw [decide_eq_false h, if_neg (by simp)]; omega
  all_goals
    first
    | (have e : days y (3 : Nat) = 31 := rfl
       rw [e]; simp only [dys, frm, shf, Nat.reduceAdd, Nat.reduceMod, Nat.reduceDiv, Nat.reduceMul, Nat.add_zero, Nat.sub_zero]; omega)
    | (have e : days y (4 : Nat) = 30 := rfl
       rw [e]; simp only [dys, frm, shf, Nat.reduceAdd, Nat.reduceMod, Nat.reduceDiv, Nat.reduceMul, Nat.add_zero, Nat.sub_zero]; omega)
    | (have e : days y (5 : Nat) = 31 := rfl
       rw [e]; simp only [dys, frm, shf, Nat.reduceAdd, Nat.reduceMod, Nat.reduceDiv, Nat.reduceMul, Nat.add_zero, Nat.sub_zero]; omega)
    | (have e : days y (6 : Nat) = 30 := rfl
       rw [e]; simp only [dys, frm, shf, Nat.reduceAdd, Nat.reduceMod, Nat.reduceDiv, Nat.reduceMul, Nat.add_zero, Nat.sub_zero]; omega)
    | (have e : days y (7 : Nat) = 31 := rfl
       rw [e]; simp only [dys, frm, shf, Nat.reduceAdd, Nat.reduceMod, Nat.reduceDiv, Nat.reduceMul, Nat.add_zero, Nat.sub_zero]; omega)
    | (have e : days y (8 : Nat) = 31 := rfl
       rw [e]; simp only [dys, frm, shf, Nat.reduceAdd, Nat.reduceMod, Nat.reduceDiv, Nat.reduceMul, Nat.add_zero, Nat.sub_zero]; omega)
    | (have e : days y (9 : Nat) = 30 := rfl
       rw [e]; simp only [dys, frm, shf, Nat.reduceAdd, Nat.reduceMod, Nat.reduceDiv, Nat.reduceMul, Nat.add_zero, Nat.sub_zero]; omega)
    | (have e : days y (10 : Nat) = 31 := rfl
       rw [e]; simp only [dys, frm, shf, Nat.reduceAdd, Nat.reduceMod, Nat.reduceDiv, Nat.reduceMul, Nat.add_zero, Nat.sub_zero]; omega)
    | (have e : days y (11 : Nat) = 30 := rfl
       rw [e]; simp only [dys, frm, shf, Nat.reduceAdd, Nat.reduceMod, Nat.reduceDiv, Nat.reduceMul, Nat.add_zero, Nat.sub_zero]; omega)
    | (have e : days y (12 : Nat) = 31 := rfl
       rw [e]; simp only [dys, frm, shf, Nat.reduceAdd, Nat.reduceMod, Nat.reduceDiv, Nat.reduceMul, Nat.sub_zero]; omega)
/-- How many days may be, of the numbers below k. -/
def cnt (N : Int) (k : Nat) : Int := if k = 0 then 0 else if (k : Int) - 1 ≤ N then k - 1 else N
end Da
end Go.Proofs.YtgmlbcdakblpiaaDoor
