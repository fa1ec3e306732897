/- Date-times as lists of bytes: what stands where, the parts, what is answered. -/
import Derived.Test.YtbeefjhcbphiaaaGreatDoorHb
namespace Go.Proofs.YtbeefjhcbphiaaaGreatDoor
open Go.RowKit
namespace Da

theorem bt_far {l : List UInt8} {k : Nat} (h : l.length ≤ k) : bt l k = 0 := by simp [bt, h]
theorem bt_in {l : List UInt8} {k : Nat} (h : bt l k ≠ 0) : k < l.length := by
  rcases Nat.lt_or_ge k l.length with h1 | h1
  · exact h1
  · exact absurd (bt_far h1) h
theorem bt_app (a b : List UInt8) (k : Nat) : bt (a ++ b) k = if k < a.length then bt a k else bt b (k - a.length) := by
  unfold bt
  split
  · rename_i h; simp [List.getD_eq_getElem?_getD, List.getElem?_append_left h]
  · rename_i h; simp [List.getD_eq_getElem?_getD, List.getElem?_append_right (Nat.not_lt.1 h)]
theorem bt_l {a : List UInt8} (b : List UInt8) {k : Nat} (h : k < a.length) : bt (a ++ b) k = bt a k := by rw [bt_app, if_pos h]
theorem bt_r (a b : List UInt8) (k : Nat) : bt (a ++ b) (a.length + k) = bt b k := by rw [bt_app, if_neg (by omega), Nat.add_sub_cancel_left]
theorem bt_c (c : UInt8) (b : List UInt8) : bt (c :: b) 0 = (c.toNat : Int) := rfl
theorem bt_s (c : UInt8) (b : List UInt8) (k : Nat) : bt (c :: b) (k + 1) = bt b k := rfl

/-- A digit. -/
def dg (c : Int) : Bool := decide (48 ≤ c ∧ c ≤ 57)
theorem dg_iff {c : Int} : dg c = true ↔ 48 ≤ c ∧ c ≤ 57 := by simp [dg]
def dd (l : List UInt8) (i : Nat) : Bool := dg (bt l i)
theorem dd_in {l : List UInt8} {i : Nat} (h : dd l i = true) : i < l.length := bt_in (by have := dg_iff.1 h; omega)
def t2 (l : List UInt8) (i : Nat) : Bool := dd l i && dd l (i + 1)
def v2 (l : List UInt8) (i : Nat) : Int := 10 * (bt l i - 48) + (bt l (i + 1) - 48)
theorem t2_iff {l : List UInt8} {i : Nat} : t2 l i = true ↔ (48 ≤ bt l i ∧ bt l i ≤ 57) ∧ 48 ≤ bt l (i + 1) ∧ bt l (i + 1) ≤ 57 := by simp [t2, dd, dg]
theorem t2_v {l : List UInt8} {i : Nat} (h : t2 l i = true) : 0 ≤ v2 l i ∧ v2 l i ≤ 99 := by have := t2_iff.1 h; unfold v2; omega
def dte (l : List UInt8) : Bool := t2 l 0 && t2 l 2 && decide (bt l 4 = 45) && t2 l 5 && decide (bt l 7 = 45) && t2 l 8
theorem dte_iff {l : List UInt8} : dte l = true ↔ t2 l 0 = true ∧ t2 l 2 = true ∧ bt l 4 = 45 ∧ t2 l 5 = true ∧ bt l 7 = 45 ∧ t2 l 8 = true := by simp [dte, and_assoc]
def clk (l : List UInt8) (i : Nat) : Bool := t2 l i && decide (bt l (i + 2) = 58) && t2 l (i + 3) && decide (bt l (i + 5) = 58) && t2 l (i + 6)
theorem clk_iff {l : List UInt8} {i : Nat} : clk l i = true ↔ t2 l i = true ∧ bt l (i + 2) = 58 ∧ t2 l (i + 3) = true ∧ bt l (i + 5) = 58 ∧ t2 l (i + 6) = true := by simp [clk, and_assoc]
theorem t2_in {l : List UInt8} {i : Nat} (h : t2 l i = true) : i + 2 ≤ l.length := by
  have : dd l (i + 1) = true := by simp [t2] at h; exact h.2
  exact dd_in this
theorem dte_in {l : List UInt8} (h : dte l = true) : 10 ≤ l.length := t2_in (dte_iff.1 h).2.2.2.2.2
theorem clk_in {l : List UInt8} {i : Nat} (h : clk l i = true) : i + 8 ≤ l.length := t2_in (clk_iff.1 h).2.2.2.2
/-- How many digits stand ahead. -/
def run : List UInt8 → Nat
  | [] => 0
  | c :: l => if dg (c.toNat : Int) then run l + 1 else 0
theorem run_le : ∀ l, run l ≤ l.length
  | [] => Nat.le_refl _
  | c :: l => by
    have := run_le l
    simp only [run, List.length_cons]; split <;> omega
theorem run_all {l : List UInt8} : ∀ c ∈ l.take (run l), dg (c.toNat : Int) = true := by
  induction l with
  | nil => simp [run]
  | cons a l ih =>
    intro c hc
    rw [run] at hc
    split at hc
    · rename_i h
      rw [List.take_succ_cons, List.mem_cons] at hc
      rcases hc with rfl | hc
      · exact h
      · exact ih c hc
    · simp at hc
theorem run_app : ∀ {a b : List UInt8}, (∀ c ∈ a, dg (c.toNat : Int) = true) → run (a ++ b) = a.length + run b
  | [], b, _ => by simp
  | c :: a, b, h => by
    rw [List.cons_append, run, if_pos (h c (by simp)), run_app (fun x hx => h x (by simp [hx])), List.length_cons]; omega
theorem run_no {l : List UInt8} (h : dg (bt l 0) = false) : run l = 0 := by
  cases l with
  | nil => rfl
  | cons c l => rw [run, if_neg (by rw [bt_c] at h; simp [h])]
theorem run_at {l : List UInt8} {k : Nat} : run (l.drop k) = if dd l k = true then run (l.drop (k + 1)) + 1 else 0 := by
  by_cases hk : k < l.length
  · rw [List.drop_eq_getElem_cons hk, run]
    have : bt l k = ((l[k]).toNat : Int) := by simp [bt, hk]
    unfold dd; rw [this]
  · rw [List.drop_eq_nil_of_le (by omega), if_neg]
    · rfl
    · intro h; exact hk (dd_in h)
/-- A part of a second. -/
def frc (l : List UInt8) (i : Nat) : Nat := if bt l i = 46 ∧ dd l (i + 1) = true then run (l.drop (i + 1)) + 1 else 0
def zc (c : Int) : Bool := decide (c = 90 ∨ c = 122)
def zs (l : List UInt8) (i : Nat) : Bool := decide (bt l i = 43 ∨ bt l i = 45) && t2 l (i + 1) && decide (bt l (i + 3) = 58) && t2 l (i + 4)
theorem zs_iff {l : List UInt8} {i : Nat} : zs l i = true ↔ (bt l i = 43 ∨ bt l i = 45) ∧ t2 l (i + 1) = true ∧ bt l (i + 3) = 58 ∧ t2 l (i + 4) = true := by simp [zs, and_assoc]
def zn (l : List UInt8) (i : Nat) : Nat := if zc (bt l i) = true then 1 else if zs l i = true then 6 else 0
def sp (c : Int) : Bool := decide (c = 84 ∨ c = 116 ∨ c = 32)
theorem frc_in {l : List UInt8} {i : Nat} (hi : i ≤ l.length) : i + frc l i ≤ l.length := by
  unfold frc
  split
  · rename_i h
    have h1 := dd_in h.2
    have h2 := run_le (l.drop (i + 1))
    rw [List.length_drop] at h2
    omega
  · omega
theorem zn_in {l : List UInt8} {i : Nat} (hi : i ≤ l.length) : i + zn l i ≤ l.length := by
  unfold zn
  split
  · rename_i h
    have := bt_in (l := l) (k := i) (by simp [zc] at h; omega)
    omega
  · split
    · rename_i h; exact t2_in (zs_iff.1 h).2.2.2
    · omega
section
variable (l : List UInt8)
def tp : Nat := if dte l = true then 11 else 0
def hT : Bool := if dte l = true then sp (bt l 10) && clk l 11 else clk l 0
def nF : Nat := if hT l = true then frc l (tp l + 8) else 0
def nZ : Nat := if dte l = true ∧ hT l = true then zn l (tp l + 8 + nF l) else 0
def en : Nat := if hT l = true then tp l + 8 + nF l + nZ l else if dte l = true then 10 else 0
def pD : List UInt8 := if dte l = true then l.take 10 else []
def pT : List UInt8 := if hT l = true then (l.drop (tp l)).take 8 else []
def pF : List UInt8 := (l.drop (tp l + 8)).take (nF l)
def pZ : List UInt8 := (l.drop (tp l + 8 + nF l)).take (nZ l)
end
/-- The kind of these parts. -/
def kd4 (D T Z : List UInt8) : Nat := if Z ≠ [] then 4 else if D ≠ [] ∧ T ≠ [] then 3 else if T ≠ [] then 2 else if D ≠ [] then 1 else 0
def leap (y : Int) : Bool := decide (y % 400 = 0 ∨ y % 4 = 0 ∧ y % 100 ≠ 0)
def days (y m : Int) : Int := if m = 2 then (if leap y = true then 29 else 28) else if m = 4 ∨ m = 6 ∨ m = 9 ∨ m = 11 then 30 else 31
def mD (D : List UInt8) : Bool := decide (1 ≤ v2 D 5 ∧ v2 D 5 ≤ 12 ∧ 1 ≤ v2 D 8 ∧ v2 D 8 ≤ days (100 * v2 D 0 + v2 D 2) (v2 D 5))
def mT (T : List UInt8) : Bool := decide (v2 T 0 ≤ 23 ∧ v2 T 3 ≤ 59 ∧ (v2 T 6 ≤ 59 ∨ v2 T 6 = 60 ∧ v2 T 3 = 59))
def mZ (Z : List UInt8) : Bool := decide (Z.length < 6 ∨ v2 Z 1 ≤ 23 ∧ v2 Z 4 ≤ 59)
def ok (D T Z : List UInt8) : Bool := (decide (D = []) || mD D) && (decide (T = []) || mT T) && (decide (Z = []) || mZ Z)
/-- Noughts at the end are dropped. -/
def st0 (l : List UInt8) : List UInt8 := (l.reverse.dropWhile (· == 48)).reverse
def stp (l : List UInt8) : List UInt8 := if st0 l = [46] then [] else st0 l
def up (c : UInt8) : UInt8 := if c = 122 then 90 else c
def md (D T : List UInt8) (c : UInt8) : List UInt8 := if D ≠ [] ∧ T ≠ [] then [c] else []
def asm (c : UInt8) (D T F Z : List UInt8) : List UInt8 := D ++ (md D T c ++ (T ++ (F ++ Z)))
def nm (D T F Z : List UInt8) : List UInt8 := asm 84 D T (stp F) (Z.map up)
def kd (l : List UInt8) : Nat := kd4 (pD l) (pT l) (pZ l)
/-- What is read. -/
def rdD (l : List UInt8) : List UInt8 × Int :=
  if en l = l.length ∧ kd l ≠ 0 then (if ok (pD l) (pT l) (pZ l) = true then (nm (pD l) (pT l) (pF l) (pZ l), 0) else ([], 9)) else ([], 3)
def ofD (l : List UInt8) : Nat := if (rdD l).2 = 0 ∧ (rdD l).1 = l then kd l else 0
end Da
end Go.Proofs.YtbeefjhcbphiaaaGreatDoor
/- Date-times as lists: parts put together are told as these parts. -/
namespace Go.Proofs.YtbeefjhcbphiaaaGreatDoor
open Go.RowKit
namespace Da

theorem t2_l {a b : List UInt8} {k : Nat} (h : k + 2 ≤ a.length) : t2 (a ++ b) k = t2 a k := by unfold t2 dd; rw [bt_l b (by omega), bt_l b (by omega)]
theorem v2_l {a b : List UInt8} {k : Nat} (h : k + 2 ≤ a.length) : v2 (a ++ b) k = v2 a k := by unfold v2; rw [bt_l b (by omega), bt_l b (by omega)]
theorem t2_r (a b : List UInt8) (k : Nat) : t2 (a ++ b) (a.length + k) = t2 b k := by unfold t2 dd; rw [bt_r, Nat.add_assoc, bt_r]
theorem dte_l {a b : List UInt8} (h : 10 ≤ a.length) : dte (a ++ b) = dte a := by
  unfold dte
  rw [t2_l (by omega), t2_l (by omega), t2_l (by omega), t2_l (by omega), bt_l b (by omega), bt_l b (by omega)]
theorem clk_l {a b : List UInt8} {i : Nat} (h : i + 8 ≤ a.length) : clk (a ++ b) i = clk a i := by
  unfold clk
  rw [t2_l (by omega), t2_l (by omega), t2_l (by omega), bt_l b (by omega), bt_l b (by omega)]
theorem clk_r (a b : List UInt8) (i : Nat) : clk (a ++ b) (a.length + i) = clk b i := by
  unfold clk
  simp only [Nat.add_assoc, t2_r, bt_r]
theorem zs_l {a b : List UInt8} {i : Nat} (h : i + 6 ≤ a.length) : zs (a ++ b) i = zs a i := by
  unfold zs
  rw [t2_l (by omega), t2_l (by omega), bt_l b (by omega), bt_l b (by omega)]
theorem zs_r (a b : List UInt8) (i : Nat) : zs (a ++ b) (a.length + i) = zs b i := by
  unfold zs
  simp only [Nat.add_assoc, t2_r, bt_r]
theorem drop_r (a b : List UInt8) (k : Nat) : (a ++ b).drop (a.length + k) = b.drop k := by
  rw [List.drop_append]; simp
theorem frc_r (a b : List UInt8) (i : Nat) : frc (a ++ b) (a.length + i) = frc b i := by
  unfold frc dd
  simp only [Nat.add_assoc, bt_r, drop_r]
theorem zn_r (a b : List UInt8) (i : Nat) : zn (a ++ b) (a.length + i) = zn b i := by
  unfold zn
  simp only [bt_r, zs_r]
theorem bt_dr (l : List UInt8) (i k : Nat) : bt (l.drop i) k = bt l (i + k) := bt_drop l i k
theorem t2_dr (l : List UInt8) (i k : Nat) : t2 (l.drop i) k = t2 l (i + k) := by unfold t2 dd; rw [bt_drop, bt_drop, Nat.add_assoc]
theorem clk_dr (l : List UInt8) (i k : Nat) : clk (l.drop i) k = clk l (i + k) := by
  unfold clk; simp only [bt_drop, t2_dr, Nat.add_assoc]
theorem zs_dr (l : List UInt8) (i k : Nat) : zs (l.drop i) k = zs l (i + k) := by
  unfold zs; simp only [bt_drop, t2_dr, Nat.add_assoc]
theorem zn_dr (l : List UInt8) (i k : Nat) : zn (l.drop i) k = zn l (i + k) := by
  unfold zn; simp only [bt_drop, zs_dr]
theorem frc_dr (l : List UInt8) (i k : Nat) : frc (l.drop i) k = frc l (i + k) := by
  unfold frc dd; simp only [bt_drop, List.drop_drop, Nat.add_assoc]
theorem t2_tk {l : List UInt8} {n k : Nat} (h : k + 2 ≤ n) : t2 (l.take n) k = t2 l k := by unfold t2 dd; rw [bt_take l (by omega), bt_take l (by omega)]
theorem v2_tk {l : List UInt8} {n k : Nat} (h : k + 2 ≤ n) : v2 (l.take n) k = v2 l k := by unfold v2; rw [bt_take l (by omega), bt_take l (by omega)]
theorem v2_dr (l : List UInt8) (i k : Nat) : v2 (l.drop i) k = v2 l (i + k) := by unfold v2; rw [bt_drop, bt_drop, Nat.add_assoc]
theorem dte_tk {l : List UInt8} : dte (l.take 10) = dte l := by
  unfold dte
  rw [t2_tk (by omega), t2_tk (by omega), t2_tk (by omega), t2_tk (by omega), bt_take l (by omega), bt_take l (by omega)]
theorem clk_tk {l : List UInt8} {n i : Nat} (h : i + 8 ≤ n) : clk (l.take n) i = clk l i := by
  unfold clk
  rw [t2_tk (by omega), t2_tk (by omega), t2_tk (by omega), bt_take l (by omega), bt_take l (by omega)]
theorem zs_tk {l : List UInt8} {n i : Nat} (h : i + 6 ≤ n) : zs (l.take n) i = zs l i := by
  unfold zs
  rw [t2_tk (by omega), t2_tk (by omega), bt_take l (by omega), bt_take l (by omega)]

/-- What a zone's text is. -/
def zt (Z : List UInt8) : Prop := Z.length = 1 ∧ zc (bt Z 0) = true ∨ Z.length = 6 ∧ zs Z 0 = true
/-- What a part of a second's text is. -/
def ft (F : List UInt8) : Prop := ∃ ds, ds ≠ [] ∧ F = 46 :: ds ∧ ∀ c ∈ ds, dg (c.toNat : Int) = true
/-- Parts that stand together. -/
structure Sh (D T F Z : List UInt8) : Prop where
  n : D ≠ [] ∨ T ≠ []
  d : D ≠ [] → D.length = 10 ∧ dte D = true
  t : T ≠ [] → T.length = 8 ∧ clk T 0 = true
  f : F ≠ [] → T ≠ [] ∧ ft F
  z : Z ≠ [] → D ≠ [] ∧ T ≠ [] ∧ zt Z
theorem zt_first {Z : List UInt8} (h : zt Z) : bt Z 0 = 90 ∨ bt Z 0 = 122 ∨ bt Z 0 = 43 ∨ bt Z 0 = 45 := by
  rcases h with ⟨_, h⟩ | ⟨_, h⟩
  · unfold zc at h; have := of_decide_eq_true h; omega
  · have := (zs_iff.1 h).1; omega
theorem zt_len {Z : List UInt8} (h : zt Z) : 1 ≤ Z.length := by rcases h with ⟨h, _⟩ | ⟨h, _⟩ <;> omega
theorem zn_zt {Z : List UInt8} (h : zt Z) (R : List UInt8) : zn (Z ++ R) 0 = Z.length := by
  rcases h with ⟨h1, h2⟩ | ⟨h1, h2⟩
  · rw [zn, bt_l R (by omega), if_pos h2, h1]
  · have h3 := (zs_iff.1 h2).1
    rw [zn, bt_l R (by omega), if_neg (by simp [zc]; omega), zs_l (by omega), if_pos h2, h1]
theorem zn_nil : zn [] 0 = 0 := by decide
theorem frc_zt {Z : List UInt8} (h : zt Z) (R : List UInt8) : frc (Z ++ R) 0 = 0 ∧ run (Z ++ R) = 0 := by
  have h1 := zt_first h
  have h2 := zt_len h
  refine ⟨?_, run_no ?_⟩
  · rw [frc, if_neg]; rw [bt_l R (by omega)]; omega
  · rw [bt_l R (by omega)]; unfold dg; rw [decide_eq_false (by omega)]
theorem frc_ft {F : List UInt8} (h : ft F) (X : List UInt8) : frc (F ++ X) 0 = F.length + run X := by
  obtain ⟨ds, h1, rfl, h3⟩ := h
  have h4 : (46 :: ds) ++ X = 46 :: (ds ++ X) := rfl
  obtain ⟨d, ds', rfl⟩ : ∃ d ds', ds = d :: ds' := by cases ds with | nil => exact absurd rfl h1 | cons d ds' => exact ⟨d, ds', rfl⟩
  rw [frc, if_pos, h4, List.drop_succ_cons, List.drop_zero, run_app h3]
  · simp only [List.length_cons]; omega
  · refine ⟨rfl, ?_⟩
    unfold dd
    exact h3 d (by simp)
theorem frc_of {F Z R : List UInt8} (hF : F ≠ [] → ft F) (hZ : Z ≠ [] → zt Z) : F.length ≤ frc (F ++ (Z ++ R)) 0 ∧ (Z ≠ [] ∨ R = [] → frc (F ++ (Z ++ R)) 0 = F.length) := by
  by_cases f : F = []
  · subst f
    refine ⟨by simp, fun h => ?_⟩
    by_cases z : Z = []
    · subst z
      rcases h with h | rfl
      · exact absurd rfl h
      · decide
    · rw [List.nil_append, (frc_zt (hZ z) R).1]; rfl
  · rw [frc_ft (hF f)]
    refine ⟨by omega, fun h => ?_⟩
    by_cases z : Z = []
    · subst z
      rcases h with h | rfl
      · exact absurd rfl h
      · rfl
    · rw [(frc_zt (hZ z) R).2, Nat.add_zero]
theorem dte_clk {l : List UInt8} (h : clk l 0 = true) : dte l = false := by
  cases hd : dte l
  · rfl
  · have h1 := (clk_iff.1 h).2.1
    have h2 := t2_iff.1 (dte_iff.1 hd).2.1
    simp only [Nat.zero_add] at h1
    omega
theorem con {D T F Z : List UInt8} (h : Sh D T F Z) {c : UInt8} (hc : sp (c.toNat : Int) = true) (R : List UInt8) :
    (asm c D T F Z).length ≤ en (asm c D T F Z ++ R) ∧
    (R = [] → pD (asm c D T F Z ++ R) = D ∧ pT (asm c D T F Z ++ R) = T ∧ pF (asm c D T F Z ++ R) = F ∧ pZ (asm c D T F Z ++ R) = Z ∧ en (asm c D T F Z ++ R) = (asm c D T F Z).length) := by
  by_cases t : T = []
  · -- a date alone
    have f : F = [] := Decidable.byContradiction fun g => (h.f g).1 t
    have z : Z = [] := Decidable.byContradiction fun g => (h.z g).2.1 t
    have d : D ≠ [] := h.n.resolve_right (fun g => g t)
    obtain ⟨d1, d2⟩ := h.d d
    subst t f z
    have e : asm c D [] [] [] = D := by simp [asm, md]
    rw [e]
    have hd : dte (D ++ R) = true := by rw [dte_l (by omega)]; exact d2
    refine ⟨?_, ?_⟩
    · rw [en]
      split
      · rw [tp, if_pos hd]; omega
      · omega
    · rintro rfl
      rw [List.append_nil] at hd ⊢
      have hh : hT D = false := by
        rw [hT, if_pos hd, bt_far (by omega)]; rfl
      have n1 : nF D = 0 := by rw [nF, hh]; rfl
      have n2 : nZ D = 0 := by rw [nZ, hh]; simp
      refine ⟨?_, ?_, ?_, ?_, ?_⟩
      · rw [pD, if_pos hd, List.take_of_length_le (by omega)]
      · rw [pT, hh]; rfl
      · rw [pF, n1]; rfl
      · rw [pZ, n2]; rfl
      · rw [en, hh, if_neg (by simp), if_pos hd, d1]
  · obtain ⟨t1, t2'⟩ := h.t t
    by_cases d : D = []
    · have z : Z = [] := Decidable.byContradiction fun g => (h.z g).1 d
      subst d z
      have e : asm c [] T F [] ++ R = T ++ (F ++ ([] ++ R)) := by simp [asm, md]
      have e1 : (asm c [] T F []).length = 8 + F.length := by simp [asm, md, t1]
      have hk : clk (asm c [] T F [] ++ R) 0 = true := by rw [e, clk_l (by omega)]; exact t2'
      have hd := dte_clk hk
      obtain ⟨g1, g2⟩ := frc_of (Z := []) (R := R) (fun g => (h.f g).2) (fun g => absurd rfl g)
      have hh : hT (asm c [] T F [] ++ R) = true := by rw [hT, hd]; exact hk
      have ht : tp (asm c [] T F [] ++ R) = 0 := by rw [tp, hd]; rfl
      have n1 : nF (asm c [] T F [] ++ R) = frc (F ++ ([] ++ R)) 0 := by
        rw [nF, hh, if_pos rfl, ht, e]
        have := frc_r T (F ++ ([] ++ R)) 0
        rw [t1] at this; exact this
      have n2 : nZ (asm c [] T F [] ++ R) = 0 := by rw [nZ, hd]; simp
      refine ⟨?_, fun r => ?_⟩
      · rw [en, hh, if_pos rfl, ht, n1, e1]; omega
      · have n3 := g2 (.inr r)
        rw [← n1] at n3
        refine ⟨?_, ?_, ?_, ?_, ?_⟩
        · rw [pD, hd]; rfl
        · rw [pT, hh, ht, e, if_pos rfl, List.drop_zero, List.take_left' t1]
        · rw [pF, ht, n3, e, show 0 + 8 = T.length + 0 by omega, drop_r, List.drop_zero, List.take_left' rfl]
        · rw [pZ, n2]; rfl
        · rw [en, hh, if_pos rfl, ht, n3, n2, e1]; omega
    · obtain ⟨d1, d2⟩ := h.d d
      have e : asm c D T F Z ++ R = (D ++ [c]) ++ (T ++ (F ++ (Z ++ R))) := by simp [asm, md, d, t]
      have e1 : (asm c D T F Z).length = 19 + F.length + Z.length := by simp [asm, md, d, t, t1, d1]; omega
      have a1 : (D ++ [c]).length = 11 := by simp [d1]
      have a2 : (D ++ [c] ++ T).length = 19 := by simp [d1, t1]
      have hd : dte (asm c D T F Z ++ R) = true := by rw [e, List.append_assoc, dte_l (by omega)]; exact d2
      have hb : bt (asm c D T F Z ++ R) 10 = (c.toNat : Int) := by
        rw [e, bt_l _ (by omega)]
        have := bt_r D [c] 0
        rw [d1] at this; exact this
      have hk : clk (asm c D T F Z ++ R) 11 = true := by
        rw [e]
        have := clk_r (D ++ [c]) (T ++ (F ++ (Z ++ R))) 0
        rw [a1] at this
        rw [this, clk_l (by omega)]; exact t2'
      obtain ⟨g1, g2⟩ := frc_of (R := R) (fun g => (h.f g).2) (fun g => (h.z g).2.2)
      have hh : hT (asm c D T F Z ++ R) = true := by rw [hT, if_pos hd, hb, hc, hk]; rfl
      have ht : tp (asm c D T F Z ++ R) = 11 := by rw [tp, if_pos hd]
      have n1 : nF (asm c D T F Z ++ R) = frc (F ++ (Z ++ R)) 0 := by
        rw [nF, hh, if_pos rfl, ht, e, ← List.append_assoc]
        have := frc_r (D ++ [c] ++ T) (F ++ (Z ++ R)) 0
        rw [a2] at this; exact this
      have n2 : nF (asm c D T F Z ++ R) = F.length → nZ (asm c D T F Z ++ R) = zn (Z ++ R) 0 := fun n3 => by
        rw [nZ, if_pos ⟨hd, hh⟩, ht, n3, e, ← List.append_assoc, ← List.append_assoc]
        have := zn_r (D ++ [c] ++ T ++ F) (Z ++ R) 0
        rw [List.length_append, a2] at this; exact this
      have zz : Z ≠ [] → zn (Z ++ R) 0 = Z.length := fun g => zn_zt (h.z g).2.2 R
      refine ⟨?_, fun r => ?_⟩
      · rw [en, hh, if_pos rfl, ht, e1]
        by_cases z : Z = []
        · subst z
          simp only [List.length_nil]; omega
        · have n3 := n1.trans (g2 (.inl z))
          rw [n2 n3, n3, zz z]; omega
      · have n3 := n1.trans (g2 (.inr r))
        have n4 : nZ (asm c D T F Z ++ R) = Z.length := by
          rw [n2 n3]
          by_cases z : Z = []
          · subst z r; exact zn_nil
          · exact zz z
        refine ⟨?_, ?_, ?_, ?_, ?_⟩
        · rw [pD, if_pos hd, e, List.append_assoc, List.take_left' d1]
        · rw [pT, hh, ht, e, if_pos rfl]
          have := drop_r (D ++ [c]) (T ++ (F ++ (Z ++ R))) 0
          rw [a1] at this
          rw [this, List.drop_zero, List.take_left' t1]
        · rw [pF, ht, n3, e, ← List.append_assoc]
          have := drop_r (D ++ [c] ++ T) (F ++ (Z ++ R)) 0
          rw [a2] at this
          rw [this, List.drop_zero, List.take_left' rfl]
        · rw [pZ, ht, n3, n4, e, ← List.append_assoc, ← List.append_assoc]
          have := drop_r (D ++ [c] ++ T ++ F) (Z ++ R) 0
          rw [List.length_append, a2, Nat.add_zero] at this
          rw [show 11 + 8 + F.length = 19 + F.length from rfl, this, List.drop_zero, List.take_left' rfl]
        · rw [en, hh, if_pos rfl, ht, n3, n4, e1]
end Da
end Go.Proofs.YtbeefjhcbphiaaaGreatDoor
/- Date-times as lists: a text is its parts put together; what is read is read again; beginnings. -/
namespace Go.Proofs.YtbeefjhcbphiaaaGreatDoor
open Go.RowKit
namespace Da

theorem hT_clk {l : List UInt8} (h : hT l = true) : clk l (tp l) = true := by
  unfold hT at h
  unfold tp
  cases hd : dte l
  · rw [hd, if_neg (by simp)] at h
    rw [if_neg (by simp)]; exact h
  · rw [hd, if_pos rfl] at h
    rw [if_pos rfl]
    simp only [Bool.and_eq_true] at h
    exact h.2
theorem en_le (l : List UInt8) : en l ≤ l.length := by
  unfold en
  split
  · rename_i h
    have h1 := clk_in (hT_clk h)
    have h2 := frc_in (l := l) (i := tp l + 8) h1
    have h3 : tp l + 8 + nF l ≤ l.length := by rw [nF, if_pos h]; exact h2
    have h4 := zn_in h3
    unfold nZ
    split <;> omega
  · split
    · rename_i h; exact dte_in h
    · omega
theorem pD_len {l : List UInt8} (h : dte l = true) : (pD l).length = 10 := by
  have := dte_in h
  rw [pD, if_pos h, List.length_take]; omega
theorem pT_len {l : List UInt8} (h : hT l = true) : (pT l).length = 8 := by
  have := clk_in (hT_clk h)
  rw [pT, if_pos h, List.length_take, List.length_drop]; omega
theorem pF_len (l : List UInt8) : (pF l).length = nF l := by
  rw [pF, List.length_take, List.length_drop]
  by_cases h : hT l = true
  · have h2 := frc_in (l := l) (i := tp l + 8) (clk_in (hT_clk h))
    have : nF l = frc l (tp l + 8) := by rw [nF, if_pos h]
    omega
  · have : nF l = 0 := by rw [nF, if_neg h]
    omega
theorem pZ_len (l : List UInt8) : (pZ l).length = nZ l := by
  rw [pZ, List.length_take, List.length_drop]
  by_cases h : dte l = true ∧ hT l = true
  · have h2 := frc_in (l := l) (i := tp l + 8) (clk_in (hT_clk h.2))
    have h3 : nF l = frc l (tp l + 8) := by rw [nF, if_pos h.2]
    have h4 := zn_in (l := l) (i := tp l + 8 + nF l) (by omega)
    have : nZ l = zn l (tp l + 8 + nF l) := by rw [nZ, if_pos h]
    omega
  · have : nZ l = 0 := by rw [nZ, if_neg h]
    omega
theorem pF_ft {l : List UInt8} (h : pF l ≠ []) : hT l = true ∧ ft (pF l) := by
  have hl := List.length_pos_iff.2 h
  rw [pF_len] at hl
  have hh : hT l = true := by
    cases g : hT l
    · rw [nF, g, if_neg (by simp)] at hl; omega
    · rfl
  refine ⟨hh, ?_⟩
  have h3 : nF l = frc l (tp l + 8) := by rw [nF, if_pos hh]
  have h5 := hl
  rw [h3, frc] at hl
  split at hl
  · rename_i hc
    have h4 : nF l = run (l.drop (tp l + 8 + 1)) + 1 := by rw [h3, frc, if_pos hc]
    have hin : tp l + 8 < l.length := bt_in (by rw [hc.1]; decide)
    refine ⟨(l.drop (tp l + 8 + 1)).take (run (l.drop (tp l + 8 + 1))), ?_, ?_, run_all⟩
    · have h6 := run_at (l := l) (k := tp l + 8 + 1)
      rw [hc.2, if_pos rfl] at h6
      have h7 := dd_in hc.2
      intro e
      have := congrArg List.length e
      rw [List.length_take, List.length_drop, List.length_nil] at this
      omega
    · rw [pF, h4, List.drop_eq_getElem_cons hin, List.take_succ_cons]
      congr 1
      have : bt l (tp l + 8) = ((l[tp l + 8]).toNat : Int) := by simp [bt, hin]
      exact UInt8.toNat_inj.1 (by rw [this] at hc; have := hc.1; show _ = 46; omega)
  · omega
theorem pZ_zt {l : List UInt8} (h : pZ l ≠ []) : dte l = true ∧ hT l = true ∧ zt (pZ l) := by
  have hl := List.length_pos_iff.2 h
  have hz := pZ_len l
  rw [hz] at hl
  by_cases hc : dte l = true ∧ hT l = true
  · refine ⟨hc.1, hc.2, ?_⟩
    have h3 : nZ l = zn l (tp l + 8 + nF l) := by rw [nZ, if_pos hc]
    have hb : bt (pZ l) 0 = bt l (tp l + 8 + nF l) := by rw [pZ, bt_take _ hl, bt_drop, Nat.add_zero]
    by_cases a : zc (bt l (tp l + 8 + nF l)) = true
    · have : zn l (tp l + 8 + nF l) = 1 := by rw [zn, if_pos a]
      exact .inl ⟨by omega, by rw [hb]; exact a⟩
    · by_cases b : zs l (tp l + 8 + nF l) = true
      · have h6 : zn l (tp l + 8 + nF l) = 6 := by rw [zn, if_neg a, if_pos b]
        refine .inr ⟨by omega, ?_⟩
        rw [pZ, h3, h6, zs_tk (by omega), zs_dr, Nat.add_zero]; exact b
      · have h6 : zn l (tp l + 8 + nF l) = 0 := by rw [zn, if_neg a, if_neg b]
        omega
  · rw [nZ, if_neg hc] at hl; omega
theorem kd_zero {l : List UInt8} (h1 : dte l = false) (h2 : hT l = false) : kd l = 0 := by
  have a : pD l = [] := by rw [pD, h1]; rfl
  have b : pT l = [] := by rw [pT, h2]; rfl
  have c : pZ l = [] := by
    by_cases z : pZ l = []
    · exact z
    · have := (pZ_zt z).1; rw [h1] at this; cases this
  rw [kd, kd4, a, b, c]; rfl
theorem sh_of {l : List UInt8} (h : kd l ≠ 0) : Sh (pD l) (pT l) (pF l) (pZ l) := by
  have hd : pD l ≠ [] → dte l = true := fun g => by
    cases hd : dte l
    · rw [pD, hd] at g; exact absurd rfl g
    · rfl
  have ht : pT l ≠ [] → hT l = true := fun g => by
    cases hd : hT l
    · rw [pT, hd] at g; exact absurd rfl g
    · rfl
  have dn : dte l = true → pD l ≠ [] := fun g e => by have := pD_len g; rw [e] at this; cases this
  have tn : hT l = true → pT l ≠ [] := fun g e => by have := pT_len g; rw [e] at this; cases this
  refine ⟨?_, fun g => ?_, fun g => ?_, fun g => ?_, fun g => ?_⟩
  · cases h1 : dte l
    · cases h2 : hT l
      · exact absurd (kd_zero h1 h2) h
      · exact .inr (tn h2)
    · exact .inl (dn h1)
  · refine ⟨pD_len (hd g), ?_⟩
    rw [pD, if_pos (hd g), dte_tk]; exact hd g
  · refine ⟨pT_len (ht g), ?_⟩
    rw [pT, if_pos (ht g), clk_tk (by omega), clk_dr, Nat.add_zero]; exact hT_clk (ht g)
  · exact ⟨tn (pF_ft g).1, (pF_ft g).2⟩
  · exact ⟨dn (pZ_zt g).1, tn (pZ_zt g).2.1, (pZ_zt g).2.2⟩
theorem kd_sh {D T F Z : List UInt8} (h : Sh D T F Z) : kd4 D T Z ≠ 0 := by
  unfold kd4
  split
  · omega
  · split
    · omega
    · split
      · omega
      · rename_i h1 h2 h3
        rw [if_pos (h.n.resolve_right h3)]; omega
/-- A text is its parts, put together, and what is behind them. -/
theorem join {l : List UInt8} (h : kd l ≠ 0) : ∃ c : UInt8, sp (c.toNat : Int) = true ∧ l = asm c (pD l) (pT l) (pF l) (pZ l) ++ l.drop (en l) ∧ (asm c (pD l) (pT l) (pF l) (pZ l)).length = en l := by
  have sh := sh_of h
  cases hd : dte l
  · cases hh : hT l
    · exact absurd (kd_zero hd hh) h
    · have a : pD l = [] := by rw [pD, hd]; rfl
      have z : pZ l = [] := by
        by_cases z : pZ l = []
        · exact z
        · have := (pZ_zt z).1; rw [hd] at this; cases this
      have nz : nZ l = 0 := by rw [← pZ_len, z]; rfl
      have ht : tp l = 0 := by rw [tp, hd]; rfl
      have he : en l = 8 + nF l := by rw [en, hh, if_pos rfl, ht, nz]; omega
      refine ⟨84, by decide, ?_, ?_⟩
      · rw [a, z, he, asm, md, if_neg (fun g => g.1 rfl), pT, hh, if_pos rfl, ht, pF, ht, List.drop_zero]
        simp only [List.nil_append, List.append_nil, Nat.zero_add]
        rw [List.append_assoc, ← List.drop_drop, List.take_append_drop, List.take_append_drop]
      · rw [a, z, he, asm, md, if_neg (fun g => g.1 rfl)]
        simp only [List.nil_append, List.append_nil, List.length_append, pF_len, pT_len hh]
  · cases hh : hT l
    · have b : pT l = [] := by rw [pT, hh]; rfl
      have f : pF l = [] := by
        by_cases z : pF l = []
        · exact z
        · have := (pF_ft z).1; rw [hh] at this; cases this
      have z : pZ l = [] := by
        by_cases z : pZ l = []
        · exact z
        · have := (pZ_zt z).2.1; rw [hh] at this; cases this
      have he : en l = 10 := by rw [en, hh, hd]; rfl
      refine ⟨84, by decide, ?_, ?_⟩
      · rw [b, f, z, he, asm, md, if_neg (fun g => g.2 rfl), pD, hd, if_pos rfl]
        simp
      · rw [b, f, z, he, asm, md, if_neg (fun g => g.2 rfl)]
        simp [pD_len hd]
    · have dn : pD l ≠ [] := fun e => by have := pD_len hd; rw [e] at this; cases this
      have tn : pT l ≠ [] := fun e => by have := pT_len hh; rw [e] at this; cases this
      have ht : tp l = 11 := by rw [tp, hd]; rfl
      have he : en l = 19 + nF l + nZ l := by rw [en, hh, if_pos rfl, ht]
      have hin : 10 < l.length := by have := clk_in (hT_clk hh); omega
      have hs : sp (bt l 10) = true := by
        have := hh
        rw [hT, hd, if_pos rfl] at this
        simp only [Bool.and_eq_true] at this
        exact this.1
      refine ⟨l[10], ?_, ?_, ?_⟩
      · have : bt l 10 = ((l[10]).toNat : Int) := by simp [bt, hin]
        rw [← this]; exact hs
      · rw [he, asm, md, if_pos ⟨dn, tn⟩, pD, hd, if_pos rfl, pT, hh, if_pos rfl, ht, pF, ht, pZ, ht]
        have e1 : l.drop (19 + nF l + nZ l) = ((l.drop (11 + 8 + nF l)).drop (nZ l)) := by rw [List.drop_drop]
        have e2 : l.drop (11 + 8 + nF l) = (l.drop (11 + 8)).drop (nF l) := by rw [List.drop_drop]
        have e3 : l.drop (11 + 8) = (l.drop 11).drop 8 := by rw [List.drop_drop]
        have e4 : l.drop 10 = l[10] :: l.drop 11 := List.drop_eq_getElem_cons hin
        rw [e1]
        simp only [List.append_assoc]
        rw [List.take_append_drop, e2, List.take_append_drop, e3, List.take_append_drop]
        show l = List.take 10 l ++ (l[10] :: l.drop 11)
        rw [← e4, List.take_append_drop]
      · rw [he, asm, md, if_pos ⟨dn, tn⟩]
        simp only [List.length_append, pF_len, pZ_len, pT_len hh, pD_len hd, List.length_cons, List.length_nil]
        omega
/-- What is read of parts put together. -/
theorem rd_asm {D T F Z : List UInt8} (h : Sh D T F Z) {c : UInt8} (hc : sp (c.toNat : Int) = true) :
    rdD (asm c D T F Z) = (if ok D T Z = true then (nm D T F Z, 0) else ([], 9)) ∧ kd (asm c D T F Z) = kd4 D T Z ∧ en (asm c D T F Z) = (asm c D T F Z).length := by
  obtain ⟨_, h2⟩ := con h hc []
  rw [List.append_nil] at h2
  obtain ⟨a, b, e, z, n⟩ := h2 rfl
  have hk : kd (asm c D T F Z) = kd4 D T Z := by rw [kd, a, b, z]
  refine ⟨?_, hk, n⟩
  rw [rdD, if_pos ⟨n, by rw [hk]; exact kd_sh h⟩, a, b, e, z]
theorem rd_code {l : List UInt8} : (rdD l).2 ≠ 3 ↔ en l = l.length ∧ kd l ≠ 0 := by
  unfold rdD
  by_cases h : en l = l.length ∧ kd l ≠ 0
  · rw [if_pos h]
    split <;> simp [h]
  · rw [if_neg h]
    simp [h]
theorem kd_en {l : List UInt8} : kd l ≠ 0 ↔ 0 < en l := by
  constructor
  · intro h
    obtain ⟨c, _, _, h3⟩ := join h
    rw [← h3, asm]
    have sh := sh_of h
    simp only [List.length_append]
    rcases sh.n with g | g
    · have := (sh.d g).1; omega
    · have := (sh.t g).1; omega
  · intro h e
    unfold en at h
    have : dte l = true ∨ hT l = true := by
      cases h1 : dte l
      · cases h2 : hT l
        · rw [h1, h2] at h; simp at h
        · exact .inr rfl
      · exact .inl rfl
    rcases this with g | g
    · have hp : pD l ≠ [] := fun e => by have := pD_len g; rw [e] at this; cases this
      unfold kd kd4 at e
      split at e
      · cases e
      · split at e
        · cases e
        · split at e
          · cases e
          · cases e
    · have hp : pT l ≠ [] := fun e => by have := pT_len g; rw [e] at this; cases this
      unfold kd kd4 at e
      split at e
      · cases e
      · split at e
        · cases e
        · cases e
/-- The longest beginning is of the form. -/
theorem begin_is {l : List UInt8} (h : 0 < en l) : (rdD (l.take (en l))).2 ≠ 3 := by
  have hk := kd_en.2 h
  obtain ⟨c, hc, h2, h3⟩ := join hk
  have e : l.take (en l) = asm c (pD l) (pT l) (pF l) (pZ l) := by
    rw [← h3]; exact (congrArg (List.take (asm c (pD l) (pT l) (pF l) (pZ l)).length) h2).trans (List.take_left' rfl)
  rw [e, rd_code]
  obtain ⟨_, r2, r3⟩ := rd_asm (sh_of hk) hc
  exact ⟨r3, by rw [r2]; exact kd_sh (sh_of hk)⟩
/-- No longer one is. -/
theorem begin_no {l : List UInt8} {i : Nat} (h : en l < i) (hi : i ≤ l.length) : (rdD (l.take i)).2 = 3 := by
  apply Decidable.byContradiction
  intro hn
  obtain ⟨h1, h2⟩ := rd_code.1 hn
  obtain ⟨c, hc, h3, h4⟩ := join h2
  have h5 : (l.take i).length = i := by rw [List.length_take]; omega
  have h6 : (l.take i).drop (en (l.take i)) = [] := by rw [h1, List.drop_length]
  rw [h6, List.append_nil] at h3
  have h7 := (con (sh_of h2) hc (l.drop i)).1
  rw [← h3, List.take_append_drop, h5] at h7
  omega
end Da
end Go.Proofs.YtbeefjhcbphiaaaGreatDoor
