/- Date-times as lists: parts put together are told as these parts. -/
import Derived.Test.YtgmlbcdakblpiaaDoorDm
namespace Go.Proofs.YtgmlbcdakblpiaaDoor
open Go.RowKit
namespace Da

theorem t2_l {a b : List UInt8} {k : Nat} (h : k + 2 ≤ a.length) : t2 (a ++ b) k = t2 a k := by unfold t2 dd; rw [bt_l b (by omega), bt_l b (by omega)]
theorem v2_l {a b : List UInt8} {k : Nat} (h : k + 2 ≤ a.length) : v2 (a ++ b) k = v2 a k := by unfold v2; rw [bt_l b (by omega), bt_l b (by omega)]
theorem t2_r (a b : List UInt8) (k : Nat) : t2 (a ++ b) (a.length + k) = t2 b k := by unfold t2 dd; rw [bt_r, Nat.add_assoc, bt_r]
theorem dte_l {a b : List UInt8} (h : 10 ≤ a.length) : dte (a ++ b) = dte a := by
  unfold dte
  rw [t2_l (by omega), t2_l (by omega), t2_l (by omega), t2_l (by omega), bt_l b (by omega), bt_l b (by omega)]
theorem clk_l {a b : List UInt8} {i : Nat} (h : i + 8 ≤ a.length) : clk (a ++ b) i = clk a i := by
  unfold clk
  rw [t2_l (by omega), t2_l (by omega), t2_l (by omega), bt_l b (by omega), bt_l b (by omega)]
theorem clk_r (a b : List UInt8) (i : Nat) : clk (a ++ b) (a.length + i) = clk b i := by
  unfold clk
  simp only [Nat.add_assoc, t2_r, bt_r]
theorem zs_l {a b : List UInt8} {i : Nat} (h : i + 6 ≤ a.length) : zs (a ++ b) i = zs a i := by
  unfold zs
  rw [t2_l (by omega), t2_l (by omega), bt_l b (by omega), bt_l b (by omega)]
theorem zs_r (a b : List UInt8) (i : Nat) : zs (a ++ b) (a.length + i) = zs b i := by
  unfold zs
  simp only [Nat.add_assoc, t2_r, bt_r]
theorem drop_r (a b : List UInt8) (k : Nat) : (a ++ b).drop (a.length + k) = b.drop k := by
  rw [List.drop_append]; simp
theorem frc_r (a b : List UInt8) (i : Nat) : frc (a ++ b) (a.length + i) = frc b i := by
  unfold frc dd
  simp only [Nat.add_assoc, bt_r, drop_r]
theorem zn_r (a b : List UInt8) (i : Nat) : zn (a ++ b) (a.length + i) = zn b i := by
  unfold zn
  simp only [bt_r, zs_r]
theorem bt_dr (l : List UInt8) (i k : Nat) : bt (l.drop i) k = bt l (i + k) := bt_drop l i k
theorem t2_dr (l : List UInt8) (i k : Nat) : t2 (l.drop i) k = t2 l (i + k) := by unfold t2 dd; rw [bt_drop, bt_drop, Nat.add_assoc]
theorem clk_dr (l : List UInt8) (i k : Nat) : clk (l.drop i) k = clk l (i + k) := by
  unfold clk; simp only [bt_drop, t2_dr, Nat.add_assoc]
theorem zs_dr (l : List UInt8) (i k : Nat) : zs (l.drop i) k = zs l (i + k) := by
  unfold zs; simp only [bt_drop, t2_dr, Nat.add_assoc]
theorem zn_dr (l : List UInt8) (i k : Nat) : zn (l.drop i) k = zn l (i + k) := by
  unfold zn; simp only [bt_drop, zs_dr]
theorem frc_dr (l : List UInt8) (i k : Nat) : frc (l.drop i) k = frc l (i + k) := by
  unfold frc dd; simp only [bt_drop, List.drop_drop, Nat.add_assoc]
theorem t2_tk {l : List UInt8} {n k : Nat} (h : k + 2 ≤ n) : t2 (l.take n) k = t2 l k := by unfold t2 dd; rw [bt_take l (by omega), bt_take l (by omega)]
theorem v2_tk {l : List UInt8} {n k : Nat} (h : k + 2 ≤ n) : v2 (l.take n) k = v2 l k := by unfold v2; rw [bt_take l (by omega), bt_take l (by omega)]
theorem v2_dr (l : List UInt8) (i k : Nat) : v2 (l.drop i) k = v2 l (i + k) := by unfold v2; rw [bt_drop, bt_drop, Nat.add_assoc]
theorem dte_tk {l : List UInt8} : dte (l.take 10) = dte l := by
  unfold dte
  rw [t2_tk (by omega), t2_tk (by omega), t2_tk (by omega), t2_tk (by omega), bt_take l (by omega), bt_take l (by omega)]
theorem clk_tk {l : List UInt8} {n i : Nat} (h : i + 8 ≤ n) : clk (l.take n) i = clk l i := by
  unfold clk
  rw [t2_tk (by omega), t2_tk (by omega), t2_tk (by omega), bt_take l (by omega), bt_take l (by omega)]
theorem zs_tk {l : List UInt8} {n i : Nat} (h : i + 6 ≤ n) : zs (l.take n) i = zs l i := by
  unfold zs
  rw [t2_tk (by omega), t2_tk (by omega), bt_take l (by omega), bt_take l (by omega)]

/-- What a zone's text is. -/
def zt (Z : List UInt8) : Prop := Z.length = 1 ∧ zc (bt Z 0) = true ∨ Z.length = 6 ∧ zs Z 0 = true
/-- What a part of a second's text is. -/
def ft (F : List UInt8) : Prop := ∃ ds, ds ≠ [] ∧ F = 46 :: ds ∧ ∀ c ∈ ds, dg (c.toNat : Int) = true
/-- Parts that stand together. -/
structure Sh (D T F Z : List UInt8) : Prop where
  n : D ≠ [] ∨ T ≠ []
  d : D ≠ [] → D.length = 10 ∧ dte D = true
  t : T ≠ [] → T.length = 8 ∧ clk T 0 = true
  f : F ≠ [] → T ≠ [] ∧ ft F
  z : Z ≠ [] → D ≠ [] ∧ T ≠ [] ∧ zt Z
theorem zt_first {Z : List UInt8} (h : zt Z) : bt Z 0 = 90 ∨ bt Z 0 = 122 ∨ bt Z 0 = 43 ∨ bt Z 0 = 45 := by
  rcases h with ⟨_, h⟩ | ⟨_, h⟩
  · unfold zc at h; have := of_decide_eq_true h; omega
  · have := (zs_iff.1 h).1; omega
theorem zt_len {Z : List UInt8} (h : zt Z) : 1 ≤ Z.length := by rcases h with ⟨h, _⟩ | ⟨h, _⟩ <;> omega
theorem zn_zt {Z : List UInt8} (h : zt Z) (R : List UInt8) : zn (Z ++ R) 0 = Z.length := by
  rcases h with ⟨h1, h2⟩ | ⟨h1, h2⟩
  · rw [zn, bt_l R (by omega), if_pos h2, h1]
  · have h3 := (zs_iff.1 h2).1
    rw [zn, bt_l R (by omega), if_neg (by simp [zc]; omega), zs_l (by omega), if_pos h2, h1]
theorem zn_nil : zn [] 0 = 0 := by decide
theorem frc_zt {Z : List UInt8} (h : zt Z) (R : List UInt8) : frc (Z ++ R) 0 = 0 ∧ run (Z ++ R) = 0 := by
  have h1 := zt_first h
  have h2 := zt_len h
  refine ⟨?_, run_no ?_⟩
  · rw [frc, if_neg]; rw [bt_l R (by omega)]; omega
  · rw [bt_l R (by omega)]; unfold dg; rw [decide_eq_false (by omega)]
theorem frc_ft {F : List UInt8} (h : ft F) (X : List UInt8) : frc (F ++ X) 0 = F.length + run X := by
  obtain ⟨ds, h1, rfl, h3⟩ := h
  have h4 : (46 :: ds) ++ X = 46 :: (ds ++ X) := rfl
  obtain ⟨d, ds', rfl⟩ : ∃ d ds', ds = d :: ds' := by cases ds with | nil => exact absurd rfl h1 | cons d ds' => exact ⟨d, ds', rfl⟩
  rw [frc, if_pos, h4, List.drop_succ_cons, List.drop_zero, run_app h3]
  · simp only [List.length_cons]; omega
  · refine ⟨rfl, ?_⟩
    unfold dd
    exact h3 d (by simp)
theorem frc_of {F Z R : List UInt8} (hF : F ≠ [] → ft F) (hZ : Z ≠ [] → zt Z) : F.length ≤ frc (F ++ (Z ++ R)) 0 ∧ (Z ≠ [] ∨ R = [] → frc (F ++ (Z ++ R)) 0 = F.length) := by
  by_cases f : F = []
  · subst f
    refine ⟨by simp, fun h => ?_⟩
    by_cases z : Z = []
    · subst z
      rcases h with h | rfl
      · exact absurd rfl h
      · decide
    · rw [List.nil_append, (frc_zt (hZ z) R).1]; rfl
  · rw [frc_ft (hF f)]
    refine ⟨by omega, fun h => ?_⟩
    by_cases z : Z = []
    · subst z
      rcases h with h | rfl
      · exact absurd rfl h
      · rfl
    · rw [(frc_zt (hZ z) R).2, Nat.add_zero]
theorem dte_clk {l : List UInt8} (h : clk l 0 = true) : dte l = false := by
  cases hd : dte l
  · rfl
  · have h1 := (clk_iff.1 h).2.1
    have h2 := t2_iff.1 (dte_iff.1 hd).2.1
    simp only [Nat.zero_add] at h1
    omega
theorem con {D T F Z : List UInt8} (h : Sh D T F Z) {c : UInt8} (hc : sp (c.toNat : Int) = true) (R : List UInt8) :
    (asm c D T F Z).length ≤ en (asm c D T F Z ++ R) ∧
    (R = [] → pD (asm c D T F Z ++ R) = D ∧ pT (asm c D T F Z ++ R) = T ∧ pF (asm c D T F Z ++ R) = F ∧ pZ (asm c D T F Z ++ R) = Z ∧ en (asm c D T F Z ++ R) = (asm c D T F Z).length) := by
  by_cases t : T = []
  · -- a date alone
    have f : F = [] := Decidable.byContradiction fun g => (h.f g).1 t
    have z : Z = [] := Decidable.byContradiction fun g => (h.z g).2.1 t
    have d : D ≠ [] := h.n.resolve_right (fun g => g t)
    obtain ⟨d1, d2⟩ := h.d d
    subst t f z
    have e : asm c D [] [] [] = D := by simp [asm, md]
    rw [e]
    have hd : dte (D ++ R) = true := by rw [dte_l (by omega)]; exact d2
    refine ⟨?_, ?_⟩
    · rw [en]
      split
      · rw [tp, if_pos hd]; omega
      · omega
    · rintro rfl
      rw [List.append_nil] at hd ⊢
      have hh : hT D = false := by
        rw [hT, if_pos hd, bt_far (by omega)]; rfl
      have n1 : nF D = 0 := by rw [nF, hh]; rfl
      have n2 : nZ D = 0 := by rw [nZ, hh]; simp
      refine ⟨?_, ?_, ?_, ?_, ?_⟩
      · rw [pD, if_pos hd, List.take_of_length_le (by omega)]
      · rw [pT, hh]; rfl
      · rw [pF, n1]; rfl
      · rw [pZ, n2]; rfl
      · rw [en, hh, if_neg (by simp), if_pos hd, d1]
  · obtain ⟨t1, t2'⟩ := h.t t
    by_cases d : D = []
    · have z : Z = [] := Decidable.byContradiction fun g => (h.z g).1 d
      subst d z
      have e : asm c [] T F [] ++ R = T ++ (F ++ ([] ++ R)) := by simp [asm, md]
      have e1 : (asm c [] T F []).length = 8 + F.length := by simp [asm, md, t1]
      have hk : clk (asm c [] T F [] ++ R) 0 = true := by rw [e, clk_l (by omega)]; exact t2'
      have hd := dte_clk hk
      obtain ⟨g1, g2⟩ := frc_of (Z := []) (R := R) (fun g => (h.f g).2) (fun g => absurd rfl g)
      have hh : hT (asm c [] T F [] ++ R) = true := by rw [hT, hd]; exact hk
      have ht : tp (asm c [] T F [] ++ R) = 0 := by rw [tp, hd]; rfl
      have n1 : nF (asm c [] T F [] ++ R) = frc (F ++ ([] ++ R)) 0 := by
        rw [nF, hh, if_pos rfl, ht, e]
        have := frc_r T (F ++ ([] ++ R)) 0
        rw [t1] at this; exact this
      have n2 : nZ (asm c [] T F [] ++ R) = 0 := by rw [nZ, hd]; simp
      refine ⟨?_, fun r => ?_⟩
      · rw [en, hh, if_pos rfl, ht, n1, e1]; omega
      · have n3 := g2 (.inr r)
        rw [← n1] at n3
        refine ⟨?_, ?_, ?_, ?_, ?_⟩
        · rw [pD, hd]; rfl
        · rw [pT, hh, ht, e, if_pos rfl, List.drop_zero, List.take_left' t1]
        · rw [pF, ht, n3, e, show 0 + 8 = T.length + 0 by omega, drop_r, List.drop_zero, List.take_left' rfl]
        · rw [pZ, n2]; rfl
        · rw [en, hh, if_pos rfl, ht, n3, n2, e1]; omega
    · obtain ⟨d1, d2⟩ := h.d d
      have e : asm c D T F Z ++ R = (D ++ [c]) ++ (T ++ (F ++ (Z ++ R))) := by simp [asm, md, d, t]
      have e1 : (asm c D T F Z).length = 19 + F.length + Z.length := by simp [asm, md, d, t, t1, d1]; omega
      have a1 : (D ++ [c]).length = 11 := by simp [d1]
      have a2 : (D ++ [c] ++ T).length = 19 := by simp [d1, t1]
      have hd : dte (asm c D T F Z ++ R) = true := by rw [e, List.append_assoc, dte_l (by omega)]; exact d2
      have hb : bt (asm c D T F Z ++ R) 10 = (c.toNat : Int) := by
        rw [e, bt_l _ (by omega)]
        have := bt_r D [c] 0
        rw [d1] at this; exact this
      have hk : clk (asm c D T F Z ++ R) 11 = true := by
        rw [e]
        have := clk_r (D ++ [c]) (T ++ (F ++ (Z ++ R))) 0
        rw [a1] at this
        rw [this, clk_l (by omega)]; exact t2'
      obtain ⟨g1, g2⟩ := frc_of (R := R) (fun g => (h.f g).2) (fun g => (h.z g).2.2)
      have hh : hT (asm c D T F Z ++ R) = true := by rw [hT, if_pos hd, hb, hc, hk]; rfl
      have ht : tp (asm c D T F Z ++ R) = 11 := by rw [tp, if_pos hd]
      have n1 : nF (asm c D T F Z ++ R) = frc (F ++ (Z ++ R)) 0 := by
        rw [nF, hh, if_pos rfl, ht, e, ← List.append_assoc]
        have := frc_r (D ++ [c] ++ T) (F ++ (Z ++ R)) 0
        rw [a2] at this; exact this
      have n2 : nF (asm c D T F Z ++ R) = F.length → nZ (asm c D T F Z ++ R) = zn (Z ++ R) 0 := fun n3 => by
        rw [nZ, if_pos ⟨hd, hh⟩, ht, n3, e, ← List.append_assoc, ← List.append_assoc]
        have := zn_r (D ++ [c] ++ T ++ F) (Z ++ R) 0
        rw [List.length_append, a2] at this; exact this
      have zz : Z ≠ [] → zn (Z ++ R) 0 = Z.length := fun g => zn_zt (h.z g).2.2 R
      refine ⟨?_, fun r => ?_⟩
      · rw [en, hh, if_pos rfl, ht, e1]
        by_cases z : Z = []
        · subst z
          simp only [List.length_nil]; omega
        · have n3 := n1.trans (g2 (.inl z))
          rw [n2 n3, n3, zz z]; omega
      · have n3 := n1.trans (g2 (.inr r))
        have n4 : nZ (asm c D T F Z ++ R) = Z.length := by
          rw [n2 n3]
          by_cases z : Z = []
          · subst z r; exact zn_nil
          · exact zz z
        refine ⟨?_, ?_, ?_, ?_, ?_⟩
        · rw [pD, if_pos hd, e, List.append_assoc, List.take_left' d1]
        · rw [pT, hh, ht, e, if_pos rfl]
          have := drop_r (D ++ [c]) (T ++ (F ++ (Z ++ R))) 0
          rw [a1] at this
          rw [this, List.drop_zero, List.take_left' t1]
        · rw [pF, ht, n3, e, ← List.append_assoc]
          have := drop_r (D ++ [c] ++ T) (F ++ (Z ++ R)) 0
          rw [a2] at this
          rw [this, List.drop_zero, List.take_left' rfl]
        · rw [pZ, ht, n3, n4, e, ← List.append_assoc, ← List.append_assoc]
          have := drop_r (D ++ [c] ++ T ++ F) (Z ++ R) 0
          rw [List.length_append, a2, Nat.add_zero] at this
          rw [show 11 + 8 + F.length = 19 + F.length from rfl, this, List.drop_zero, List.take_left' rfl]
        · rw [en, hh, if_pos rfl, ht, n3, n4, e1]
end Da
end Go.Proofs.YtgmlbcdakblpiaaDoor
