/- Less is a strict order of normal forms. -/
import Derived.Test.YthjlnafmpcppfaaGreatDoorOrd
namespace Go.Proofs.YthjlnafmpcppfaaGreatDoor
open Go.RowKit

theorem ltM_irr (d : List UInt8) (x : Int) : ltM d x d x = false := by
  cases h : ltM d x d x
  · rfl
  · rw [ltM_asym h] at h; cases h
/-- Below nought, nought, above. -/
def cls (l : List UInt8) : Int := if l = [48] then 0 else if ptM l = true then -1 else 1
theorem less_iff {a b : List UInt8} (ha : norm a = true) (hb : norm b = true) :
    less a b = true ↔ (cls a < cls b ∨ (cls a = 1 ∧ cls b = 1 ∧ ltM (ptD a) (ptX a) (ptD b) (ptX b) = true) ∨ (cls a = -1 ∧ cls b = -1 ∧ ltM (ptD b) (ptX b) (ptD a) (ptX a) = true)) := by
  by_cases hab : a = b
  · subst hab
    have : less a a = false := by unfold less; rw [if_pos (Or.inr (Or.inr rfl))]
    rw [this, ltM_irr]; simp
  · have h1 : ¬ (norm a = false ∨ norm b = false ∨ a = b) := by rw [ha, hb]; simp [hab]
    unfold less; rw [if_neg h1]
    by_cases a0 : a = [48]
    · rw [if_pos ((norm_unlike ha).2 a0)]
      have b0 : b ≠ [48] := fun e => hab (by rw [a0, e])
      have ca : cls a = 0 := by unfold cls; rw [if_pos a0]
      have cb : cls b = if ptM b = true then -1 else 1 := by unfold cls; rw [if_neg b0]
      rw [ca, cb]
      cases ptM b <;> simp
    · rw [if_neg (fun h => a0 ((norm_unlike ha).1 h))]
      have ca : cls a = if ptM a = true then -1 else 1 := by unfold cls; rw [if_neg a0]
      by_cases b0 : b = [48]
      · rw [if_pos ((norm_unlike hb).2 b0)]
        have cb : cls b = 0 := by unfold cls; rw [if_pos b0]
        rw [ca, cb]
        cases ptM a <;> simp
      · rw [if_neg (fun h => b0 ((norm_unlike hb).1 h))]
        have cb : cls b = if ptM b = true then -1 else 1 := by unfold cls; rw [if_neg b0]
        rw [ca, cb]
        cases ptM a <;> cases ptM b <;> simp
theorem less_irr (a : List UInt8) : less a a = false := by unfold less; rw [if_pos (Or.inr (Or.inr rfl))]
theorem less_asym {a b : List UInt8} (ha : norm a = true) (hb : norm b = true) (h : less a b = true) : less b a = false := by
  rw [less_iff ha hb] at h
  cases h2 : less b a
  · rfl
  · exfalso
    rw [less_iff hb ha] at h2
    rcases h with h | ⟨h, h', l⟩ | ⟨h, h', l⟩
    · rcases h2 with h2 | ⟨h2, h2', _⟩ | ⟨h2, h2', _⟩ <;> omega
    · rcases h2 with h2 | ⟨h2, h2', l2⟩ | ⟨h2, h2', l2⟩
      · omega
      · rw [ltM_asym l] at l2; cases l2
      · omega
    · rcases h2 with h2 | ⟨h2, h2', l2⟩ | ⟨h2, h2', l2⟩
      · omega
      · omega
      · rw [ltM_asym l] at l2; cases l2
theorem cls_range (a : List UInt8) : cls a = -1 ∧ a ≠ [48] ∧ ptM a = true ∨ cls a = 0 ∧ a = [48] ∨ cls a = 1 ∧ a ≠ [48] ∧ ptM a = false := by
  unfold cls
  by_cases h : a = [48]
  · right; left; exact ⟨if_pos h, h⟩
  · rw [if_neg h]
    cases h2 : ptM a
    · right; right; exact ⟨by simp, h, rfl⟩
    · left; exact ⟨by simp, h, rfl⟩
theorem less_tot {a b : List UInt8} (ha : norm a = true) (hb : norm b = true) (h : a ≠ b) : less a b = true ∨ less b a = true := by
  rw [less_iff ha hb, less_iff hb ha]
  have key : ptM a = ptM b → ltM (ptD a) (ptX a) (ptD b) (ptX b) = true ∨ ltM (ptD b) (ptX b) (ptD a) (ptX a) = true := fun hm =>
    ltM_tot (fun e => h (norm_inj ha hb hm e.1 e.2))
  rcases cls_range a with ⟨c1, n1, m1⟩ | ⟨c1, n1⟩ | ⟨c1, n1, m1⟩ <;> rcases cls_range b with ⟨c2, n2, m2⟩ | ⟨c2, n2⟩ | ⟨c2, n2, m2⟩
  · rcases key (by rw [m1, m2]) with k | k
    · exact Or.inr (Or.inr (Or.inr ⟨c2, c1, k⟩))
    · exact Or.inl (Or.inr (Or.inr ⟨c1, c2, k⟩))
  · left; left; omega
  · left; left; omega
  · right; left; omega
  · exact absurd (n1.trans n2.symm) h
  · left; left; omega
  · right; left; omega
  · right; left; omega
  · rcases key (by rw [m1, m2]) with k | k
    · exact Or.inl (Or.inr (Or.inl ⟨c1, c2, k⟩))
    · exact Or.inr (Or.inr (Or.inl ⟨c2, c1, k⟩))
theorem less_tra {a b c : List UInt8} (ha : norm a = true) (hb : norm b = true) (hc : norm c = true) (h1 : less a b = true) (h2 : less b c = true) : less a c = true := by
  rw [less_iff ha hb] at h1
  rw [less_iff hb hc] at h2
  rw [less_iff ha hc]
  rcases h1 with h1 | ⟨p1, p2, l1⟩ | ⟨p1, p2, l1⟩ <;> rcases h2 with h2 | ⟨r1, r2, l2⟩ | ⟨r1, r2, l2⟩
  · left; omega
  · left; omega
  · left; omega
  · left; omega
  · right; left; exact ⟨p1, r2, ltM_tra l1 l2⟩
  · omega
  · left; omega
  · omega
  · right; right; exact ⟨p1, r2, ltM_tra l2 l1⟩
end Go.Proofs.YthjlnafmpcppfaaGreatDoor
