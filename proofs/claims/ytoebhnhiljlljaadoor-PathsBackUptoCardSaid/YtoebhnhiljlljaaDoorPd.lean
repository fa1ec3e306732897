/- The order of paths, as lists have them. -/
import Derived.Test.YtoebhnhiljlljaaDoorPb
import GoSem.Claim
namespace Go.Proofs.YtoebhnhiljlljaaDoor
namespace Pa
abbrev bl := Op.bytesLess
theorem bl_cons {a b : UInt8} {x y : Bs} : bl (a :: x) (b :: y) = true ↔ a < b ∨ a = b ∧ bl x y = true := by simp [bl, Op.bytesLess]
theorem bl_nil (a : Bs) : bl a [] = false := by cases a <;> rfl
theorem bl_irr : ∀ a : Bs, bl a a = false
  | [] => rfl
  | c :: a => by
    cases h : bl (c :: a) (c :: a) with
    | false => rfl
    | true =>
      rcases bl_cons.1 h with h | ⟨_, h⟩
      · exact absurd h (by rw [UInt8.lt_iff_toNat_lt]; omega)
      · rw [bl_irr a] at h; cases h
theorem bl_tr : ∀ {a b c : Bs}, bl a b = true → bl b c = true → bl a c = true
  | _, _, [], _, h => by rw [bl_nil] at h; cases h
  | _, [], _ :: _, h, _ => by rw [bl_nil] at h; cases h
  | [], _ :: _, _ :: _, _, _ => rfl
  | p :: a, q :: b, r :: c, h1, h2 => by
    rcases bl_cons.1 h1 with h3 | ⟨e3, h3⟩
    · rcases bl_cons.1 h2 with h4 | ⟨e4, _⟩
      · exact bl_cons.2 (.inl (by rw [UInt8.lt_iff_toNat_lt] at *; omega))
      · exact bl_cons.2 (.inl (e4 ▸ h3))
    · rcases bl_cons.1 h2 with h4 | ⟨e4, h4⟩
      · exact bl_cons.2 (.inl (e3 ▸ h4))
      · exact bl_cons.2 (.inr ⟨e3.trans e4, bl_tr h3 h4⟩)
theorem bl_asy {a b : Bs} (h : bl a b = true) : bl b a = false := by
  cases h2 : bl b a with
  | false => rfl
  | true => have := bl_tr h h2; rw [bl_irr] at this; cases this
theorem bl_tot : ∀ {a b : Bs}, bl a b = false → bl b a = false → a = b
  | [], [], _, _ => rfl
  | [], _ :: _, h, _ => by cases h
  | _ :: _, [], _, h => by cases h
  | p :: a, q :: b, h1, h2 => by
    have n1 : ¬ (p < q ∨ p = q ∧ bl a b = true) := fun e => by rw [bl_cons.2 e] at h1; cases h1
    have n2 : ¬ (q < p ∨ q = p ∧ bl b a = true) := fun e => by rw [bl_cons.2 e] at h2; cases h2
    have e : p = q := by
      apply UInt8.toNat_inj.1
      have a1 : ¬ p < q := fun e => n1 (.inl e)
      have a2 : ¬ q < p := fun e => n2 (.inl e)
      rw [UInt8.lt_iff_toNat_lt] at a1 a2
      omega
    subst e
    rw [bl_tot (a := a) (b := b) (by cases h : bl a b with | false => rfl | true => exact absurd (.inr ⟨rfl, h⟩) n1) (by cases h : bl b a with | false => rfl | true => exact absurd (.inr ⟨rfl, h⟩) n2)]
def bcmp (a b : Bs) : Ordering := if bl a b = true then .lt else if bl b a = true then .gt else .eq
theorem bcmp_self (a : Bs) : bcmp a a = .eq := by rw [bcmp, bl_irr]; rfl
theorem bcmp_eq {a b : Bs} (h : bcmp a b = .eq) : a = b := by
  unfold bcmp at h
  split at h
  · cases h
  · split at h
    · cases h
    · rename_i h1 h2
      exact bl_tot (by simpa using h1) (by simpa using h2)
theorem bcmp_swap (a b : Bs) : bcmp b a = (bcmp a b).swap := by
  unfold bcmp
  cases h : bl a b with
  | true => rw [bl_asy h]; rfl
  | false => cases h2 : bl b a <;> rfl
theorem bcmp_lt {a b : Bs} : bcmp a b = .lt ↔ bl a b = true := by
  unfold bcmp
  cases h : bl a b with
  | true => simp
  | false => cases h2 : bl b a <;> simp
def ncmp (i j : Nat) : Ordering := if i < j then .lt else if j < i then .gt else .eq
theorem ncmp_self (i : Nat) : ncmp i i = .eq := by unfold ncmp; simp
theorem ncmp_eq {i j : Nat} (h : ncmp i j = .eq) : i = j := by
  unfold ncmp at h
  split at h
  · cases h
  · split at h
    · cases h
    · omega
theorem ncmp_swap (i j : Nat) : ncmp j i = (ncmp i j).swap := by
  unfold ncmp
  rcases Nat.lt_trichotomy i j with h | h | h
  · rw [if_neg (by omega), if_pos h, if_pos h]; rfl
  · rw [if_neg (by omega), if_neg (by omega), if_neg (by omega), if_neg (by omega)]; rfl
  · rw [if_pos h, if_neg (by omega), if_pos h]; rfl
def icmp (i j : Int) : Ordering := if i < j then .lt else if j < i then .gt else .eq
theorem icmp_self (i : Int) : icmp i i = .eq := by unfold icmp; simp
theorem icmp_eq {i j : Int} (h : icmp i j = .eq) : i = j := by
  unfold icmp at h
  split at h
  · cases h
  · split at h
    · cases h
    · omega
theorem icmp_swap (i j : Int) : icmp j i = (icmp i j).swap := by
  unfold icmp
  rcases Int.lt_trichotomy i j with h | h | h
  · rw [if_neg (by omega), if_pos h, if_pos h]; rfl
  · rw [if_neg (by omega), if_neg (by omega), if_neg (by omega), if_neg (by omega)]; rfl
  · rw [if_pos h, if_neg (by omega), if_pos h]; rfl
theorem then_swap (a b : Ordering) : (a.then b).swap = a.swap.then b.swap := by cases a <;> rfl
theorem then_eq {a b : Ordering} (h : a.then b = .eq) : a = .eq ∧ b = .eq := by cases a <;> first | exact ⟨rfl, h⟩ | cases h
/-- How two steps stand. -/
def cS (x y : St) : Ordering := (ncmp x.kind y.kind).then ((bcmp x.text y.text).then ((icmp x.pos y.pos).then (bcmp x.id y.id)))
theorem cS_self (x : St) : cS x x = .eq := by unfold cS; rw [ncmp_self, bcmp_self, icmp_self, bcmp_self]; rfl
theorem cS_eq {x y : St} (h : cS x y = .eq) : x = y := by
  unfold cS at h
  obtain ⟨h1, h⟩ := then_eq h
  obtain ⟨h2, h⟩ := then_eq h
  obtain ⟨h3, h4⟩ := then_eq h
  exact st_ext (ncmp_eq h1) (bcmp_eq h2) (icmp_eq h3) (bcmp_eq h4)
theorem cS_swap (x y : St) : cS y x = (cS x y).swap := by
  unfold cS
  rw [then_swap, then_swap, then_swap, ncmp_swap x.kind, bcmp_swap x.text, icmp_swap x.pos, bcmp_swap x.id]
/-- How two paths stand. -/
def pC : List St → List St → Ordering
  | [], [] => .eq
  | [], _ :: _ => .lt
  | _ :: _, [] => .gt
  | x :: a, y :: b => (cS x y).then (pC a b)
theorem pC_self : ∀ a : List St, pC a a = .eq
  | [] => rfl
  | x :: a => by rw [pC, cS_self, pC_self a]; rfl
theorem pC_eq : ∀ {a b : List St}, pC a b = .eq → a = b
  | [], [], _ => rfl
  | [], _ :: _, h => by cases h
  | _ :: _, [], h => by cases h
  | x :: a, y :: b, h => by
    rw [pC] at h
    obtain ⟨h1, h2⟩ := then_eq h
    rw [cS_eq h1, pC_eq h2]
theorem pC_swap : ∀ a b : List St, pC b a = (pC a b).swap
  | [], [] => rfl
  | [], _ :: _ => rfl
  | _ :: _, [] => rfl
  | x :: a, y :: b => by rw [pC, pC, then_swap, cS_swap x y, pC_swap a b]
/-- How many steps at two paths' beginnings are the same. -/
def shr : List St → List St → Nat
  | x :: a, y :: b => if x = y then shr a b + 1 else 0
  | _, _ => 0
theorem shr_le : ∀ a b : List St, shr a b ≤ a.length ∧ shr a b ≤ b.length
  | [], b => by unfold shr; exact ⟨Nat.le_refl _, Nat.zero_le _⟩
  | _ :: _, [] => by unfold shr; exact ⟨Nat.zero_le _, Nat.le_refl _⟩
  | x :: a, y :: b => by
    have := shr_le a b
    unfold shr
    split <;> simp only [List.length_cons] <;> omega
theorem shr_step : ∀ {a b : List St} {n : Nat} {x y : St}, a[n]? = some x → b[n]? = some y → a.take n = b.take n → (x = y → n < shr a b) ∧ (x ≠ y → shr a b = n)
  | [], _, _, _, _, h, _, _ => by simp at h
  | _ :: _, [], _, _, _, _, h, _ => by simp at h
  | u :: a, v :: b, 0, x, y, hx, hy, _ => by
    obtain rfl : u = x := by simpa using hx
    obtain rfl : v = y := by simpa using hy
    unfold shr
    refine ⟨fun e => by rw [if_pos e]; omega, fun e => by rw [if_neg e]⟩
  | u :: a, v :: b, n + 1, x, y, hx, hy, ht => by
    rw [List.take_succ_cons, List.take_succ_cons] at ht
    obtain ⟨e1, e2⟩ := List.cons.inj ht
    have ih := shr_step (a := a) (b := b) (n := n) (by simpa using hx) (by simpa using hy) e2
    unfold shr
    rw [if_pos e1]
    exact ⟨fun e => by have := ih.1 e; omega, fun e => by have := ih.2 e; omega⟩
theorem shr_end {a b : List St} {n : Nat} (h : a.length ≤ n ∨ b.length ≤ n) (ht : a.take n = b.take n) (hn : n ≤ a.length) (hm : n ≤ b.length) : shr a b = n := by
  have hl := shr_le a b
  rcases Nat.lt_or_ge (shr a b) n with h1 | h1
  · have hx : a[shr a b]? = some (a[shr a b]'(by omega)) := List.getElem?_eq_getElem (by omega)
    have hy : b[shr a b]? = some (b[shr a b]'(by omega)) := List.getElem?_eq_getElem (by omega)
    have e1 : (a.take n)[shr a b]? = (b.take n)[shr a b]? := by rw [ht]
    rw [List.getElem?_take_of_lt h1, List.getElem?_take_of_lt h1, hx, hy] at e1
    have ht2 : a.take (shr a b) = b.take (shr a b) := by
      have := congrArg (List.take (shr a b)) ht
      rwa [List.take_take, List.take_take, Nat.min_eq_left (by omega)] at this
    have := (shr_step hx hy ht2).1 (by injection e1)
    omega
  · omega
theorem shr_take : ∀ a b : List St, a.take (shr a b) = b.take (shr a b)
  | [], b => by unfold shr; simp
  | _ :: _, [] => by unfold shr; simp
  | x :: a, y :: b => by
    unfold shr
    split
    · next e => rw [List.take_succ_cons, List.take_succ_cons, e, shr_take a b]
    · rfl
/-- The order by what is the same ahead. -/
theorem pC_shr : ∀ (a b : List St), pC a b = match a[shr a b]?, b[shr a b]? with
    | some x, some y => cS x y
    | _, _ => ncmp a.length b.length
  | [], [] => rfl
  | [], _ :: _ => by simp [pC, shr, ncmp]
  | _ :: _, [] => by simp [pC, shr, ncmp]
  | x :: a, y :: b => by
    rw [pC]
    by_cases e : x = y
    · have e2 : shr (x :: a) (y :: b) = shr a b + 1 := by rw [shr, if_pos e]
      rw [e2, e, cS_self, show Ordering.eq.then (pC a b) = pC a b from rfl, pC_shr a b, List.getElem?_cons_succ, List.getElem?_cons_succ]
      have : ncmp (y :: a).length (y :: b).length = ncmp a.length b.length := by simp [ncmp]
      rw [this]
    · have e2 : shr (x :: a) (y :: b) = 0 := by rw [shr, if_neg e]
      rw [e2]
      simp only [List.getElem?_cons_zero]
      cases h : cS x y with
      | eq => exact absurd (cS_eq h) e
      | lt => rfl
      | gt => rfl
theorem shr_all {a b : List St} : shr a b = b.length ↔ b <+: a := by
  constructor
  · intro h
    have h1 := shr_take a b
    rw [h, List.take_length] at h1
    exact ⟨a.drop b.length, by have := List.take_append_drop b.length a; rwa [h1] at this⟩
  · rintro ⟨r, rfl⟩
    induction b with
    | nil => cases r <;> rfl
    | cons x b ih => rw [List.cons_append, shr, if_pos rfl, ih, List.length_cons]
end Pa
end Go.Proofs.YtoebhnhiljlljaaDoor
