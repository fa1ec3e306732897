/- JSON documents as lists: how deep a tree is; a node's subs one by one; the nodes of a part. -/
import Derived.Test.YtdclhepjoifpiaaGreatDoorBk
namespace Go.Proofs.YtdclhepjoifpiaaGreatDoor
open Go.RowKit
namespace Jt

mutual
def JV.dep : JV → Nat
  | .sc _ _ _ => 1
  | .box _ _ is => is.dep + 1
def JI.dep : JI → Nat
  | .nil => 0
  | .cons _ _ v r => max v.dep r.dep
end
mutual
/-- No tree that is parsed is deeper than may be. -/
theorem pv_dep {E : Env} : ∀ (f d : Nat) (T r : List Tok) (v : JV), pv E f d T = .ok v r → d ≤ 256 → v.dep + d ≤ 257
  | 0, _, _, _, _, h, _ => by rw [pv] at h; cases h
  | _ + 1, _, [], _, _, h, _ => by rw [pv] at h; cases h
  | f + 1, d, t :: T, r, v, h, hd => by
    rw [pv] at h
    split at h
    · split at h <;> (injection h with h _; rw [← h, JV.dep]; omega)
    · split at h
      · split at h
        · cases h
        · injection h with h _; rw [← h, JV.dep]; omega
      · split at h
        · split at h
          · cases h
          · injection h with h _; rw [← h, JV.dep]; omega
        · split at h
          · split at h
            · cases h
            · cases hp : pl E f d (E.mk? t 123) true [] T with
              | ok a r2 =>
                obtain ⟨is, e⟩ := a
                rw [hp] at h
                injection h with h _
                have := pl_dep f d _ _ _ T r2 is e hp (by omega)
                rw [← h, JV.dep]; omega
              | bad c a => rw [hp] at h; cases h
              | out => rw [hp] at h; cases h
          · cases h
theorem pl_dep {E : Env} : ∀ (f d : Nat) (m first : Bool) (ks : List Bs) (T r : List Tok) (is : JI) (e : Nat), pl E f d m first ks T = .ok (is, e) r → d < 256 → is.dep + d ≤ 256
  | 0, _, _, _, _, _, _, _, _, h, _ => by rw [pl] at h; cases h
  | _ + 1, _, _, _, _, [], _, _, _, h, _ => by rw [pl] at h; cases h
  | f + 1, d, m, first, ks, t :: T, r, is, e, h, hd => by
    rw [pl] at h
    split at h
    · injection h with h _; injection h with h _; rw [← h, JI.dep]; omega
    · cases hc : comma E first (t :: T) with
      | bad c a => rw [hc] at h; cases h
      | out => rw [hc] at h; cases h
      | ok u T1 =>
        rw [hc] at h
        simp only at h
        cases he : entry E m ks T1 with
        | bad c a => rw [he] at h; cases h
        | out => rw [he] at h; cases h
        | ok ks2 T2 =>
          rw [he] at h
          simp only at h
          cases hv : pv E f (d + 1) T2 with
          | bad c a => rw [hv] at h; cases h
          | out => rw [hv] at h; cases h
          | ok v T3 =>
            rw [hv] at h
            simp only at h
            have l3 := pv_dep f (d + 1) T2 T3 v hv (by omega)
            cases hl : pl E f d m false (ks ++ [ks2.1]) T3 with
            | bad c a => rw [hl] at h; cases h
            | out => rw [hl] at h; cases h
            | ok b T4 =>
              obtain ⟨is2, e2⟩ := b
              rw [hl] at h
              have l4 := pl_dep f d m false _ T3 T4 is2 e2 hl hd
              injection h with h _
              injection h with h _
              rw [← h, JI.dep]; omega
end
mutual
/-- A node of a node. -/
theorem JV.at_at : ∀ (v : JV) (i n : Nat) (u w : JV), v.at_ i = some u → u.at_ n = some w → v.at_ (i + n) = some w
  | v, 0, n, u, w, h, h2 => by
    have e : v = u := by cases v <;> (rw [JV.at_] at h; injection h)
    subst e
    rw [Nat.zero_add]; exact h2
  | .sc _ _ _, i + 1, n, u, w, h, h2 => by rw [JV.at_] at h; cases h
  | .box _ _ is, i + 1, n, u, w, h, h2 => by
    rw [JV.at_] at h
    rw [show i + 1 + n = (i + n) + 1 by omega, JV.at_]
    exact JI.at_at is i n u w h h2
theorem JI.at_at : ∀ (is : JI) (i n : Nat) (u w : JV), is.at_ i = some u → u.at_ n = some w → is.at_ (i + n) = some w
  | .nil, _, _, _, _, h, _ => by rw [JI.at_] at h; cases h
  | .cons _ _ v r, i, n, u, w, h, h2 => by
    rw [JI.at_] at h
    rw [JI.at_]
    by_cases hi : i < v.size
    · rw [if_pos hi] at h
      have h3 := JV.at_at v i n u w h h2
      have h4 := (JV.at_nds v (i + n) 0 w h3).1
      have h5 := w.size_pos
      rw [if_pos (by omega)]; exact h3
    · rw [if_neg hi] at h
      rw [if_neg (by omega), show i + n - v.size = (i - v.size) + n by omega]
      exact JI.at_at r (i - v.size) n u w h h2
end
/-- So many nodes stand ahead of the k-th value. -/
def JI.upto (is : JI) (k : Nat) : Nat := ((is.vals.take k).map JV.size).sum
theorem JI.size_all : ∀ is : JI, is.size = is.upto is.vals.length
  | .nil => by rw [JI.size]; rfl
  | .cons _ _ v r => by
    rw [JI.size, JI.size_all r]
    simp [JI.upto, JI.vals]
theorem subs_len : ∀ (is : JI) (s : Nat), (is.subs s).length = is.vals.length
  | .nil, _ => by rw [JI.subs]; rfl
  | .cons _ _ v r, s => by rw [JI.subs, List.length_cons, subs_len r]; rfl
theorem subs_kth : ∀ (is : JI) (s k j : Nat), (is.subs s)[k]? = some j → ∃ w, is.vals[k]? = some w ∧ j = s + is.upto k ∧ is.at_ (is.upto k) = some w
  | .nil, _, _, _, h => by rw [JI.subs] at h; simp at h
  | .cons _ _ v r, s, 0, j, h => by
    rw [JI.subs] at h
    obtain rfl : s = j := by simpa using h
    refine ⟨v, rfl, by simp [JI.upto], ?_⟩
    rw [show (JI.cons _ _ v r).upto 0 = 0 by simp [JI.upto], JI.at_, if_pos v.size_pos]
    cases v <;> rw [JV.at_]
  | .cons a b v r, s, k + 1, j, h => by
    rw [JI.subs] at h
    obtain ⟨w, h1, h2, h3⟩ := subs_kth r (s + v.size) k j (by simpa using h)
    have e : (JI.cons a b v r).upto (k + 1) = v.size + r.upto k := by simp [JI.upto, JI.vals]
    refine ⟨w, by simpa [JI.vals] using h1, by omega, ?_⟩
    rw [e, JI.at_, if_neg (by omega), Nat.add_sub_cancel_left]; exact h3
theorem upto_succ {is : JI} {k : Nat} {w : JV} (h : is.vals[k]? = some w) : is.upto (k + 1) = is.upto k + w.size := by
  unfold JI.upto
  rw [List.take_add_one, h]
  simp
theorem dep_kth : ∀ (is : JI) (k : Nat) (w : JV), is.vals[k]? = some w → w.dep ≤ is.dep
  | .nil, _, _, h => by simp [JI.vals] at h
  | .cons _ _ v r, 0, w, h => by
    obtain rfl : v = w := by simpa [JI.vals] using h
    rw [JI.dep]; omega
  | .cons _ _ v r, k + 1, w, h => by
    have := dep_kth r k w (by simpa [JI.vals] using h)
    rw [JI.dep]; omega
end Jt
end Go.Proofs.YtdclhepjoifpiaaGreatDoor
