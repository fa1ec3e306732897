/- JSON documents as lists: what the law of spans asks of a tree that is parsed, node by node. -/
import Derived.Test.YtnjmcldhmnpbjaaGreatDoorKym
namespace Go.Proofs.YtnjmcldhmnpbjaaGreatDoor
open Go.RowKit
namespace Jt

theorem entry_spot {E : Env} {m : Bool} {ks : List Bs} {T T1 : List Tok} {k : Bs} {sp : Nat × Nat} {N : Nat} (h : entry E m ks T = .ok (k, sp) T1) (hT : ∀ t ∈ T, t.2.1 ≤ N ∧ t.2.2 ≤ N) : sp.1 ≤ N ∧ sp.2 ≤ N := by
  unfold entry at h
  by_cases hm : m = false
  · rw [if_pos hm] at h
    injection h with h _
    injection h with _ h
    rw [← h]; exact ⟨Nat.zero_le _, Nat.zero_le _⟩
  rw [if_neg hm] at h
  cases T with
  | nil => cases h
  | cons t r =>
    simp only at h
    by_cases h4 : t.1 = 4
    · rw [if_pos h4] at h
      cases hq : E.rq (E.by t) with
      | error x => obtain ⟨c, a⟩ := x; rw [hq] at h; cases h
      | ok s =>
        rw [hq] at h
        simp only at h
        by_cases hk : s ∈ ks
        · rw [if_pos hk] at h; cases h
        · rw [if_neg hk] at h
          cases r with
          | nil => cases h
          | cons u r2 =>
            simp only at h
            by_cases hu : E.mk? u 58 = true
            · rw [if_pos hu] at h
              injection h with h _
              injection h with _ h
              rw [← h]
              exact hT t List.mem_cons_self
            · rw [if_neg hu] at h; cases h
    · rw [if_neg h4] at h; cases h
mutual
theorem pv_spots {E : Env} {N : Nat} : ∀ (f d : Nat) (T r : List Tok) (v : JV) (s : Nat), pv E f d T = .ok v r → d ≤ 256 → (∀ t ∈ T, t.2.1 ≤ N ∧ t.2.2 ≤ N) → ∀ n ∈ v.nds s, ∀ p ∈ n.spots, p.1 ≤ N ∧ p.2 ≤ N
  | 0, _, _, _, _, _, h, _, _ => by rw [pv] at h; cases h
  | _ + 1, _, [], _, _, _, h, _, _ => by rw [pv] at h; cases h
  | f + 1, d, t :: T, r, v, s, h, hd, hT => by
    have one : ∀ (k : Nat) (x : Bs), JV.sc k x t.2 = v → ∀ n ∈ v.nds s, ∀ p ∈ n.spots, p.1 ≤ N ∧ p.2 ≤ N := by
      intro k x h1 n hn p hp
      rw [← h1, JV.nds, List.mem_singleton] at hn
      rw [hn] at hp
      cases hp
    rw [pv] at h
    split at h
    · split at h <;> (injection h with h1 h2; exact one _ _ h1)
    · split at h
      · split at h
        · cases h
        · injection h with h1 h2; exact one _ _ h1
      · split at h
        · split at h
          · cases h
          · injection h with h1 h2; exact one _ _ h1
        · split at h
          · split at h
            · cases h
            · cases hp : pl E f d (E.mk? t 123) true [] T with
              | bad c a => rw [hp] at h; cases h
              | out => rw [hp] at h; cases h
              | ok a r2 =>
                obtain ⟨is, e⟩ := a
                rw [hp] at h
                injection h with h1 h2
                obtain ⟨q1, q2⟩ := pl_spots f d _ _ _ T r2 is e (s + 1) hp (by omega) fun t ht => hT t (List.mem_cons_of_mem _ ht)
                intro n hn p hq
                rw [← h1, JV.nds] at hn
                rcases List.mem_cons.1 hn with rfl | hn
                · simp only at hq
                  split at hq
                  · exact q1 p hq
                  · cases hq
                · exact q2 n hn p hq
          · cases h
theorem pl_spots {E : Env} {N : Nat} : ∀ (f d : Nat) (m first : Bool) (ks : List Bs) (T r : List Tok) (is : JI) (e s : Nat), pl E f d m first ks T = .ok (is, e) r → d < 256 → (∀ t ∈ T, t.2.1 ≤ N ∧ t.2.2 ≤ N) → (∀ p ∈ is.spots, p.1 ≤ N ∧ p.2 ≤ N) ∧ ∀ n ∈ is.nds s, ∀ p ∈ n.spots, p.1 ≤ N ∧ p.2 ≤ N
  | 0, _, _, _, _, _, _, _, _, _, h, _, _ => by rw [pl] at h; cases h
  | _ + 1, _, _, _, _, [], _, _, _, _, h, _, _ => by rw [pl] at h; cases h
  | f + 1, d, m, first, ks, t :: T, r, is, e, s, h, hd, hT => by
    rw [pl] at h
    split at h
    · injection h with h0 h
      injection h0 with h1 h2
      rw [← h1, JI.nds, JI.spots]
      exact ⟨fun _ h => (by cases h), fun _ h => (by cases h)⟩
    · cases hc : comma E first (t :: T) with
      | bad c a => rw [hc] at h; cases h
      | out => rw [hc] at h; cases h
      | ok u0 T1 =>
        rw [hc] at h
        simp only at h
        obtain ⟨s1, w1, _⟩ := comma_seg hc
        cases he : entry E m ks T1 with
        | bad c a => rw [he] at h; cases h
        | out => rw [he] at h; cases h
        | ok ksp T2 =>
          obtain ⟨k, sp⟩ := ksp
          rw [he] at h
          simp only at h
          obtain ⟨s2, w2, _⟩ := entry_seg he
          have hT1 : ∀ t ∈ T1, t.2.1 ≤ N ∧ t.2.2 ≤ N := fun t ht => hT t (by rw [w1]; exact List.mem_append_right _ ht)
          have hT2 : ∀ t ∈ T2, t.2.1 ≤ N ∧ t.2.2 ≤ N := fun t ht => hT1 t (by rw [w2]; exact List.mem_append_right _ ht)
          have q2 := entry_spot he hT1
          cases hv : pv E f (d + 1) T2 with
          | bad c a => rw [hv] at h; cases h
          | out => rw [hv] at h; cases h
          | ok v T3 =>
            rw [hv] at h
            simp only at h
            obtain ⟨s3, w3, _⟩ := pv_frs f (d + 1) T2 T3 v s hv (by omega)
            have q3 := pv_spots f (d + 1) T2 T3 v s hv (by omega) hT2
            have hT3 : ∀ t ∈ T3, t.2.1 ≤ N ∧ t.2.2 ≤ N := fun t ht => hT2 t (by rw [w3]; exact List.mem_append_right _ ht)
            cases hl : pl E f d m false (ks ++ [k]) T3 with
            | bad c a => rw [hl] at h; cases h
            | out => rw [hl] at h; cases h
            | ok b T4 =>
              obtain ⟨is2, e2⟩ := b
              rw [hl] at h
              injection h with h0 h
              injection h0 with h1 h2
              obtain ⟨q4, q5⟩ := pl_spots f d m false _ T3 T4 is2 e2 (s + v.size) hl hd hT3
              rw [← h1, JI.nds, JI.spots]
              refine ⟨fun p hp => ?_, fun n hn => ?_⟩
              · rcases List.mem_cons.1 hp with rfl | hp
                · exact q2
                · exact q4 p hp
              · rcases List.mem_append.1 hn with hn | hn
                · exact q3 n hn
                · exact q5 n hn
end
mutual
theorem JV.dep_at : ∀ (v : JV) (i : Nat) (u : JV), v.at_ i = some u → u.dep ≤ v.dep
  | v, 0, u, h => by
    have e : v = u := by cases v <;> (rw [JV.at_] at h; injection h)
    rw [e]; exact Nat.le_refl _
  | .sc _ _ _, i + 1, u, h => by rw [JV.at_] at h; cases h
  | .box _ _ is, i + 1, u, h => by
    rw [JV.at_] at h
    rw [JV.dep]
    have := JI.dep_at is i u h
    omega
theorem JI.dep_at : ∀ (is : JI) (i : Nat) (u : JV), is.at_ i = some u → u.dep ≤ is.dep
  | .nil, _, _, h => by rw [JI.at_] at h; cases h
  | .cons _ _ v r, i, u, h => by
    rw [JI.at_] at h
    rw [JI.dep]
    split at h
    · have := JV.dep_at v i u h; omega
    · have := JI.dep_at r (i - v.size) u h; omega
end
theorem spots_len : ∀ is : JI, is.spots.length = is.vals.length
  | .nil => rfl
  | .cons _ _ _ r => by rw [JI.spots, JI.vals, List.length_cons, List.length_cons, spots_len r]
theorem vals_le : ∀ is : JI, is.vals.length ≤ is.size
  | .nil => Nat.le_refl _
  | .cons _ _ v r => by
    rw [JI.vals, List.length_cons, JI.size]
    have := vals_le r
    have := v.size_pos
    omega
theorem len_at {v u : JV} {i : Nat} {x : Nd} (h : v.at_ i = some u) (hx : (v.nds 0)[i]? = some x) : x.spots.length ≤ u.size ∧ x.subs.length ≤ u.size := by
  obtain ⟨x', rest, h1, h2, _⟩ := nd_at (s := 0) h
  rw [hx] at h1
  obtain rfl := Option.some.inj h1
  cases u with
  | sc k t sp =>
    rw [JV.nds] at h2
    injection h2 with h2 _
    rw [← h2]; exact ⟨Nat.zero_le _, Nat.zero_le _⟩
  | box m sp is =>
    rw [JV.nds] at h2
    injection h2 with h2 _
    rw [← h2, JV.size]
    have := vals_le is
    refine ⟨?_, ?_⟩
    · simp only
      split
      · rw [spots_len]; omega
      · exact Nat.zero_le _
    · simp only
      rw [subs_len]; omega
/-- What the law of spans asks of node i of a tree that is parsed from l. -/
structure SpanOk (l : Bs) (v : JV) (i : Nat) (x : Nd) (u u' : JV) : Prop where
  at_ : v.at_ i = some u
  dep : u.dep ≤ 257
  sp : x.span = u.span
  pos : x.span.1 < x.span.2
  len : x.span.2 ≤ l.length
  ord : ∀ j y, i = j + 1 → (v.nds 0)[j]? = some y → y.span.1 < x.span.1
  subs : ∀ s ∈ x.subs, i < s ∧ s < v.size ∧ ∃ y, (v.nds 0)[s]? = some y ∧ x.span.1 < y.span.1 ∧ y.span.2 < x.span.2
  spots : ∀ p ∈ x.spots, p.1 ≤ l.length ∧ p.2 ≤ l.length
  many : x.spots.length ≤ v.size ∧ x.subs.length ≤ v.size
  own : parseR (part l x.span) = .ok (u'.nds 0)
  size : u'.size = u.size
  fit : i + u.size ≤ v.size
  nds : ∀ m z, (u'.nds 0)[m]? = some z → (v.nds 0)[i + m]? = some (Nd.up x.span.1 (Nd.on i z))
theorem law_spans {l : Bs} {nd : List Nd} (h : parseR l = .ok nd) : ∃ v : JV, nd = v.nds 0 ∧ ∀ i x, (v.nds 0)[i]? = some x → ∃ u u', SpanOk l v i x u u' := by
  obtain ⟨v, hnd, hdep, f, hp, hall⟩ := parse_span h
  refine ⟨v, hnd, fun i x hx => ?_⟩
  have hi : i < v.size := by rw [← JV.nds_len v 0]; exact (List.getElem?_eq_some_iff.1 hx).1
  obtain ⟨u, hu⟩ := JV.at_in v i hi
  obtain ⟨s1, s2, u', s3, s4⟩ := hall i u hu
  obtain ⟨x', rest, h1, h2, h3⟩ := nd_at (s := 0) hu
  rw [hx] at h1
  obtain rfl := Option.some.inj h1
  obtain ⟨a1, rest2, a2⟩ := JV.at_nds v i 0 u hu
  have hto : ∀ t ∈ sol l, t.2.1 ≤ l.length ∧ t.2.2 ≤ l.length := fun t ht => by
    have := tks_mem (l := l) (i := 0) (List.mem_filter.1 ht).1
    omega
  have hord : ((v.nds 0).map fun n => n.span.1).Pairwise (· < ·) := by
    obtain ⟨seg, w, hs⟩ := pv_frs _ _ _ _ _ 0 hp (by omega)
    rw [List.append_nil] at w
    rw [← w] at hs
    exact (ord_sol l).frs.sublist hs
  have hsz : u'.size = u.size := by rw [← s4, JV.size_up]
  have hmem : x ∈ v.nds 0 := List.mem_of_getElem? hx
  have hlen := len_at hu hx
  refine ⟨u, u', hu, by have := JV.dep_at v i u hu; omega, h3, by rw [h3]; exact s1, by rw [h3]; exact s2, fun j y hj hy => ?_, fun s hs => ?_, fun p hp2 => pv_spots _ _ _ _ _ 0 hp (by omega) hto x hmem p hp2, by omega, by rw [h3]; exact s3, hsz, a1, fun m z hz => ?_⟩
  · have e1 : ((v.nds 0).map fun n => n.span.1)[j]? = some y.span.1 := by rw [List.getElem?_map, hy]; rfl
    have e2 : ((v.nds 0).map fun n => n.span.1)[i]? = some x.span.1 := by rw [List.getElem?_map, hx]; rfl
    obtain ⟨b1, b2⟩ := List.getElem?_eq_some_iff.1 e1
    obtain ⟨b3, b4⟩ := List.getElem?_eq_some_iff.1 e2
    have := List.pairwise_iff_getElem.1 hord j i b1 b3 (by omega)
    rwa [b2, b4] at this
  · cases u with
    | sc k t sp =>
      rw [JV.nds] at h2
      injection h2 with h2 _
      rw [← h2] at hs; cases hs
    | box m sp is =>
      rw [JV.nds] at h2
      injection h2 with h2 _
      rw [← h2] at hs
      obtain ⟨w, hw, q1, q2⟩ := subs_at is _ s hs
      have hws := JV.at_at v i (s - (0 + i + 1) + 1) _ w hu (by rw [JV.at_]; exact q2)
      rw [show i + (s - (0 + i + 1) + 1) = s by omega] at hws
      obtain ⟨y, _, y1, _, y3⟩ := nd_at (s := 0) hws
      obtain ⟨f', d', pre, T', r', p1, p2, p3⟩ := pv_at _ _ _ _ _ i _ hp (by omega) hu
      have ho : Ord T' := by have := ord_sol l; rw [p3] at this; exact this.right
      have hw2 := box_within p1 p2 ho w hw
      refine ⟨by omega, ?_, y, y1, ?_, ?_⟩
      · rw [← JV.nds_len v 0]; exact (List.getElem?_eq_some_iff.1 y1).1
      · rw [h3, y3]; exact hw2.1
      · rw [h3, y3]; exact hw2.2
  · have hm : m < u.size := by rw [← hsz, ← JV.nds_len u' 0]; exact (List.getElem?_eq_some_iff.1 hz).1
    have e : (v.nds 0)[i + m]? = (u.nds (0 + i))[m]? := by
      rw [← List.getElem?_drop, a2, List.getElem?_append_left (by rw [JV.nds_len]; exact hm)]
    rw [e, ← s4, JV.nds_up, JV.nds_on, List.getElem?_map, List.getElem?_map, hz, h3]
    rfl
end Jt
end Go.Proofs.YtnjmcldhmnpbjaaGreatDoor
