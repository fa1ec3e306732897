/- A value whose maps' keys stand in another order is the same; one with another node is not (lists alone). -/
import Derived.Test.YtnnlgodgaolkkaaGreatDoorUam
import Derived.Test.YtnnlgodgaolkkaaGreatDoorStm
import Derived.Test.YtnnlgodgaolkkaaGreatDoorHf
import Derived.Test.YtnnlgodgaolkkaaGreatDoorHe
import Derived.Test.YtnnlgodgaolkkaaGreatDoorHc
namespace Go.Proofs.YtnnlgodgaolkkaaGreatDoor
open Go.RowKit
namespace Va

theorem nodup_allN : ∀ {a b : List Nat}, a.Nodup → (∀ x ∈ a, x ∈ b) → b.length ≤ a.length → ∀ x ∈ b, x ∈ a
  | [], b, _, _, hl, x, hx => by
    have : b = [] := List.eq_nil_of_length_eq_zero (by simpa using hl)
    rw [this] at hx; cases hx
  | c :: a, b, hd, hs, hl, x, hx => by
    have hc := hs c (List.mem_cons_self ..)
    have hd' := List.pairwise_cons.1 hd
    by_cases e : x = c
    · subst e; exact List.mem_cons_self ..
    · refine List.mem_cons_of_mem _ (nodup_allN (b := b.erase c) hd'.2 (fun y hy => ?_) ?_ x ((List.mem_erase_of_ne e).2 hx))
      · exact (List.mem_erase_of_ne (fun e => hd'.1 y hy e.symm)).2 (hs y (List.mem_cons_of_mem _ hy))
      · rw [List.length_erase_of_mem hc]; simp at hl; omega
theorem nodup_perm {a b : List Nat} (ha : a.Nodup) (hb : b.Nodup) (hs : ∀ x ∈ a, x ∈ b) (hl : b.length ≤ a.length) : a.Perm b := by
  have hs2 := nodup_allN ha hs hl
  rw [List.perm_iff_count]
  intro x
  have h1 := List.nodup_iff_count.1 ha x
  have h2 := List.nodup_iff_count.1 hb x
  have h3 : 0 < a.count x ↔ 0 < b.count x := by rw [List.count_pos_iff, List.count_pos_iff]; exact ⟨hs x, hs2 x⟩
  omega
theorem mod_if {n i c : Nat} (hi : i < n) (hc : c < n) : (i + c) % n = if i + c < n then i + c else i + c - n := by
  split
  · exact Nat.mod_eq_of_lt (by assumption)
  · rw [Nat.mod_eq_sub_mod (by omega), Nat.mod_eq_of_lt (by omega)]
theorem tix_inj {n b i j : Nat} (hi : i < n) (hj : j < n) (h : tix n b i = tix n b j) : i = j := by
  unfold tix at h
  split at h
  · omega
  · have hc : b / 2 % n < n := Nat.mod_lt _ (by omega)
    rw [Nat.add_mod, Nat.add_mod j, Nat.mod_eq_of_lt hi, Nat.mod_eq_of_lt hj, mod_if hi hc, mod_if hj hc] at h
    split at h <;> split at h <;> omega
theorem tix_nodup (n b : Nat) : ((List.range n).map (tix n b)).Nodup := by
  rw [List.Nodup, List.pairwise_map]
  refine List.Pairwise.imp_of_mem (R := fun a c : Nat => a ≠ c) (fun {a c} ha hc hne e => hne (tix_inj (List.mem_range.1 ha) (List.mem_range.1 hc) e)) List.nodup_range
theorem tix_perm (n b : Nat) : ((List.range n).map (tix n b)).Perm (List.range n) := by
  refine nodup_perm (tix_nodup n b) List.nodup_range (fun x hx => ?_) (by simp)
  obtain ⟨i, hi, rfl⟩ := List.mem_map.1 hx
  exact List.mem_range.2 (tix_lt (List.mem_range.1 hi))
theorem range_get {α : Type} (l : List α) (d : α) : (List.range l.length).map (fun i => l.getD i d) = l := by
  apply List.ext_getElem
  · simp
  · intro i h1 h2
    simp [List.getD_eq_getElem?_getD, h2]
theorem perm_get {α : Type} (l : List α) (d : α) {n b : Nat} (hn : l.length = n) : ((List.range n).map fun i => l.getD (tix n b i) d).Perm l := by
  have h := (tix_perm n b).map fun i => l.getD i d
  rw [List.map_map] at h
  have e := range_get l d
  rw [hn] at e
  rw [e] at h
  exact h
theorem wtL_perm {a b : List V} (h : a.Perm b) : wtL a = wtL b := by
  induction h with
  | nil => rfl
  | cons x _ ih => rw [wtL, wtL, ih]
  | swap x y l => simp only [wtL]; omega
  | trans _ _ h1 h2 => rw [h1, h2]
theorem szL_perm {a b : List V} (h : a.Perm b) : szL a = szL b := by
  induction h with
  | nil => rfl
  | cons x _ ih => rw [szL, szL, ih]
  | swap x y l => simp only [szL]; omega
  | trans _ _ h1 h2 => rw [h1, h2]
theorem dpL_perm {a b : List V} (h : a.Perm b) : dpL a = dpL b := by
  induction h with
  | nil => rfl
  | cons x _ ih => rw [dpL, dpL, ih]
  | swap x y l => simp only [dpL]; omega
  | trans _ _ h1 h2 => rw [h1, h2]
theorem plL_perm {a b : List V} (h : a.Perm b) : plL a = plL b := by
  induction h with
  | nil => rfl
  | cons x _ ih => rw [plL, plL, ih]
  | swap x y l => simp only [plL]; cases pl x <;> cases pl y <;> rfl
  | trans _ _ h1 h2 => rw [h1, h2]
/-- A map whose entries are another one's, in whatever order, is the same. -/
theorem sm_ent {t : Bs} {l l' : List V} {ks ks' : List Bs} (hd : ks.Nodup) (hd' : ks'.Nodup) (hk : ks.length = l.length) (hk' : ks'.length = l'.length) (hl : l'.length = l.length)
    (h : ∀ (i : Nat) (s : Bs) (x : V), ks'[i]? = some s → l'[i]? = some x → ∃ (j : Nat) (y : V), ks[j]? = some s ∧ l[j]? = some y ∧ sm x y = true) : sm (.mk 8 t l' ks') (.mk 8 t l ks) = true := by
  rw [sm_map hd' hd hk' hk hl]
  intro i s x hs hx
  obtain ⟨j, y, h1, h2, h3⟩ := h i s x hs hx
  exact ⟨j, y, fnd_nodup hd h1, h2, h3⟩
theorem nodup_tix {ks : List Bs} {n b : Nat} (hd : ks.Nodup) (hn : ks.length = n) : ((List.range n).map fun i => ks.getD (tix n b i) []).Nodup :=
  (perm_get ks [] hn).nodup_iff.2 hd
mutual
theorem trn_ok (b : Nat) : ∀ {x : V}, pl x = true → pl (trn b x) = true ∧ dp (trn b x) = dp x ∧ sz (trn b x) = sz x ∧ wt (trn b x) = wt x ∧ sm (trn b x) x = true
  | .mk k t l ks, h => by
    rw [pl, Bool.and_eq_true] at h
    have hh := of_decide_eq_true h.1
    obtain ⟨i1, i2, i3, i4, i5⟩ := trnL_ok b h.2
    by_cases h8 : k = 8
    · subst h8
      have e := hh.2.2.2.2.1 rfl
      have hd := hh.2.2.2.2.2
      obtain ⟨n, hn⟩ : ∃ n, n = l.length := ⟨_, rfl⟩
      have P1 := perm_get (b := b) (trnL b l) v0 (show (trnL b l).length = n by rw [trnL_len, hn])
      have P2 := perm_get (b := b) ks [] (show ks.length = n by rw [e, hn])
      have hnd := nodup_tix (b := b) hd (show ks.length = n by rw [e, hn])
      have et : trn b (.mk 8 t l ks) = .mk 8 t ((List.range n).map fun i => (trnL b l).getD (tix n b i) v0) ((List.range n).map fun i => ks.getD (tix n b i) []) := by rw [trn, if_pos rfl, hn]
      have hlen : ((List.range n).map fun i => (trnL b l).getD (tix n b i) v0).length = n := by simp
      have hlen2 : ((List.range n).map fun i => ks.getD (tix n b i) []).length = n := by simp
      rw [et]
      refine ⟨?_, ?_, ?_, ?_, ?_⟩
      · rw [pl, Bool.and_eq_true]
        refine ⟨decide_eq_true ⟨hh.1, .inl rfl, .inl (by omega), hh.2.2.2.1, fun _ => by rw [hlen, hlen2], hnd⟩, by rw [plL_perm P1]; exact i1⟩
      · rw [dp, dp, if_pos (.inr rfl), if_pos (.inr rfl), dpL_perm P1, i2]
      · rw [sz, sz, szL_perm P1, i3]
      · rw [wt, wt, wtL_perm P1, i4, kw_perm P2, hlen2, e, ← hn]
      · refine sm_ent hd hnd e (by rw [hlen, hlen2]) (by rw [hlen, hn]) fun i s x hs hx => ?_
        have hi : i < n := by have := (List.getElem?_eq_some_iff.1 hs).1; simpa using this
        have ht := tix_lt (b := b) hi
        obtain ⟨y, hy⟩ := get_lt (l := l) (i := tix n b i) (by rw [← hn]; exact ht)
        obtain ⟨r, hr⟩ := get_lt (l := ks) (i := tix n b i) (by rw [e, ← hn]; exact ht)
        rw [List.getElem?_map, List.getElem?_range hi] at hs hx
        have e1 : s = r := by
          have : some (ks.getD (tix n b i) []) = some s := hs
          rw [List.getD_eq_getElem?_getD, hr] at this; exact (Option.some.inj this).symm
        have e2 : x = trn b y := by
          have : some ((trnL b l).getD (tix n b i) v0) = some x := hx
          rw [List.getD_eq_getElem?_getD, trnL_get, hy] at this; exact (Option.some.inj this).symm
        subst e1 e2
        exact ⟨tix n b i, y, hr, hy, i5 _ _ hy⟩
    · have hks : ks = [] := by rcases hh.2.1 with q | q; exact absurd q h8; exact q
      subst hks
      rw [trn, if_neg h8]
      refine ⟨?_, ?_, ?_, ?_, ?_⟩
      · rw [pl, Bool.and_eq_true]
        refine ⟨decide_eq_true ⟨hh.1, hh.2.1, by rw [trnL_len]; exact hh.2.2.1, hh.2.2.2.1, fun q => absurd q h8, hh.2.2.2.2.2⟩, i1⟩
      · rw [dp, dp, i2]
      · rw [sz, sz, i3]
      · rw [wt, wt, i4]
      · rw [sm_list h8 (trnL_len b l)]
        intro i x y hx hy
        rw [trnL_get, hy] at hx
        obtain rfl : trn b y = x := Option.some.inj hx
        exact i5 _ _ hy
theorem trnL_ok (b : Nat) : ∀ {l : List V}, plL l = true → plL (trnL b l) = true ∧ dpL (trnL b l) = dpL l ∧ szL (trnL b l) = szL l ∧ wtL (trnL b l) = wtL l ∧ ∀ (i : Nat) (x : V), l[i]? = some x → sm (trn b x) x = true
  | [], _ => by rw [trnL]; exact ⟨rfl, rfl, rfl, rfl, fun i x h => by simp at h⟩
  | x :: r, h => by
    rw [plL, Bool.and_eq_true] at h
    obtain ⟨a1, a2, a3, a4, a5⟩ := trn_ok b h.1
    obtain ⟨c1, c2, c3, c4, c5⟩ := trnL_ok b h.2
    rw [trnL]
    refine ⟨by rw [plL, a1, c1]; rfl, by rw [dpL, dpL, a2, c2], by rw [szL, szL, a3, c3], by rw [wtL, wtL, a4, c4], fun i y hy => ?_⟩
    cases i with
    | zero => obtain rfl : x = y := by simpa using hy
              exact a5
    | succ i => exact c5 i y (by simpa using hy)
end
theorem may_of {x : V} (h : pl x = true) (h2 : dp x ≤ 256) : may x = true := by unfold may; rw [Bool.and_eq_true]; exact ⟨decide_eq_true h2, h⟩
theorem trn_may {b : Nat} {x : V} (h : may x = true) : may (trn b x) = true := by
  obtain ⟨a1, a2, _⟩ := trn_ok b (may_pl h)
  exact may_of a1 (by rw [a2]; exact may_dp h)
/-- Another node in the place of the n-th one; else how many are left. -/
inductive Oth (α : Type) where
  | done (x : α)
  | left (n : Nat)
mutual
def oth : V → Nat → Oth V
  | .mk k t _ _, 0 => .done (.mk 3 (if k = 3 then t ++ [120] else [120]) [] [])
  | .mk k t l ks, n + 1 => match othL l n with
    | .done l' => .done (.mk k t l' ks)
    | .left m => .left m
def othL : List V → Nat → Oth (List V)
  | [], n => .left n
  | x :: r, n => match oth x n with
    | .done y => .done (y :: r)
    | .left m => match othL r m with
      | .done r' => .done (x :: r')
      | .left p => .left p
end
/-- What another node makes of a value that may be: one that may be, and is not the same. -/
def OthOk (x y : V) : Prop := pl y = true ∧ dp y ≤ dp x ∧ wt y ≤ wt x + 1 ∧ sm x y = false
mutual
theorem oth_ok : ∀ {x : V} {n : Nat} {y : V}, pl x = true → oth x n = .done y → OthOk x y
  | .mk k t l ks, 0, y, h, e => by
    rw [oth] at e
    obtain rfl := Oth.done.inj e
    have hh : plH 3 (if k = 3 then t ++ [120] else [120]) 0 [] = true := decide_eq_true ⟨by omega, .inr rfl, .inr rfl, by simp [tx], fun q => absurd q (by decide), List.nodup_nil⟩
    refine ⟨by rw [pl, List.length_nil, hh]; rfl, by rw [dp, if_neg (by decide)]; omega, ?_, ?_⟩
    · rw [wt, wt]
      split
      · simp [kw, wtL]; omega
      · simp [kw, wtL]; omega
    · cases hs : sm (.mk k t l ks) (.mk 3 (if k = 3 then t ++ [120] else [120]) [] []) with
      | false => rfl
      | true =>
        rw [sm_iff, can_no (k := 3) (by decide)] at hs
        by_cases h8 : k = 8
        · subst h8
          rw [can_map, cmpV] at hs
          have := ncmp_eq (then_eq hs).1
          omega
        · rw [can_no h8, cmpV] at hs
          have h1 := ncmp_eq (then_eq hs).1
          have h2 := bcmp_eq (then_eq (then_eq hs).2).1
          rw [if_pos h1] at h2
          have := congrArg List.length h2
          simp at this
  | .mk k t l ks, n + 1, y, h, e => by
    rw [pl, Bool.and_eq_true] at h
    have hh := of_decide_eq_true h.1
    rw [oth] at e
    cases ho : othL l n with
    | left m => rw [ho] at e; cases e
    | done l' =>
      rw [ho] at e
      obtain rfl := Oth.done.inj e
      obtain ⟨a1, a2, a3, a4, i, x, z, hx, hz, hsm⟩ := othL_ok h.2 ho
      have hp : plH k t l'.length ks = true := by rw [a1]; exact h.1
      refine ⟨by rw [pl, hp, a2]; rfl, ?_, by rw [wt, wt]; omega, ?_⟩
      · rw [dp, dp]; split <;> omega
      · cases hs : sm (.mk k t l ks) (.mk k t l' ks) with
        | false => rfl
        | true =>
          by_cases h8 : k = 8
          · subst h8
            have e := hh.2.2.2.2.1 rfl
            have hd := hh.2.2.2.2.2
            obtain ⟨s, hks⟩ := get_lt (l := ks) (i := i) (by rw [e]; exact (List.getElem?_eq_some_iff.1 hx).1)
            obtain ⟨j, w, hf, hw, hsw⟩ := (sm_map hd hd e (by rw [a1, e]) a1.symm).1 hs i s x hks hx
            rw [fnd_nodup hd hks] at hf
            obtain rfl := Option.some.inj hf
            rw [hz] at hw
            obtain rfl := Option.some.inj hw
            rw [hsm] at hsw; cases hsw
          · have hks : ks = [] := by rcases hh.2.1 with q | q; exact absurd q h8; exact q
            subst hks
            have := (sm_list h8 a1.symm).1 hs i x z hx hz
            rw [hsm] at this; cases this
theorem othL_ok : ∀ {l : List V} {n : Nat} {l' : List V}, plL l = true → othL l n = .done l' → l'.length = l.length ∧ plL l' = true ∧ dpL l' ≤ dpL l ∧ wtL l' ≤ wtL l + 1 ∧ ∃ (i : Nat) (x y : V), l[i]? = some x ∧ l'[i]? = some y ∧ sm x y = false
  | [], n, l', _, e => by rw [othL] at e; cases e
  | x :: r, n, l', h, e => by
    rw [plL, Bool.and_eq_true] at h
    rw [othL] at e
    cases ho : oth x n with
    | done y =>
      rw [ho] at e
      obtain rfl := Oth.done.inj e
      obtain ⟨b1, b2, b3, b4⟩ := oth_ok h.1 ho
      refine ⟨rfl, by rw [plL, b1, h.2]; rfl, by rw [dpL, dpL]; omega, by rw [wtL, wtL]; omega, 0, x, y, rfl, rfl, b4⟩
    | left m =>
      rw [ho] at e
      simp only at e
      cases hr : othL r m with
      | left p => rw [hr] at e; cases e
      | done r' =>
        rw [hr] at e
        obtain rfl := Oth.done.inj e
        obtain ⟨b1, b2, b3, b4, i, u, v, hu, hv, hs⟩ := othL_ok h.2 hr
        refine ⟨by simp [b1], by rw [plL, h.1, b2]; rfl, by rw [dpL, dpL]; omega, by rw [wtL, wtL]; omega, i + 1, u, v, by simpa using hu, by simpa using hv, hs⟩
end
theorem oth_may {x y : V} {n : Nat} (h : may x = true) (e : oth x n = .done y) : may y = true ∧ wt y ≤ wt x + 1 ∧ sm x y = false := by
  obtain ⟨a, b, c, d⟩ := oth_ok (may_pl h) e
  exact ⟨may_of a (by have := may_dp h; omega), c, d⟩
/-- The same is the same both ways, and on. -/
theorem sm_self {x : V} : sm x x = true := sm_iff.2 (cmpV_self _)
theorem sm_sym {x y : V} (hx : pl x = true) (hy : pl y = true) (h : sm x y = true) : sm y x = true := (sm_can hy hx).2 ((sm_can hx hy).1 h).symm
end Va
end Go.Proofs.YtnnlgodgaolkkaaGreatDoor
/- The order of values, entry by entry. -/
namespace Go.Proofs.YtnnlgodgaolkkaaGreatDoor
open Go.RowKit
namespace Va

section
variable {P P' : List V} {K K' : List Bs} {i : Nat} {C : Ordering} {px py : V}
theorem step_eq (h : cmpL (P.drop i) (K.drop i) (P'.drop i) (K'.drop i) = C) (hx : P[i]? = some px) (hy : P'[i]? = some py) (hk : K.getD i [] = K'.getD i []) (hs : cmpV px py = .eq) : cmpL (P.drop (i + 1)) (K.drop (i + 1)) (P'.drop (i + 1)) (K'.drop (i + 1)) = C := by
  rw [cmpL_drop hx hy, hk, bcmp_self, hs] at h; exact h
theorem step_key (h : cmpL (P.drop i) (K.drop i) (P'.drop i) (K'.drop i) = C) (hx : P[i]? = some px) (hy : P'[i]? = some py) (hk : K.getD i [] ≠ K'.getD i []) : (C == .lt) = bl (K.getD i []) (K'.getD i []) := by
  rw [cmpL_drop hx hy] at h
  rw [← h]
  unfold bcmp
  cases hb : bl (K.getD i []) (K'.getD i []) with
  | true => rfl
  | false =>
    cases hb2 : bl (K'.getD i []) (K.getD i []) with
    | true => rfl
    | false => exact absurd (bl_tot hb hb2) hk
theorem step_val (h : cmpL (P.drop i) (K.drop i) (P'.drop i) (K'.drop i) = C) (hx : P[i]? = some px) (hy : P'[i]? = some py) (hk : K.getD i [] = K'.getD i []) (hs : cmpV px py ≠ .eq) : (C == .lt) = (cmpV px py == .lt) := by
  rw [cmpL_drop hx hy, hk, bcmp_self] at h
  rw [← h]
  cases hc : cmpV px py with
  | eq => exact absurd hc hs
  | lt => rfl
  | gt => rfl
theorem step_end (h : cmpL (P.drop i) (K.drop i) (P'.drop i) (K'.drop i) = C) (hi : i ≤ P.length) (hi' : i ≤ P'.length) (he : P.length ≤ i ∨ P'.length ≤ i) : (C == .lt) = decide (P.length < P'.length) := by
  rw [cmpL_end he] at h
  rw [← h]
  by_cases h1 : i < P.length
  · rw [if_pos h1, decide_eq_false (by omega)]; rfl
  · rw [if_neg h1]
    by_cases h2 : i < P'.length
    · rw [if_pos h2, decide_eq_true (by omega)]; rfl
    · rw [if_neg h2, decide_eq_false (by omega)]; rfl
end
/-- Does one value stand ahead of another one? -/
def lt (x y : V) : Bool := cmpV (can x) (can y) == .lt
theorem can_mk (k : Nat) (t : Bs) (l : List V) (ks : List Bs) : ∃ l2 ks2, can (.mk k t l ks) = .mk k t l2 ks2 := by
  by_cases h : k = 8
  · subst h; exact ⟨_, _, can_map⟩
  · exact ⟨_, _, can_no h⟩
theorem lt_kind {k k' : Nat} {t t' : Bs} {l l' : List V} {ks ks' : List Bs} (h : k ≠ k') : lt (.mk k t l ks) (.mk k' t' l' ks') = decide (k < k') := by
  unfold lt
  obtain ⟨l2, k2, e2⟩ := can_mk k t l ks
  obtain ⟨l3, k3, e3⟩ := can_mk k' t' l' ks'
  rw [e2, e3, cmpV]
  unfold ncmp
  by_cases h1 : k < k'
  · rw [if_pos h1, decide_eq_true h1]; rfl
  · rw [if_neg h1, if_pos (by omega), decide_eq_false h1]; rfl
theorem lt_text {k : Nat} {t t' : Bs} {l l' : List V} {ks ks' : List Bs} (h : t ≠ t') : lt (.mk k t l ks) (.mk k t' l' ks') = bl t t' := by
  unfold lt
  obtain ⟨l2, k2, e2⟩ := can_mk k t l ks
  obtain ⟨l3, k3, e3⟩ := can_mk k t' l' ks'
  rw [e2, e3, cmpV, ncmp_self]
  unfold bcmp
  cases hb : bl t t' with
  | true => rfl
  | false =>
    cases hb2 : bl t' t with
    | true => rfl
    | false => exact absurd (bl_tot hb hb2) h
end Va
end Go.Proofs.YtnnlgodgaolkkaaGreatDoor
/- The document's: which of two values stands ahead. -/
namespace Go.Proofs.YtnnlgodgaolkkaaGreatDoor
open Go.RowKit
namespace Va

/-- The entries of two values of one kind and one text, as they are held against one another. -/
structure Ents (k : Nat) (l l' : List V) (ks ks' : List Bs) (P P' : List V) (K K' : List Bs) : Prop where
  n : P.length = l.length
  n' : P'.length = l'.length
  li : k ≠ 8 → K = [] ∧ K' = []
  lx : k ≠ 8 → ∀ (i : Nat) (x : V), l[i]? = some x → P[i]? = some (can x)
  ly : k ≠ 8 → ∀ (i : Nat) (x : V), l'[i]? = some x → P'[i]? = some (can x)
  mx : k = 8 → ∀ (i j : Nat) (x : V), (ord ks ks.length)[i]? = some j → l[j]? = some x → P[i]? = some (can x) ∧ K.getD i [] = ks.getD j []
  my : k = 8 → ∀ (i j : Nat) (x : V), (ord ks' ks'.length)[i]? = some j → l'[j]? = some x → P'[i]? = some (can x) ∧ K'.getD i [] = ks'.getD j []
theorem ents_of {k : Nat} {t : Bs} {l l' : List V} {ks ks' : List Bs} (hm : may (.mk k t l ks) = true) (hm' : may (.mk k t l' ks') = true) :
    ∃ P P' K K', Ents k l l' ks ks' P P' K K' ∧ cmpV (can (.mk k t l ks)) (can (.mk k t l' ks')) = cmpL P K P' K' := by
  have p := may_parts hm
  have p' := may_parts hm'
  by_cases h : k = 8
  · subst h
    refine ⟨_, _, _, _, ⟨?_, ?_, fun h => absurd rfl h, fun h => absurd rfl h, fun h => absurd rfl h, ?_, ?_⟩, by rw [can_map, can_map, cmp_head ⟨rfl, rfl⟩]⟩
    · rw [List.length_map, ord_len, p.2.2.1 rfl]
    · rw [List.length_map, ord_len, p'.2.2.1 rfl]
    · exact fun _ i j x ho hx => ⟨by rw [map_at ho, can_at hx], mapK_at ho⟩
    · exact fun _ i j x ho hx => ⟨by rw [map_at ho, can_at hx], mapK_at ho⟩
  · have e := p.2.1.resolve_left h
    have e' := p'.2.1.resolve_left h
    subst e e'
    exact ⟨canL l, canL l', [], [], ⟨canL_len l, canL_len l', fun _ => ⟨rfl, rfl⟩, fun _ i x hx => canL_some hx, fun _ i x hx => canL_some hx, fun e => absurd e h, fun e => absurd e h⟩, by rw [can_no h, can_no h, cmp_head ⟨rfl, rfl⟩]⟩
set_option maxHeartbeats 16000000 in
set_option maxRecDepth 100000 in
theorem rahead_any : ∀ (N : Nat) (x y : V), wt x ≤ N → N ≤ 1000000000000 → wt y ≤ 1000000000000 → may x = true → may y = true → ∀ (w : World) (v u : Value), Vm w v x → Vm w u y →
    Calls Tryz.prog 34 #[v, u] w fun e w' => e = .returned (.bool (lt x y)) ∧ Below w.heap.size w w'
  | 0, x, _, hx, _, _, _, _, _, _, _, _, _ => by have := wt_pos x; omega
  | N + 1, .mk k t l ks, .mk k' t' l' ks', hx, hN, hy, hm, hm', w, v, u, hv, hu => by
    obtain ⟨A, B, c, d, rfl, hk, hl, hc, hA, hd, hd2, hB, hK, hV⟩ := hv.inv
    obtain ⟨A', B', c', d', rfl, hk', hl', hc', hA', hd', hd2', hB', hK', hV'⟩ := hu.inv
    have IH := Lib.hid (fun (i j : Nat) (x y : V) (hi : l[i]? = some x) (hj : l'[j]? = some y) (w : World) (v u : Value) (h : Vm w v x) (h' : Vm w u y) =>
      rahead_any N x y (by have := wt_sub (k := k) (t := t) (ks := ks) hi; omega) (by omega) (by have := wt_sub (k := k') (t := t') (ks := ks') hj; omega) (may_sub hm hi) (may_sub hm' hj) w v u h h')
    have IS := Lib.hid (fun (i j : Nat) (x y : V) (hi : l[i]? = some x) (hj : l'[j]? = some y) (w : World) (v u : Value) (h : Vm w v x) (h' : Vm w u y) =>
      rsame_any N x y (by have := wt_sub (k := k) (t := t) (ks := ks) hi; omega) (by omega) (by have := wt_sub (k := k') (t := t') (ks := ks') hj; omega) (may_sub hm hi) (may_sub hm' hj) w v u h h')
    have OX := Lib.hid (fun (w' : World) (hb : Below w.heap.size w w') => rord_any w' (show wt (.mk k t l ks) ≤ 1000000000000 by omega) (hv.on hb))
    have OY := Lib.hid (fun (w' : World) (hb : Below w.heap.size w w') => rord_any w' hy (hu.on hb))
    have PA := Lib.hid (may_parts hm)
    have PB := Lib.hid (may_parts hm')
    have HM1 := Lib.hid (And.intro hm hm')
    have HV := Lib.hid hV
    have HV' := Lib.hid hV'
    have HK := Lib.hid hK
    have HK' := Lib.hid hK'
    obtain ⟨T, hT⟩ : ∃ T, T = txt t := ⟨_, rfl⟩
    obtain ⟨T', hT'⟩ : ∃ T, T = txt t' := ⟨_, rfl⟩
    obtain ⟨n, HN⟩ : ∃ n, Hid (n = l.length) := ⟨_, Lib.hid rfl⟩
    obtain ⟨n', HN'⟩ : ∃ n, Hid (n = l'.length) := ⟨_, Lib.hid rfl⟩
    obtain ⟨m, HM⟩ : ∃ m, Hid (m = ks.length) := ⟨_, Lib.hid rfl⟩
    obtain ⟨m', HM'⟩ : ∃ m, Hid (m = ks'.length) := ⟨_, Lib.hid rfl⟩
    obtain ⟨R, hR⟩ : ∃ R, R = lt (.mk k t l ks) (.mk k' t' l' ks') := ⟨_, rfl⟩
    rw [← HN.out, ← HM.out, ← HN'.out, ← HM'.out, ← hT, ← hT', ← hR]
    rw [← HN.out, ← HM.out, ← hT] at OX
    rw [← HN'.out, ← HM'.out, ← hT'] at OY
    rw [← HN.out] at hl
    rw [← HM.out] at hd
    rw [← HN'.out] at hl'
    rw [← HM'.out] at hd'
    have hn5 : n ≤ 1000000000000 := by rw [HN.out]; have := wtL_len l; rw [wt] at hx; omega
    have hn5' : n' ≤ 1000000000000 := by rw [HN'.out]; have := wtL_len l'; rw [wt] at hy; omega
    have hm5 : m ≤ 1000000000000 := by rw [HM.out]; rw [wt] at hx; omega
    have HTE := Lib.hid (tl_eq hT hT')
    have HTL := Lib.hid (bl_txt hT hT')
    have hk9 := hk
    have HR := Lib.hid hR
    obtain ⟨W1, hW1⟩ : ∃ W, W = w.alloc (vO (.int .u8 k) (.string T) (.slice A n c) (.slice B m d)) := ⟨_, rfl⟩
    obtain ⟨W2, hW2⟩ : ∃ W, W = W1.alloc (vO (.int .u8 k') (.string T') (.slice A' n' c') (.slice B' m' d')) := ⟨_, rfl⟩
    have hb1 : Below w.heap.size w W1 := by rw [hW1]; exact below_new ..
    have hb2 : Below W1.heap.size W1 W2 := by rw [hW2]; exact below_new ..
    have HX := Lib.hid (show Bx W2 w.heap.size (.int .u8 k) (.string T) (.slice A n c) (.slice B m d) from (show Bx W1 w.heap.size (.int .u8 k) (.string T) (.slice A n c) (.slice B m d) from by rw [hW1]; exact Bx.new ..).on hb2)
    have HY := Lib.hid (show Bx W2 W1.heap.size (.int .u8 k') (.string T') (.slice A' n' c') (.slice B' m' d') from by rw [hW2]; exact Bx.new ..)
    have HB2 := Lib.hid (below_tr hb1 hb2)
    have HVW := Lib.hid (HV.out.on HB2.out)
    have HVW' := Lib.hid (HV'.out.on HB2.out)
    have HKW := Lib.hid (HK.out.on HB2.out)
    have HKW' := Lib.hid (HK'.out.on HB2.out)
    have hsz : w.heap.size + 1 = W1.heap.size := by rw [hW1]; show _ = (w.heap.push _).size; rw [Array.size_push]
    clear hT hT' hK hV hK' hV' hx hN hv hy hu hm hm' hR HV HV' HK HK' hb1 hb2
    have HW1 := Lib.hid hW1
    have HW2 := Lib.hid hW2
    have HSZ := Lib.hid hsz
    clear hW1 hW2 hsz
    go_enter Tryz.func34, Tryz.ntmps34
    go_upto_region 1 with fail
    rw [← HW1.out, ← HW2.out]
    obtain ⟨h2, hh2⟩ : ∃ h, h = w.heap.size + 1 := ⟨_, rfl⟩
    rw [← HSZ.out, ← hh2] at HY
    rw [← hh2]
    obtain ⟨h1, hh1⟩ : ∃ h, h = w.heap.size := ⟨_, rfl⟩
    rw [← hh1] at HX ⊢
    clear HW1 HW2 HSZ hh1 hh2
    obtain ⟨x0, x1, x2, x3⟩ : W2.cell? ⟨h1, 0, none⟩ = some (.int .u8 k) ∧ W2.cell? ⟨h1, 1, none⟩ = some (.string T) ∧ W2.cell? ⟨h1, 2, none⟩ = some (.slice A n c) ∧ W2.cell? ⟨h1, 3, none⟩ = some (.slice B m d) := ⟨HX.out.c0, HX.out.c1, HX.out.c2, HX.out.c3⟩
    obtain ⟨y0, y1, y2, y3⟩ : W2.cell? ⟨h2, 0, none⟩ = some (.int .u8 k') ∧ W2.cell? ⟨h2, 1, none⟩ = some (.string T') ∧ W2.cell? ⟨h2, 2, none⟩ = some (.slice A' n' c') ∧ W2.cell? ⟨h2, 3, none⟩ = some (.slice B' m' d') := ⟨HY.out.c0, HY.out.c1, HY.out.c2, HY.out.c3⟩
    by_cases ek : k = k'
    · subst ek
      by_cases et : t = t'
      · have e1 : T.toList = T'.toList := HTE.out.2 et
        subst et
        have HE := ents_of HM1.out.1 HM1.out.2
        obtain ⟨P, P', K, K', hE, hcmp⟩ := HE
        have HRC := Lib.hid (show R = (cmpL P K P' K' == .lt) from by rw [HR.out]; unfold lt; rw [hcmp])
        have HE := Lib.hid hE
        clear hE hcmp
        go_upto_region 5 with fail
        clear e1
        go_wp2_with fail
        refine (OX.out _ HB2.out).mono ?_
        rintro e w3 ⟨⟨u1, rfl, ho1⟩, hb3⟩
        have HB3 := Lib.hid hb3
        have HO1 := Lib.hid ho1
        have Y := HY.out.on hb3
        have z0 := Y.c0
        have z1 := Y.c1
        have z2 := Y.c2
        have z3 := Y.c3
        clear Y x0 x1 x2 x3 y0 y1 y2 y3 hb3 ho1
        go_wp2_with fail
        refine (OY.out _ (below_tr HB2.out HB3.out)).mono ?_
        rintro e w4 ⟨⟨u2, rfl, ho2⟩, hb4⟩
        have HB4 := Lib.hid (below_tr HB3.out hb4)
        have HO3 := Lib.hid (HO1.out.on hb4)
        have HO4 := Lib.hid ho2
        obtain ⟨A1, c1, rfl, hc1⟩ := HO1.out.len
        obtain ⟨A2, c2, rfl, hc2⟩ := ho2.len
        have HLX := Lib.hid (show ((V.mk k t l ks).keys.length = ks.length) from rfl)
        have e5 : (ord (V.mk k t l ks).keys (V.mk k t l ks).keys.length).length = m := by rw [ord_len, HM.out]; rfl
        have e6 : (ord (V.mk k t l' ks').keys (V.mk k t l' ks').keys.length).length = m' := by rw [ord_len, HM'.out]; rfl
        have HE5 := Lib.hid e5
        have HE6 := Lib.hid e6
        rw [e5] at HO1 HO3 hc1 ⊢
        rw [e6] at HO4 hc2 ⊢
        have HPL := Lib.hid (show P.length = n from by rw [HE.out.n, HN.out])
        have HPL' := Lib.hid (show P'.length = n' from by rw [HE.out.n', HN'.out])
        clear z0 z1 z2 z3 hb4 ho2 e5 e6 HO1 OX OY
        go_wp2_with fail
        go_loopw [4, 7, 8, 9] (fun _ a _ _ wx => Hid (Below w4.heap.size w4 wx) ∧ ∃ i : Nat, i ≤ n ∧ i ≤ n' ∧ a = .int .i64 i ∧ Hid (cmpL (P.drop i) (K.drop i) (P'.drop i) (K'.drop i) = cmpL P K P' K')) (fun _ a _ _ _ => n - (intOf a).toNat)
        case atStart => exact ⟨Lib.hid (Below.refl _ _), 0, Nat.zero_le _, Nat.zero_le _, rfl, Lib.hid (by simp)⟩
        case round =>
          obtain ⟨HBR, i, hi, hi', rfl, HQ⟩ := hrel
          obtain ⟨wo, hwo⟩ : ∃ wo, wo = wr := ⟨_, rfl⟩
          subst hwo
          have HBW := Lib.hid (below_tr HB4.out HBR.out)
          have X := HX.out.on HBW.out
          have Y := HY.out.on HBW.out
          have x0 := X.c0
          have x2 := X.c2
          have y2 := Y.c2
          have HXW := Lib.hid X
          have HYW := Lib.hid Y
          clear X Y
          by_cases hlt : i < n ∧ i < n'
          · obtain ⟨hlt, hlt'⟩ := hlt
            go_upto_if 52 with fail
            clear x0 x2 y2
            go_cut [8, 9] from 53 to 82 (fun a b wx => ∃ (j j' : Nat) (x y : V), a = .int .i64 j ∧ b = .int .i64 j' ∧ j < n ∧ j' < n' ∧ Hid (Below wo.heap.size wo wx) ∧ Hid (l[j]? = some x ∧ l'[j']? = some y ∧ P[i]? = some (can x) ∧ P'[i]? = some (can y) ∧ K.getD i [] = K'.getD i []))
            case first =>
              by_cases h8 : k = 8
              · subst h8
                have hmn : ks.length = l.length := (may_parts HM1.out.1).2.2.1 rfl
                have hmn' : ks'.length = l'.length := (may_parts HM1.out.2).2.2.1 rfl
                have him : i < m := by rw [HM.out, hmn, ← HN.out]; exact hlt
                have him' : i < m' := by rw [HM'.out, hmn', ← HN'.out]; exact hlt'
                obtain ⟨j, hj, hjn⟩ := ord_at (ks := ks) (n := ks.length) (p := i) (by rw [← HM.out]; exact him)
                obtain ⟨j', hj', hjn'⟩ := ord_at (ks := ks') (n := ks'.length) (p := i) (by rw [← HM'.out]; exact him')
                obtain ⟨x, hx⟩ := get_lt (l := l) (i := j) (by omega)
                obtain ⟨y, hy⟩ := get_lt (l := l') (i := j') (by omega)
                obtain ⟨z, hz⟩ := get_lt (l := ks) (i := j) (by omega)
                obtain ⟨z', hz'⟩ := get_lt (l := ks') (i := j') (by omega)
                obtain ⟨g, cc, cur, e3, _, _, _, hg4, hg5, _, _, hg3⟩ := (HO3.out.on HBR.out).row (by rw [HE5.out]; omega)
                obtain ⟨g', cc', cur', e3', _, _, _, hg4', hg5', _, _, hg3'⟩ := (HO4.out.on HBR.out).row (by rw [HE6.out]; omega)
                rw [HE5.out] at e3 hg4
                rw [HE6.out] at e3' hg4'
                obtain ⟨rfl, rfl⟩ : A1 = some ⟨g, 0, none⟩ ∧ c1 = cc := by injection e3 with e1 _ e2; exact ⟨e1, e2⟩
                obtain ⟨rfl, rfl⟩ : A2 = some ⟨g', 0, none⟩ ∧ c2 = cc' := by injection e3' with e1 _ e2; exact ⟨e1, e2⟩
                have r1 := hg3 i j hj
                have r2 := hg3' i j' hj'
                obtain ⟨gk, ok, rfl, hgk, hfk⟩ := HKW.out (by omega)
                obtain ⟨gk', ok', rfl, hgk', hfk'⟩ := HKW'.out (by omega)
                have c5 := cell_old HBW.out hgk (hfk j z hz)
                have c6 := cell_old HBW.out hgk' (hfk' j' z' hz')
                obtain ⟨U, hU⟩ : ∃ U, U = txt z := ⟨_, rfl⟩
                obtain ⟨U', hU'⟩ : ∃ U, U = txt z' := ⟨_, rfl⟩
                rw [← hU] at c5
                rw [← hU'] at c6
                have x3 := HXW.out.c3
                have y3 := HYW.out.c3
                have hjm : j < m := by rw [HM.out]; exact hjn
                have hjm' : j' < m' := by rw [HM'.out]; exact hjn'
                have hjl : j < n := by rw [HN.out, ← hmn]; exact hjn
                have hjl' : j' < n' := by rw [HN'.out, ← hmn']; exact hjn'
                have he := tl_eq hU hU'
                have eb := bl_txt hU hU'
                have mx := HE.out.mx rfl i j x hj hx
                have my := HE.out.my rfl i j' y hj' hy
                have kz : K.getD i [] = z := by rw [mx.2, List.getD_eq_getElem?_getD, hz]; rfl
                have kz' : K'.getD i [] = z' := by rw [my.2, List.getD_eq_getElem?_getD, hz']; rfl
                have K0 := fun s : Kept wo => s.cell x3
                have K1 := fun s : Kept wo => s.cell y3
                have K2 := fun s : Kept wo => s.cell c5
                have K3 := fun s : Kept wo => s.cell c6
                by_cases hzz : z = z'
                · have HG := Lib.hid (show l[j]? = some x ∧ l'[j']? = some y ∧ P[i]? = some (can x) ∧ P'[i]? = some (can y) ∧ K.getD i [] = K'.getD i [] from ⟨hx, hy, mx.1, my.1, by rw [kz, kz', hzz]⟩)
                  have q1 : U.toList = U'.toList := he.2 hzz
                  clear he eb mx my kz kz' hzz hU hU' hx hy hz hz' hj hj' hjn hjn' hmn hmn' hfk hfk' hgk hgk' hg3 hg3' e3 e3'
                  go_upto_region 15 with fail
                  clear r1 r2 c5 c6 x3 y3
                  refine reg_lit (C := fun wx => ∃ s : Kept wo, wx = s.wx) (by kernel_rfl) (by kernel_rfl) ⟨⟨_, (Below.refl _ _).drew⟩, rfl⟩ ?_
                  iterate 11 (go_big_quiet_step (fail))
                  refine wpQuiet_nil ?_
                  rintro wc ⟨⟨wx, ox0⟩, e⟩
                  have HC := Lib.hid (show Below wo.heap.size wo wc from by rw [e]; exact ox0)
                  clear e ox0 K0 K1 K2 K3
                  go_wp2_with fail
                  go_meet
                  exact ⟨j, j', x, y, rfl, rfl, hjl, hjl', HC, HG⟩
                · have HF := Lib.hid (show R = bl z z' from by rw [HRC.out, step_key HQ.out mx.1 my.1 (by rw [kz, kz']; exact hzz), kz, kz'])
                  have q1 : ¬ U.toList = U'.toList := fun e => hzz (he.1 e)
                  have q2 : (U.toList == U'.toList) = false := beq_eq_false_iff_ne.2 q1
                  rw [← HF.out] at eb
                  clear he mx my kz kz' hzz hU hU' hx hy hz hz' hj hj' hjn hjn' hmn hmn' hfk hfk' hgk hgk' hg3 hg3' e3 e3'
                  go_upto_region 15 with fail
                  clear r1 r2 c5 c6 x3 y3
                  refine reg_lit (C := fun wx => ∃ s : Kept wo, wx = s.wx) (by kernel_rfl) (by kernel_rfl) ⟨⟨_, (Below.refl _ _).drew⟩, rfl⟩ ?_
                  iterate 11 (go_big_quiet_step (fail))
                  refine wpQuiet_nil ?_
                  rintro wc ⟨⟨wx, ox0⟩, e⟩
                  have HC := Lib.hid (show Below wo.heap.size wo wc from by rw [e]; exact ox0)
                  have hcc : ∀ {p : Addr} {v : Value}, wo.cell? p = some v → wc.cell? p = some v := fun h => (HC.out.cell (World.block_lt_of_cell? _ _ h)).trans h
                  have L0 := fun s : Kept wc => s.cell (hcc (K0 ⟨wo, Below.refl _ _⟩))
                  have L1 := fun s : Kept wc => s.cell (hcc (K1 ⟨wo, Below.refl _ _⟩))
                  have L2 := fun s : Kept wc => s.cell (hcc (K2 ⟨wo, Below.refl _ _⟩))
                  have L3 := fun s : Kept wc => s.cell (hcc (K3 ⟨wo, Below.refl _ _⟩))
                  clear e ox0 K0 K1 K2 K3 hcc
                  go_upto_region 16 with fail
                  refine reg_lit (C := fun wx => ∃ s : Kept wc, wx = s.wx) (by kernel_rfl) (by kernel_rfl) ⟨⟨_, (Below.refl _ _).drew⟩, rfl⟩ ?_
                  iterate 12 (go_big_quiet_step (fail))
                  refine wpQuiet_nil ?_
                  rintro wd ⟨⟨wx, ox0⟩, e⟩
                  have HD := Lib.hid (show Below w.heap.size w wd from by rw [e]; exact below_tr (below_tr HB2.out HBW.out) (below_tr HC.out ox0))
                  clear e ox0 L0 L1 L2 L3
                  go_wp2_with fail
                  go_ret
                  exact ⟨rfl, HD.out⟩
              · have f8 : ((k : Int) == 8) = false := beq_eq_false_iff_ne.2 (by omega)
                obtain ⟨x, hx⟩ := get_lt (l := l) (i := i) (by rw [← HN.out]; exact hlt)
                obtain ⟨y, hy⟩ := get_lt (l := l') (i := i) (by rw [← HN'.out]; exact hlt')
                have HG := Lib.hid (show l[i]? = some x ∧ l'[i]? = some y ∧ P[i]? = some (can x) ∧ P'[i]? = some (can y) ∧ K.getD i [] = K'.getD i [] from ⟨hx, hy, HE.out.lx h8 i x hx, HE.out.ly h8 i y hy, by rw [(HE.out.li h8).1, (HE.out.li h8).2]⟩)
                clear h8 hx hy
                go_wp2_with fail
                go_meet
                exact ⟨i, i, x, y, rfl, rfl, hlt, hlt', Lib.hid (Below.refl _ _), HG⟩
            case rest =>
              obtain ⟨j, j', x, y, rfl, rfl, hj, hj', HBC, HG⟩ := hcut
              have HBX := Lib.hid (below_tr HBW.out HBC.out)
              obtain ⟨g, o, rfl, hg, hf⟩ := HVW.out (by rw [← HN.out]; omega)
              obtain ⟨g', o', rfl, hg', hf'⟩ := HVW'.out (by rw [← HN'.out]; omega)
              obtain ⟨v0, v1, v2, v3, d0, d1, d2, d3, hvm⟩ := hf j x HG.out.1
              obtain ⟨u0, u1, u2, u3, q0, q1, q2, q3, hum⟩ := hf' j' y HG.out.2.1
              have X := HXW.out.on HBC.out
              have Y := HYW.out.on HBC.out
              have z2 := X.c2
              have w2 := Y.c2
              have c0 := cell_old HBX.out hg d0
              have c1 := cell_old HBX.out hg d1
              have c2 := cell_old HBX.out hg d2
              have c3 := cell_old HBX.out hg d3
              have b0 := cell_old HBX.out hg' q0
              have b1 := cell_old HBX.out hg' q1
              have b2 := cell_old HBX.out hg' q2
              have b3 := cell_old HBX.out hg' q3
              have K0 := fun s : Kept wc => s.cell c0
              have K1 := fun s : Kept wc => s.cell c1
              have K2 := fun s : Kept wc => s.cell c2
              have K3 := fun s : Kept wc => s.cell c3
              have L0 := fun s : Kept wc => s.cell b0
              have L1 := fun s : Kept wc => s.cell b1
              have L2 := fun s : Kept wc => s.cell b2
              have L3 := fun s : Kept wc => s.cell b3
              have M2 := fun s : Kept wc => s.cell z2
              have M3 := fun s : Kept wc => s.cell w2
              have CS := Lib.hid (fun s : Kept wc => IS.out j j' x y HG.out.1 HG.out.2.1 s.wx _ _ (hvm.on (below_tr HBX.out s.held)) (hum.on (below_tr HBX.out s.held)))
              have CI := Lib.hid (fun s : Kept wc => IH.out j j' x y HG.out.1 HG.out.2.1 s.wx _ _ (hvm.on (below_tr HBX.out s.held)) (hum.on (below_tr HBX.out s.held)))
              obtain ⟨z, hz⟩ : ∃ z, z = sm x y := ⟨_, rfl⟩
              rw [← hz] at CS
              have HZ := Lib.hid hz
              clear c0 c1 c2 c3 b0 b1 b2 b3 d0 d1 d2 d3 q0 q1 q2 q3 hvm hum hf hf' hz X Y z2 w2
              go_upto_region 17 with fail
              refine reg_lit (C := fun wx => ∃ s : Kept wc, wx = s.wx) (by kernel_rfl) (by kernel_rfl) ⟨⟨_, (Below.refl _ _).drew⟩, rfl⟩ ?_
              iterate 10 (go_big_quiet_step (fail))
              go_big_quiet_want
              go_big_quiet_op
              refine ⟨.bool z, fun s => (CS.out s).mono ?_, ?_⟩
              · rintro e w3 ⟨rfl, hb⟩; exact Kept.out hb
              go_big_quiet_on
              iterate 1 (go_big_quiet_step (fail))
              refine wpQuiet_nil ?_
              rintro wd ⟨sd, e⟩
              have HD := Lib.hid (show Below wc.heap.size wc wd from by rw [e]; exact sd.held)
              clear e
              cases z with
              | true =>
                have HE2 := Lib.hid (step_eq HQ.out HG.out.2.2.1 HG.out.2.2.2.1 HG.out.2.2.2.2 (sm_iff.1 HZ.out.symm))
                have HB5 := Lib.hid (show Below w4.heap.size w4 wd from below_tr HBR.out (below_tr HBC.out HD.out))
                clear K0 K1 K2 K3 L0 L1 L2 L3 M2 M3 CS CI
                go_wp2_with fail
                go_roundw
                case rel => exact ⟨HB5, i + 1, by omega, by omega, by go_num, HE2⟩
                case measure => simp [intOf]; omega
              | false =>
                have HF := Lib.hid (show R = lt x y from by
                  rw [HRC.out, step_val HQ.out HG.out.2.2.1 HG.out.2.2.2.1 HG.out.2.2.2.2 (fun e => by have := sm_iff.2 e; rw [← HZ.out] at this; cases this)]; rfl)
                obtain ⟨q, hq⟩ : ∃ q, q = lt x y := ⟨_, rfl⟩
                rw [← hq] at CI HF
                clear hq
                have hcc : ∀ (s : Kept wd), ∃ s' : Kept wc, s'.wx = s.wx := fun s => ⟨⟨s.wx, below_tr HD.out s.held⟩, rfl⟩
                have J0 : ∀ s : Kept wd, _ := fun s => K0 ⟨s.wx, below_tr HD.out s.held⟩
                have J1 : ∀ s : Kept wd, _ := fun s => K1 ⟨s.wx, below_tr HD.out s.held⟩
                have J2 : ∀ s : Kept wd, _ := fun s => K2 ⟨s.wx, below_tr HD.out s.held⟩
                have J3 : ∀ s : Kept wd, _ := fun s => K3 ⟨s.wx, below_tr HD.out s.held⟩
                have I0 : ∀ s : Kept wd, _ := fun s => L0 ⟨s.wx, below_tr HD.out s.held⟩
                have I1 : ∀ s : Kept wd, _ := fun s => L1 ⟨s.wx, below_tr HD.out s.held⟩
                have I2 : ∀ s : Kept wd, _ := fun s => L2 ⟨s.wx, below_tr HD.out s.held⟩
                have I3 : ∀ s : Kept wd, _ := fun s => L3 ⟨s.wx, below_tr HD.out s.held⟩
                have H2 : ∀ s : Kept wd, _ := fun s => M2 ⟨s.wx, below_tr HD.out s.held⟩
                have H3 : ∀ s : Kept wd, _ := fun s => M3 ⟨s.wx, below_tr HD.out s.held⟩
                have CJ := Lib.hid (fun s : Kept wd => CI.out ⟨s.wx, below_tr HD.out s.held⟩)
                clear K0 K1 K2 K3 L0 L1 L2 L3 M2 M3 CS CI hcc
                simp only at J0 J1 J2 J3 I0 I1 I2 I3 H2 H3 CJ
                go_upto_region 18 with fail
                refine reg_lit (C := fun wx => ∃ s : Kept wd, wx = s.wx) (by kernel_rfl) (by kernel_rfl) ⟨⟨_, (Below.refl _ _).drew⟩, rfl⟩ ?_
                iterate 10 (go_big_quiet_step (fail))
                go_big_quiet_want
                go_big_quiet_op
                refine ⟨.bool q, fun s => (CJ.out s).mono ?_, ?_⟩
                · rintro e w3 ⟨rfl, hb⟩; exact Kept.out hb
                go_big_quiet_on
                iterate 1 (go_big_quiet_step (fail))
                refine wpQuiet_nil ?_
                rintro we ⟨⟨wx, ox0⟩, e⟩
                have HX9 := Lib.hid (show Below w.heap.size w we from by rw [e]; exact below_tr (below_tr HB2.out HBX.out) (below_tr HD.out ox0))
                clear e ox0 J0 J1 J2 J3 I0 I1 I2 I3 H2 H3 CJ
                go_wp2_with fail
                go_ret
                exact ⟨ret_bool HF.out.symm, HX9.out⟩
          · have HF := Lib.hid (show R = decide (n < n') from by
              have := step_end HQ.out (by rw [HPL.out]; exact hi) (by rw [HPL'.out]; exact hi') (by rw [HPL.out, HPL'.out]; omega)
              rw [HPL.out, HPL'.out] at this
              rw [HRC.out, this])
            have HBF := Lib.hid (below_tr HB2.out HBW.out)
            have HDC := Lib.hid (show decide ((n : Int) < (n' : Int)) = decide (n < n') from decide_eq_decide.2 (by omega))
            by_cases h1 : i < n
            · obtain rfl : i = n' := by omega
              go_wp2_with fail
              go_ret
              exact ⟨ret_bool (by rw [HF.out]; try simp), HBF.out⟩
            · obtain rfl : i = n := by omega
              go_wp2_with fail
              go_ret
              exact ⟨ret_bool (by rw [HF.out]; try simp), HBF.out⟩
      · have HF := Lib.hid (show R = bl t t' from by rw [HR.out]; exact lt_text et)
        have f1 : ¬ T.toList = T'.toList := fun e => et (HTE.out.1 e)
        have f2 : (T.toList == T'.toList) = false := beq_eq_false_iff_ne.2 f1
        clear et
        go_wp2_with fail
        go_ret
        exact ⟨ret_bool (by rw [HTL.out, HF.out]), HB2.out⟩
    · have HF := Lib.hid (show R = decide (k < k') from by rw [HR.out]; exact lt_kind ek)
      have f1 : ((k : Int) != (k' : Int)) = true := bne_iff_ne.2 (by omega)
      clear ek
      go_wp2_with fail
      go_ret
      exact ⟨ret_bool (by rw [HF.out]; try exact decide_eq_decide.2 (by omega)), HB2.out⟩
end Va
end Go.Proofs.YtnnlgodgaolkkaaGreatDoor
/- The document's: how two values stand. -/
namespace Go.Proofs.YtnnlgodgaolkkaaGreatDoor
open Go.RowKit
namespace Va

/-- How two values stand, if both may be. -/
def cI (a b : Bool) (o : Int) : Int := bif a && b then o else 0
def oI : Ordering → Int
  | .lt => -1
  | .eq => 0
  | .gt => 1
set_option maxHeartbeats 4000000 in
set_option maxRecDepth 100000 in
theorem rCmp_any {x y : V} {v u : Value} (w : World) (hx : wt x ≤ 1000000000000) (hy : wt y ≤ 1000000000000) (hv : Vm w v x) (hu : Vm w u y) :
    Calls Tryz.prog 13 #[v, u] w fun e w' => e = .returned (.int .i64 (cI (may x) (may y) (oI (cmpV (can x) (can y))))) ∧ Below w.heap.size w w' := by
  have CX := Lib.hid (fun (w' : World) (hb : Below w.heap.size w w') => rmay_any w' hx (hv.on hb))
  have CY := Lib.hid (fun (w' : World) (hb : Below w.heap.size w w') => rmay_any w' hy (hu.on hb))
  have CS := Lib.hid (fun (h1 : may x = true) (h2 : may y = true) (w' : World) (hb : Below w.heap.size w w') => rsame_any 1000000000000 x y hx (Nat.le_refl _) hy h1 h2 w' v u (hv.on hb) (hu.on hb))
  have CA := Lib.hid (fun (h1 : may x = true) (h2 : may y = true) (w' : World) (hb : Below w.heap.size w w') => rahead_any 1000000000000 x y hx (Nat.le_refl _) hy h1 h2 w' v u (hv.on hb) (hu.on hb))
  obtain ⟨o, ho⟩ : ∃ o, o = cmpV (can x) (can y) := ⟨_, rfl⟩
  have HSO := Lib.hid (show sm x y = (o == .eq) from by rw [ho]; rfl)
  have HLO := Lib.hid (show lt x y = (o == .lt) from by rw [ho]; rfl)
  obtain ⟨a, ha⟩ : ∃ a, a = may x := ⟨_, rfl⟩
  obtain ⟨b, hb⟩ : ∃ b, b = may y := ⟨_, rfl⟩
  rw [← ha, ← hb, HSO.out] at CS
  rw [← ha, ← hb, HLO.out] at CA
  rw [← ha] at CX
  rw [← hb] at CY
  rw [← ha, ← hb, ← ho]
  clear ha hb ho hx hy HSO HLO
  obtain ⟨k, t, l, ks⟩ := x
  obtain ⟨A, B, c, d, rfl, hk, hl, hc, hA, hd, hd2, hB, hK, hV⟩ := hv.inv
  obtain ⟨k', t', l', ks'⟩ := y
  obtain ⟨A', B', c', d', rfl, hk', hl', hc', hA', hd', hd2', hB', hK', hV'⟩ := hu.inv
  obtain ⟨T, hT⟩ : ∃ T, T = txt t := ⟨_, rfl⟩
  obtain ⟨T', hT'⟩ : ∃ T, T = txt t' := ⟨_, rfl⟩
  obtain ⟨n, hn⟩ : ∃ n, n = l.length := ⟨_, rfl⟩
  obtain ⟨n', hn'⟩ : ∃ n, n = l'.length := ⟨_, rfl⟩
  obtain ⟨m, hm⟩ : ∃ n, n = ks.length := ⟨_, rfl⟩
  obtain ⟨m', hm'⟩ : ∃ n, n = ks'.length := ⟨_, rfl⟩
  rw [← hT, ← hn, ← hm] at CX CS CA ⊢
  rw [← hT', ← hn', ← hm'] at CY CS CA ⊢
  obtain ⟨W1, hW1⟩ : ∃ W, W = w.alloc (vO (.int .u8 k) (.string T) (.slice A n c) (.slice B m d)) := ⟨_, rfl⟩
  obtain ⟨W2, hW2⟩ : ∃ W, W = W1.alloc (vO (.int .u8 k') (.string T') (.slice A' n' c') (.slice B' m' d')) := ⟨_, rfl⟩
  have hb1 : Below w.heap.size w W1 := by rw [hW1]; exact below_new ..
  have hb2 : Below W1.heap.size W1 W2 := by rw [hW2]; exact below_new ..
  have HX := Lib.hid (show Bx W2 w.heap.size (.int .u8 k) (.string T) (.slice A n c) (.slice B m d) from (show Bx W1 w.heap.size (.int .u8 k) (.string T) (.slice A n c) (.slice B m d) from by rw [hW1]; exact Bx.new ..).on hb2)
  have HY := Lib.hid (show Bx W2 W1.heap.size (.int .u8 k') (.string T') (.slice A' n' c') (.slice B' m' d') from by rw [hW2]; exact Bx.new ..)
  have HB2 := Lib.hid (below_tr hb1 hb2)
  have HSZ := Lib.hid (show w.heap.size + 1 = W1.heap.size by rw [hW1]; show _ = (w.heap.push _).size; rw [Array.size_push])
  have HW1 := Lib.hid hW1
  have HW2 := Lib.hid hW2
  clear hW1 hW2 hb1 hb2 hn hn' hm hm' hT hT' hK hV hK' hV' hv hu hl hl' hd hd' hc hc' hd2 hd2' hA hA' hB hB'
  go_enter Tryz.func13, Tryz.ntmps13
  go_upto_region 1 with fail
  rw [← HW1.out, ← HW2.out]
  obtain ⟨h2, hh2⟩ : ∃ h, h = w.heap.size + 1 := ⟨_, rfl⟩
  rw [← HSZ.out, ← hh2] at HY
  rw [← hh2]
  obtain ⟨h1, hh1⟩ : ∃ h, h = w.heap.size := ⟨_, rfl⟩
  rw [← hh1] at HX ⊢
  clear HW1 HW2 HSZ hh1 hh2
  obtain ⟨x0, x1, x2, x3⟩ : W2.cell? ⟨h1, 0, none⟩ = some (.int .u8 k) ∧ W2.cell? ⟨h1, 1, none⟩ = some (.string T) ∧ W2.cell? ⟨h1, 2, none⟩ = some (.slice A n c) ∧ W2.cell? ⟨h1, 3, none⟩ = some (.slice B m d) := ⟨HX.out.c0, HX.out.c1, HX.out.c2, HX.out.c3⟩
  go_wp2_with fail
  refine (CX.out _ HB2.out).mono ?_
  rintro e w3 ⟨rfl, hb⟩
  have X := HX.out.on hb
  have Y := HY.out.on hb
  have HB3 := Lib.hid (below_tr HB2.out hb)
  clear x0 x1 x2 x3 hb
  cases a with
  | false =>
    go_wp2_with fail
    go_ret
    exact ⟨ret_int (by simp [oI, cI]), HB3.out⟩
  | true =>
    have y0 := Y.c0
    have y1 := Y.c1
    have y2 := Y.c2
    have y3 := Y.c3
    have HX3 := Lib.hid X
    have HY3 := Lib.hid Y
    clear X Y HX HY
    go_wp2_with fail
    refine (CY.out _ HB3.out).mono ?_
    rintro e w4 ⟨rfl, hb⟩
    have X := HX3.out.on hb
    have Y := HY3.out.on hb
    have HB4 := Lib.hid (below_tr HB3.out hb)
    clear y0 y1 y2 y3 hb
    cases b with
    | false =>
      go_wp2_with fail
      go_ret
      exact ⟨ret_int (by simp [oI, cI]), HB4.out⟩
    | true =>
      have y0 := Y.c0
      have y1 := Y.c1
      have y2 := Y.c2
      have y3 := Y.c3
      have x0 := X.c0
      have x1 := X.c1
      have x2 := X.c2
      have x3 := X.c3
      have HX4 := Lib.hid X
      have HY4 := Lib.hid Y
      clear X Y HX3 HY3
      go_wp2_with fail
      refine (CS.out (by first | rfl | trivial) (by first | rfl | trivial) _ HB4.out).mono ?_
      rintro e w5 ⟨rfl, hb⟩
      have X := HX4.out.on hb
      have Y := HY4.out.on hb
      have HB5 := Lib.hid (below_tr HB4.out hb)
      clear hb x0 x1 x2 x3 y0 y1 y2 y3
      have y0 := Y.c0
      have y1 := Y.c1
      have y2 := Y.c2
      have y3 := Y.c3
      have x0 := X.c0
      have x1 := X.c1
      have x2 := X.c2
      have x3 := X.c3
      clear X Y
      cases o with
      | eq =>
        go_wp2_with fail
        go_ret
        exact ⟨ret_int (by simp [oI, cI]), HB5.out⟩
      | lt =>
        go_wp2_with fail
        refine (CA.out (by first | rfl | trivial) (by first | rfl | trivial) _ HB5.out).mono ?_
        rintro e w6 ⟨rfl, hb⟩
        have HB6 := Lib.hid (below_tr HB5.out hb)
        clear hb
        go_wp2_with fail
        go_ret
        exact ⟨ret_int (by simp [oI, cI]), HB6.out⟩
      | gt =>
        go_wp2_with fail
        refine (CA.out (by first | rfl | trivial) (by first | rfl | trivial) _ HB5.out).mono ?_
        rintro e w6 ⟨rfl, hb⟩
        have HB6 := Lib.hid (below_tr HB5.out hb)
        clear hb
        go_wp2_with fail
        go_ret
        exact ⟨ret_int (by simp [oI, cI]), HB6.out⟩
end Va
end Go.Proofs.YtnnlgodgaolkkaaGreatDoor
/- What the laws of values ask of lists: sizes, parts, a map with an entry put at its end, lists of two. -/
namespace Go.Proofs.YtnnlgodgaolkkaaGreatDoor
open Go.RowKit
namespace Va

theorem perm_ord {α : Type} (l : List α) (d : α) (ks : List Bs) (h : ks.length = l.length) : ((ord ks ks.length).map fun j => l.getD j d).Perm l := by
  have p := (ord_perm ks ks.length).map fun j => l.getD j d
  rw [h, range_get l d] at p
  rw [h]; exact p
mutual
theorem sz_can : ∀ {x : V}, pl x = true → sz (can x) = sz x
  | .mk k t l ks, h => by
    rw [pl, Bool.and_eq_true] at h
    have hh := of_decide_eq_true h.1
    have ih := szL_can h.2
    by_cases h8 : k = 8
    · subst h8
      rw [can_map, sz, sz, szL_perm (perm_ord (canL l) v0 ks (by rw [canL_len]; exact hh.2.2.2.2.1 rfl)), ih]
    · rw [can_no h8, sz, sz, ih]
theorem szL_can : ∀ {l : List V}, plL l = true → szL (canL l) = szL l
  | [], _ => by rw [canL]
  | x :: r, h => by
    rw [plL, Bool.and_eq_true] at h
    rw [canL, szL, szL, sz_can h.1, szL_can h.2]
end
theorem sz_sm {x y : V} (hx : pl x = true) (hy : pl y = true) (h : sm x y = true) : sz x = sz y := by rw [← sz_can hx, ← sz_can hy, (sm_can hx hy).1 h]
theorem sz_sub {k : Nat} {t : Bs} {l : List V} {ks : List Bs} {i : Nat} {x : V} (h : l[i]? = some x) : sz x < sz (.mk k t l ks) := by
  have : sz x ≤ szL l := by
    clear ks t k
    induction l generalizing i with
    | nil => simp at h
    | cons y r ih =>
      cases i with
      | zero => obtain rfl : y = x := by simpa using h
                rw [szL]; omega
      | succ i => have := ih (by simpa using h); rw [szL]; omega
  rw [sz]; omega
theorem dp_sub {t : Bs} {l : List V} {ks : List Bs} {i : Nat} {x : V} (h : l[i]? = some x) : dp x < dp (.mk 8 t l ks) := by
  have := dpL_get h
  rw [dp, if_pos (.inr rfl)]; omega
/-- The entries but one, and that one at the end. -/
def mvE {α : Type} (l : List α) (i : Nat) (x : α) : List α := l.take i ++ l.drop (i + 1) ++ [x]
theorem mvE_perm {α : Type} {l : List α} {i : Nat} {x : α} (h : l[i]? = some x) : (mvE l i x).Perm l := by
  have hl := List.getElem?_eq_some_iff.1 h
  have e : l.take i ++ x :: l.drop (i + 1) = l := by
    rw [← hl.2, ← List.drop_eq_getElem_cons hl.1, List.take_append_drop]
  have p : (mvE l i x).Perm (l.take i ++ x :: l.drop (i + 1)) := by
    unfold mvE
    rw [List.append_assoc]
    exact List.Perm.append_left _ (List.perm_append_singleton x _)
  rwa [e] at p
theorem mvE_len {α : Type} {l : List α} {i : Nat} {x : α} (h : l[i]? = some x) : (mvE l i x).length = l.length := (mvE_perm h).length_eq
/-- Which place an entry came from. -/
theorem mvE_at {α : Type} {l : List α} {i p : Nat} {x : α} (h : i < l.length) (hp : p < l.length) (hx : l[i]? = some x) : (mvE l i x)[p]? = l[if p < i then p else if p + 1 < l.length then p + 1 else i]? := by
  unfold mvE
  have h1 : (l.take i).length = i := by simp; omega
  have h2 : (l.take i ++ l.drop (i + 1)).length = l.length - 1 := by simp; omega
  split
  · rw [List.append_assoc, List.getElem?_append_left (by omega), List.getElem?_take, if_pos (by assumption)]
  · split
    · rw [List.getElem?_append_left (by omega), List.getElem?_append_right (by omega), h1, List.getElem?_drop]
      congr 1; omega
    · rw [List.getElem?_append_right (by omega), h2, hx]
      have : p - (l.length - 1) = 0 := by omega
      rw [this]; rfl
/-- The map with an entry put in again, at the end, is the same, and may be. -/
theorem mv_ok {t : Bs} {l : List V} {ks : List Bs} {i : Nat} {s : Bs} {x : V} (hm : may (.mk 8 t l ks) = true) (hs : ks[i]? = some s) (hx : l[i]? = some x) :
    may (.mk 8 t (mvE l i x) (mvE ks i s)) = true ∧ sm (.mk 8 t (mvE l i x) (mvE ks i s)) (.mk 8 t l ks) = true ∧ wt (.mk 8 t (mvE l i x) (mvE ks i s)) = wt (.mk 8 t l ks) := by
  have hp := may_pl hm
  have hd2 := may_dp hm
  rw [pl, Bool.and_eq_true] at hp
  have hh := of_decide_eq_true hp.1
  have e := hh.2.2.2.2.1 rfl
  have hd := hh.2.2.2.2.2
  have P1 := mvE_perm hx
  have P2 := mvE_perm hs
  have n1 := mvE_len hx
  have n2 := mvE_len hs
  refine ⟨may_of ?_ ?_, ?_, ?_⟩
  · rw [pl, Bool.and_eq_true]
    exact ⟨decide_eq_true ⟨hh.1, .inl rfl, .inl (by omega), hh.2.2.2.1, fun _ => by rw [n1, n2, e], P2.nodup_iff.2 hd⟩, by rw [plL_perm P1]; exact hp.2⟩
  · rw [dp, if_pos (.inr rfl)] at hd2 ⊢
    rw [dpL_perm P1]; exact hd2
  · refine sm_ent hd (P2.nodup_iff.2 hd) e (by rw [n1, n2, e]) n1 fun p r y hr hy => ?_
    have hpl : p < ks.length := by rw [← n2]; exact (List.getElem?_eq_some_iff.1 hr).1
    have hi := (List.getElem?_eq_some_iff.1 hs).1
    rw [mvE_at hi hpl hs] at hr
    rw [mvE_at (by omega) (by omega) hx] at hy
    rw [← e] at hy
    exact ⟨_, y, hr, hy, sm_self⟩
  · rw [wt, wt, n2, kw_perm P2, wtL_perm P1]
/-- Without its entry a map has no such key. -/
theorem gone_ok {ks : List Bs} {i : Nat} {s : Bs} (hd : ks.Nodup) (hs : ks[i]? = some s) : fnd (ks.take i ++ ks.drop (i + 1)) s = none := by
  refine fnd_none fun j hj e => ?_
  have hl := List.getElem?_eq_some_iff.1 hs
  have hi := hl.1
  have h1 : (ks.take i).length = i := by simp; omega
  have key : ∀ q, ks[q]? = some s → q = i := fun q hq => by
    have h2 := List.getElem?_eq_some_iff.1 hq
    exact key_inj hd h2.1 hi (by rw [List.getD_eq_getElem?_getD, List.getD_eq_getElem?_getD, hs, hq])
  rcases Nat.lt_or_ge j i with h | h
  · rw [List.getElem?_append_left (by omega), List.getElem?_take, if_pos h] at e
    have := key _ e; omega
  · rw [List.getElem?_append_right (by omega), h1, List.getElem?_drop] at e
    have := key _ e; omega
/-- Lists of two. -/
theorem two_may {a b : V} (ha : may a = true) (hb : may b = true) (h1 : dp a ≤ 250) (h2 : dp b ≤ 250) : may (.mk 7 [] [a, b] []) = true := by
  refine may_of ?_ ?_
  · have hp : plH 7 [] [a, b].length [] = true := decide_eq_true ⟨by omega, .inr rfl, .inl (by omega), rfl, fun q => absurd q (by decide), List.nodup_nil⟩
    rw [pl, hp, plL, plL, may_pl ha, may_pl hb]; rfl
  · rw [dp, if_pos (.inl rfl), dpL, dpL, dpL]; omega
theorem two_cmp (a b : V) : cmpV (can (.mk 7 [] [a, b] [])) (can (.mk 7 [] [b, a] [])) = cmpV (can a) (can b) := by
  rw [can_no (by decide), can_no (by decide), cmp_head ⟨rfl, rfl⟩]
  have e : ∀ x y : V, canL [x, y] = [can x, can y] := fun x y => by rw [canL, canL, canL]
  rw [e, e, cmpL, cmpL, cmpL, bcmp_self, bcmp_self, cmpV_swap (can a) (can b)]
  cases cmpV (can a) (can b) <;> rfl
theorem two_sz (a b : V) : sz (.mk 7 [] [a, b] []) = sz a + sz b + 1 := by rw [sz, szL, szL, szL]; omega
theorem two_wt (a b : V) : wt (.mk 7 [] [a, b] []) = wt a + wt b + 1 := by simp [wt, wtL, kw]; omega
/-- How three values stand. -/
theorem oI_eq {o : Ordering} : oI o = 0 ↔ o = .eq := by cases o <;> simp [oI]
theorem oI_swap (o : Ordering) : oI o.swap = - oI o := by cases o <;> rfl
theorem oI_bd (o : Ordering) : -1 ≤ oI o ∧ oI o ≤ 1 := by cases o <;> simp [oI]
theorem tri_int {a b c : Ordering} (h : Tri a b c) : (oI a ≤ 0 → oI b ≤ 0 → oI c ≤ 0 ∧ (oI c = 0 → oI a = 0 ∧ oI b = 0)) ∧ (oI a = 0 → oI c = oI b) := by
  obtain ⟨h1, h2, h3, h4⟩ := h
  cases a <;> cases b <;> cases c <;> simp_all [oI]
end Va
end Go.Proofs.YtnnlgodgaolkkaaGreatDoor
/- The document's: a value's text. -/
namespace Go.Proofs.YtnnlgodgaolkkaaGreatDoor
open Go.RowKit
namespace Va

theorem ret_s {a b : ByteArray} (h : a = b) : Ending.returned (.string a) = .returned (.string b) := by rw [h]
theorem app_cms {S R : ByteArray} {Z t : Bs} (hS : S = txt Z) (hR : R = txt t) : S ++ ⟨#[44]⟩ ++ R = txt (Z ++ 44 :: t) := by
  rw [hS, hR, show (⟨#[44]⟩ : ByteArray) = txt [44] from rfl, txt_app, txt_app]; simp
theorem app_ent {S K R : ByteArray} {Z k t : Bs} (hS : S = txt Z) (hK : K = txt (Qu.wrq k)) (hR : R = txt t) : S ++ ⟨#[44]⟩ ++ K ++ ⟨#[58]⟩ ++ R = txt (Z ++ 44 :: ent k t) := by
  rw [hS, hK, hR, show (⟨#[44]⟩ : ByteArray) = txt [44] from rfl, show (⟨#[58]⟩ : ByteArray) = txt [58] from rfl, txt_app, txt_app, txt_app, txt_app]
  unfold ent; simp
theorem shut_some {S : ByteArray} {Z : Bs} (a b : UInt8) (hS : S = txt Z) : ⟨#[a]⟩ ++ S.extract 1 S.size ++ ⟨#[b]⟩ = txt (a :: (Z.drop 1 ++ [b])) := by
  rw [hS, txt_cut, txt_size, List.take_length, show (⟨#[a]⟩ : ByteArray) = txt [a] from rfl, show (⟨#[b]⟩ : ByteArray) = txt [b] from rfl, txt_app, txt_app]; simp
theorem shut_none {S : ByteArray} {Z : Bs} (a b : UInt8) (hS : S = txt Z) (h : ¬ 0 < S.size) : ⟨#[a]⟩ ++ S ++ ⟨#[b]⟩ = txt (a :: (Z.drop 1 ++ [b])) := by
  have : Z = [] := List.eq_nil_of_length_eq_zero (by rw [hS, txt_size] at h; omega)
  subst this
  rw [hS, show (⟨#[a]⟩ : ByteArray) = txt [a] from rfl, show (⟨#[b]⟩ : ByteArray) = txt [b] from rfl, txt_app, txt_app]; simp
set_option maxHeartbeats 16000000 in
set_option maxRecDepth 100000 in
theorem rtext_any : ∀ (N : Nat) (x : V), wt x ≤ N → N ≤ 1000000 → pl x = true → ∀ (w : World) (v : Value), Vm w v x →
    Calls Tryz.prog 41 #[v] w fun e w' => e = .returned (.string (txt (te x))) ∧ Below w.heap.size w w'
  | 0, x, hx, _, _, _, _, _ => by have := wt_pos x; omega
  | N + 1, .mk k t l ks, hx, hN, hp, w, v, hv => by
    have OX := Lib.hid (fun (w' : World) (hb : Below w.heap.size w w') => rord_any w' (show wt (.mk k t l ks) ≤ 1000000000000 by omega) (hv.on hb))
    obtain ⟨A, B, c, d, rfl, hk, hl, hc, hA, hd, hd2, hB, hK, hV⟩ := hv.inv
    have hp2 := hp
    rw [pl, Bool.and_eq_true] at hp2
    have HH := Lib.hid (of_decide_eq_true hp2.1)
    have HPL := Lib.hid hp2.2
    have IH := Lib.hid (fun (i : Nat) (x : V) (hi : l[i]? = some x) (w : World) (v : Value) (h : Vm w v x) => rtext_any N x (by have := wt_sub (k := k) (t := t) (ks := ks) hi; omega) (by omega) (plL_get hp2.2 hi) w v h)
    have HSL := Lib.hid (fun (i : Nat) (x : V) (hi : l[i]? = some x) => show (te x).length ≤ 8000000 by have := te_len (plL_get hp2.2 hi); have := wt_sub (k := k) (t := t) (ks := ks) hi; omega)
    have HTL := Lib.hid (show (te (.mk k t l ks)).length ≤ 8000000 by have := te_len hp; omega)
    obtain ⟨T, hT⟩ : ∃ T, T = txt t := ⟨_, rfl⟩
    have HWR := Lib.hid (fun (w' : World) => rwrite_any w' hT (by rw [wt] at hx; omega))
    have HWK := Lib.hid (fun (w' : World) (i : Nat) (s : Bs) (hi : ks[i]? = some s) (S : ByteArray) (hS : S = txt s) => rwrite_any w' hS (by
      have h1 : s.length ≤ kw ks := by
        have e := kw_app (ks.take i) (ks.drop i)
        rw [List.take_append_drop, kw_drop hi] at e; omega
      rw [wt] at hx; omega))
    have HKL := Lib.hid (fun (i : Nat) (s : Bs) (hi : ks[i]? = some s) => show (Qu.wrq s).length ≤ 8000000 by
      have h1 : s.length ≤ kw ks := by
        have e := kw_app (ks.take i) (ks.drop i)
        rw [List.take_append_drop, kw_drop hi] at e; omega
      have := wrq_len s
      rw [wt] at hx; omega)
    obtain ⟨n, HN⟩ : ∃ n, Hid (n = l.length) := ⟨_, Lib.hid rfl⟩
    obtain ⟨m, HM⟩ : ∃ m, Hid (m = ks.length) := ⟨_, Lib.hid rfl⟩
    obtain ⟨Y, hY⟩ : ∃ Y, Y = te (.mk k t l ks) := ⟨_, rfl⟩
    rw [← HN.out, ← HM.out, ← hT] at OX
    rw [← HN.out, ← HM.out, ← hT, ← hY]
    rw [← HN.out] at hl
    rw [← HM.out] at hd
    have hn5 : n ≤ 1000000000000 := by rw [HN.out]; have := wtL_len l; rw [wt] at hx; omega
    have hm5 : m ≤ 1000000000000 := by rw [HM.out]; rw [wt] at hx; omega
    have HYE := Lib.hid (show Y = if k = 0 then [110, 117, 108, 108] else if k = 3 then Qu.wrq t else if k = 7 then 91 :: ((cms (teL l)).drop 1 ++ [93])
      else if k = 8 then 123 :: ((cms ((ord ks ks.length).map fun j => ent (ks.getD j []) ((teL l).getD j []))).drop 1 ++ [125]) else t by rw [hY, te])
    rw [← hY] at HTL
    obtain ⟨W1, hW1⟩ : ∃ W, W = w.alloc (vO (.int .u8 k) (.string T) (.slice A n c) (.slice B m d)) := ⟨_, rfl⟩
    have HX := Lib.hid (show Bx W1 w.heap.size (.int .u8 k) (.string T) (.slice A n c) (.slice B m d) from by rw [hW1]; exact Bx.new ..)
    have HB1 := Lib.hid (show Below w.heap.size w W1 from by rw [hW1]; exact below_new ..)
    have HV := Lib.hid (hV.on HB1.out)
    have HK := Lib.hid (hK.on HB1.out)
    have HW1 := Lib.hid hW1
    have HTT := Lib.hid hT
    clear hT hK hV hx hN hv hp hp2 hY hW1
    go_enter Tryz.func41, Tryz.ntmps41
    go_upto_region 1 with fail
    rw [← HW1.out]
    obtain ⟨h, hh⟩ : ∃ h, h = w.heap.size := ⟨_, rfl⟩
    rw [← hh] at HX ⊢
    clear HW1 hh
    obtain ⟨x0, x1, x2, x3⟩ : W1.cell? ⟨h, 0, none⟩ = some (.int .u8 k) ∧ W1.cell? ⟨h, 1, none⟩ = some (.string T) ∧ W1.cell? ⟨h, 2, none⟩ = some (.slice A n c) ∧ W1.cell? ⟨h, 3, none⟩ = some (.slice B m d) := ⟨HX.out.c0, HX.out.c1, HX.out.c2, HX.out.c3⟩
    by_cases k0 : k = 0
    · subst k0
      have HE := Lib.hid (show (⟨#[110, 117, 108, 108]⟩ : ByteArray) = txt Y from by rw [HYE.out, if_pos rfl]; rfl)
      go_wp2_with fail
      go_ret
      exact ⟨ret_s HE.out, HB1.out⟩
    by_cases k3 : k = 3
    · subst k3
      have HE := Lib.hid (show Qu.wrq t = Y from by rw [HYE.out, if_neg (by decide), if_pos rfl])
      clear x2 x3
      go_wp2_with fail
      refine (HWR.out _).mono ?_
      rintro e w2 ⟨rfl, hb⟩
      rw [HE.out]
      have HB2 := Lib.hid (below_tr HB1.out hb)
      clear hb
      go_wp2_with fail
      go_ret
      exact ⟨rfl, HB2.out⟩
    by_cases k7 : k = 7
    · subst k7
      have HE := Lib.hid (show Y = 91 :: ((cms (teL l)).drop 1 ++ [93]) from by rw [HYE.out, if_neg (by decide), if_neg (by decide), if_pos rfl])
      have HZL := Lib.hid (show (cms (teL l)).length ≤ 8000000 from by have := HTL.out; rw [HE.out] at this; simp at this; omega)
      clear x1 x2 x3
      go_wp2_with fail
      clear x0
      go_loopw [3, 4] (fun a b wx => Hid (Below W1.heap.size W1 wx) ∧ ∃ (S : ByteArray) (i : Nat), i ≤ n ∧ S.size ≤ 8000000 ∧ a = .string S ∧ b = .int .i64 i ∧ Hid (S = txt (cms ((teL l).take i)))) (fun _ b _ => n - (intOf b).toNat)
      case atStart => exact ⟨Lib.hid (Below.refl _ _), ⟨#[]⟩, 0, Nat.zero_le _, by decide, rfl, rfl, Lib.hid rfl⟩
      case round =>
        obtain ⟨HBR, S, i, hi, hS8, rfl, rfl, HQ⟩ := hrel
        have X := HX.out.on HBR.out
        have x2 := X.c2
        clear X
        by_cases hlt : i < n
        · obtain ⟨y, hy⟩ := get_lt (l := l) (i := i) (by rw [← HN.out]; exact hlt)
          obtain ⟨g, o, rfl, hg, hf⟩ := HV.out (by rw [← HN.out]; omega)
          obtain ⟨v0, v1, v2, v3, d0, d1, d2, d3, hvm⟩ := hf i y hy
          have c0 := cell_old HBR.out hg d0
          have c1 := cell_old HBR.out hg d1
          have c2 := cell_old HBR.out hg d2
          have c3 := cell_old HBR.out hg d3
          obtain ⟨R, hR⟩ : ∃ R, R = txt (te y) := ⟨_, rfl⟩
          have HCI := Lib.hid (IH.out i y hy wr _ (hvm.on HBR.out))
          rw [← hR] at HCI
          have hR8 : R.size ≤ 8000000 := by rw [hR, txt_size]; exact HSL.out i y hy
          have HE2 := Lib.hid (show S ++ ⟨#[44]⟩ ++ R = txt (cms ((teL l).take (i + 1))) from by rw [cms_take (teL_at hy)]; exact app_cms HQ.out hR)
          have HS2 := Lib.hid (show (S ++ ⟨#[44]⟩ ++ R).size ≤ 8000000 from by rw [HE2.out, txt_size]; exact Nat.le_trans (cms_take_len _ _) HZL.out)
          clear d0 d1 d2 d3 hvm hf hR
          go_wp2_with fail
          refine HCI.out.mono ?_
          rintro e w3 ⟨rfl, hb2⟩
          have HB3 := Lib.hid (below_tr HBR.out hb2)
          clear hb2 c0 c1 c2 c3
          go_wp2_with fail
          go_roundw
          case rel => exact ⟨HB3, S ++ ⟨#[44]⟩ ++ R, i + 1, by omega, HS2.out, rfl, by go_num, HE2⟩
          case measure => simp [intOf]; omega
        · have HE3 := Lib.hid (show S = txt (cms (teL l)) from by rw [HQ.out, List.take_of_length_le (by rw [teL_len, ← HN.out]; omega)])
          have HBF := Lib.hid (below_tr HB1.out HBR.out)
          by_cases h0 : 0 < S.size
          · have HF := Lib.hid (shut_some 91 93 HE3.out)
            go_wp2_with fail
            go_ret
            exact ⟨ret_s (by rw [HF.out, HE.out]), HBF.out⟩
          · have HF := Lib.hid (shut_none 91 93 HE3.out h0)
            go_wp2_with fail
            go_ret
            exact ⟨ret_s (by rw [HF.out, HE.out]), HBF.out⟩
    by_cases k8 : k = 8
    · subst k8
      have HE := Lib.hid (show Y = 123 :: ((cms ((ord ks ks.length).map fun j => ent (ks.getD j []) ((teL l).getD j []))).drop 1 ++ [125]) from by rw [HYE.out, if_neg (by decide), if_neg (by decide), if_neg (by decide), if_pos rfl])
      obtain ⟨L, hL⟩ : ∃ L, L = (ord ks ks.length).map fun j => ent (ks.getD j []) ((teL l).getD j []) := ⟨_, rfl⟩
      rw [← hL] at HE
      have HLL := Lib.hid hL
      have HZL := Lib.hid (show (cms L).length ≤ 8000000 from by have := HTL.out; rw [HE.out] at this; simp at this; omega)
      have HNM := Lib.hid (show m = n from by rw [HM.out, HN.out]; exact HH.out.2.2.2.2.1 rfl)
      clear hL
      go_wp2_with fail
      refine (OX.out _ HB1.out).mono ?_
      rintro e w3 ⟨⟨u1, rfl, ho1⟩, hb3⟩
      have HB3 := Lib.hid (below_tr HB1.out hb3)
      have HX3 := Lib.hid (HX.out.on hb3)
      obtain ⟨A1, c1, rfl, hc1⟩ := ho1.len
      have e5 : (ord (V.mk 8 t l ks).keys (V.mk 8 t l ks).keys.length).length = m := by rw [ord_len, HM.out]; rfl
      have HO1 := Lib.hid ho1
      have HV3 := Lib.hid (HV.out.on hb3)
      have HK3 := Lib.hid (HK.out.on hb3)
      have HE5 := Lib.hid e5
      rw [e5] at HO1 hc1 ⊢
      clear x0 x1 x2 x3 ho1 hb3 e5
      go_wp2_with fail
      go_loopw [3, 6] (fun a b wx => Hid (Below w3.heap.size w3 wx) ∧ ∃ (S : ByteArray) (i : Nat), i ≤ m ∧ S.size ≤ 8000000 ∧ a = .string S ∧ b = .int .i64 i ∧ Hid (S = txt (cms (L.take i)))) (fun _ b _ => m - (intOf b).toNat)
      case atStart => exact ⟨Lib.hid (Below.refl _ _), ⟨#[]⟩, 0, Nat.zero_le _, by decide, rfl, rfl, Lib.hid rfl⟩
      case round =>
        obtain ⟨HBR, S, i, hi, hS8, rfl, rfl, HQ⟩ := hrel
        have X := HX3.out.on HBR.out
        have x2 := X.c2
        have x3 := X.c3
        clear X
        by_cases hlt : i < m
        · obtain ⟨j, hj, hjm⟩ := ord_at (ks := ks) (n := ks.length) (p := i) (by rw [← HM.out]; exact hlt)
          obtain ⟨y, hy⟩ := get_lt (l := l) (i := j) (by rw [← HN.out, ← HNM.out, HM.out]; exact hjm)
          obtain ⟨s, hs⟩ := get_lt (l := ks) (i := j) hjm
          obtain ⟨g, cc, cur, e3, _, _, _, hg4, hg5, _, _, hg3⟩ := (HO1.out.on HBR.out).row (by rw [HE5.out]; omega)
          rw [HE5.out] at e3 hg4
          obtain ⟨rfl, rfl⟩ : A1 = some ⟨g, 0, none⟩ ∧ c1 = cc := by injection e3 with e1 _ e2; exact ⟨e1, e2⟩
          have r1 := hg3 i j hj
          obtain ⟨gk, ok, rfl, hgk, hfk⟩ := HK3.out (by omega)
          obtain ⟨gv, ov, rfl, hgv, hfv⟩ := HV3.out (by rw [← HN.out, ← HNM.out]; omega)
          obtain ⟨v0, v1, v2, v3, d0, d1, d2, d3, hvm⟩ := hfv j y hy
          have c5 := cell_old HBR.out hgk (hfk j s hs)
          have c0 := cell_old HBR.out hgv d0
          have c1 := cell_old HBR.out hgv d1
          have c2 := cell_old HBR.out hgv d2
          have c3 := cell_old HBR.out hgv d3
          have hjm' : j < m := by rw [HM.out]; exact hjm
          have hjn' : j < n := by rw [← HNM.out]; exact hjm'
          obtain ⟨U, hU⟩ : ∃ U, U = txt s := ⟨_, rfl⟩
          rw [← hU] at c5
          obtain ⟨K, hK⟩ : ∃ K, K = txt (Qu.wrq s) := ⟨_, rfl⟩
          obtain ⟨R, hR⟩ : ∃ R, R = txt (te y) := ⟨_, rfl⟩
          have hK8 : K.size ≤ 8000000 := by rw [hK, txt_size]; exact HKL.out j s hs
          have hR8 : R.size ≤ 8000000 := by rw [hR, txt_size]; exact HSL.out j y hy
          have hLi : L[i]? = some (ent s (te y)) := by
            rw [HLL.out, List.getElem?_map, hj]
            show some (ent (ks.getD j []) ((teL l).getD j [])) = _
            rw [List.getD_eq_getElem?_getD, hs, List.getD_eq_getElem?_getD, teL_at hy]; rfl
          have HE2 := Lib.hid (show S ++ ⟨#[44]⟩ ++ K ++ ⟨#[58]⟩ ++ R = txt (cms (L.take (i + 1))) from by rw [cms_take hLi]; exact app_ent HQ.out hK hR)
          have HS2 := Lib.hid (show (S ++ ⟨#[44]⟩ ++ K ++ ⟨#[58]⟩ ++ R).size ≤ 8000000 from by rw [HE2.out, txt_size]; exact Nat.le_trans (cms_take_len _ _) HZL.out)
          have CK := Lib.hid (fun s' : Kept wr => by have := HWK.out s'.wx j s hs U hU; rw [← hK] at this; exact this)
          have CT := Lib.hid (fun s' : Kept wr => by have := IH.out j y hy s'.wx _ (hvm.on (below_tr HBR.out s'.held)); rw [← hR] at this; exact this)
          have K0 := fun s : Kept wr => s.cell x3
          have K1 := fun s : Kept wr => s.cell x2
          have K2 := fun s : Kept wr => s.cell r1
          have K3 := fun s : Kept wr => s.cell c5
          have K4 := fun s : Kept wr => s.cell c0
          have K5 := fun s : Kept wr => s.cell c1
          have K6 := fun s : Kept wr => s.cell c2
          have K7 := fun s : Kept wr => s.cell c3
          clear d0 d1 d2 d3 hvm hfv hfk hgk hgv hK hR hU hLi hy hs hj hjm hg3 e3
          go_upto_region 20 with fail
          clear x2 x3 r1 c5 c0 c1 c2 c3
          refine reg_lit (C := fun wx => ∃ s : Kept wr, wx = s.wx) (by kernel_rfl) (by kernel_rfl) ⟨⟨_, (Below.refl _ _).drew⟩, rfl⟩ ?_
          iterate 10 (go_big_quiet_step (fail))
          go_big_quiet_want
          go_big_quiet_op
          refine ⟨.string K, fun s => (CK.out s).mono ?_, ?_⟩
          · rintro e w3 ⟨rfl, hb⟩; exact Kept.out hb
          go_big_quiet_on
          iterate 10 (go_big_quiet_step (fail))
          go_big_quiet_want
          go_big_quiet_op
          refine ⟨.string R, fun s => (CT.out s).mono ?_, ?_⟩
          · rintro e w3 ⟨rfl, hb⟩; exact Kept.out hb
          go_big_quiet_on
          iterate 2 (go_big_quiet_step (fail))
          refine wpQuiet_nil ?_
          rintro wc ⟨⟨wx, ox0⟩, e⟩
          have HC := Lib.hid (show Below w3.heap.size w3 wc from by rw [e]; exact below_tr HBR.out ox0)
          clear e ox0 K0 K1 K2 K3 K4 K5 K6 K7 CK CT
          go_wp2_with fail
          go_roundw
          case rel => exact ⟨HC, S ++ ⟨#[44]⟩ ++ K ++ ⟨#[58]⟩ ++ R, i + 1, by omega, HS2.out, rfl, by go_num, HE2⟩
          case measure => simp [intOf]; omega
        · have HE3 := Lib.hid (show S = txt (cms L) from by rw [HQ.out, List.take_of_length_le (by rw [HLL.out, List.length_map, ord_len, ← HM.out]; omega)])
          have HBF := Lib.hid (below_tr HB3.out HBR.out)
          clear x2 x3
          by_cases h0 : 0 < S.size
          · have HF := Lib.hid (shut_some 123 125 HE3.out)
            go_wp2_with fail
            go_ret
            exact ⟨ret_s (by rw [HF.out, HE.out]), HBF.out⟩
          · have HF := Lib.hid (shut_none 123 125 HE3.out h0)
            go_wp2_with fail
            go_ret
            exact ⟨ret_s (by rw [HF.out, HE.out]), HBF.out⟩
    have HE := Lib.hid (show T = txt Y from by rw [HYE.out, if_neg k0, if_neg k3, if_neg k7, if_neg k8]; exact HTT.out)
    have g0 : ((k : Int) == 0) = false := by simp; omega
    have g3 : ((k : Int) == 3) = false := by simp; omega
    have g7 : ((k : Int) == 7) = false := by simp; omega
    have g8 : ((k : Int) == 8) = false := by simp; omega
    clear x2 x3
    go_wp2_with fail
    go_ret
    exact ⟨ret_s HE.out, HB1.out⟩
/-- Of a value that may be; else nothing. -/
def teM (x : V) : Bs := if may x = true then te x else []
set_option maxHeartbeats 4000000 in
set_option maxRecDepth 100000 in
theorem rText_any {x : V} {v : Value} (w : World) (hx : wt x ≤ 1000000) (hv : Vm w v x) :
    Calls Tryz.prog 19 #[v] w fun e w' => e = .returned (.string (txt (teM x))) ∧ Below w.heap.size w w' := by
  have CX := Lib.hid (fun (w' : World) (hb : Below w.heap.size w w') => rmay_any w' (by omega) (hv.on hb))
  have CT := Lib.hid (fun (hp : may x = true) (w' : World) (hb : Below w.heap.size w w') => rtext_any 1000000 x hx (Nat.le_refl _) (may_pl hp) w' v (hv.on hb))
  obtain ⟨Y, hY⟩ : ∃ Y, Y = txt (teM x) := ⟨_, rfl⟩
  have HY := Lib.hid (show Y = txt (if may x = true then te x else []) from hY)
  obtain ⟨p, hp⟩ : ∃ p, p = may x := ⟨_, rfl⟩
  rw [← hY]
  rw [← hp] at CX CT HY
  clear hY hp hx
  obtain ⟨k, t, l, ks⟩ := x
  obtain ⟨A, B, c, d, rfl, hk, hl, hc, hA, hd, hd2, hB, hK, hV⟩ := hv.inv
  obtain ⟨T, hT⟩ : ∃ T, T = txt t := ⟨_, rfl⟩
  obtain ⟨n, hn⟩ : ∃ n, n = l.length := ⟨_, rfl⟩
  obtain ⟨m, hm⟩ : ∃ n, n = ks.length := ⟨_, rfl⟩
  rw [← hT, ← hn, ← hm] at CX CT ⊢
  obtain ⟨W1, hW1⟩ : ∃ W, W = w.alloc (vO (.int .u8 k) (.string T) (.slice A n c) (.slice B m d)) := ⟨_, rfl⟩
  have HX := Lib.hid (show Bx W1 w.heap.size (.int .u8 k) (.string T) (.slice A n c) (.slice B m d) from by rw [hW1]; exact Bx.new ..)
  have HB1 := Lib.hid (show Below w.heap.size w W1 from by rw [hW1]; exact below_new ..)
  have HW1 := Lib.hid hW1
  clear hT hK hV hv hn hm hW1 hl hd
  go_enter Tryz.func19, Tryz.ntmps19
  go_upto_region 1 with fail
  rw [← HW1.out]
  obtain ⟨h, hh⟩ : ∃ h, h = w.heap.size := ⟨_, rfl⟩
  rw [← hh] at HX ⊢
  clear HW1 hh
  obtain ⟨x0, x1, x2, x3⟩ : W1.cell? ⟨h, 0, none⟩ = some (.int .u8 k) ∧ W1.cell? ⟨h, 1, none⟩ = some (.string T) ∧ W1.cell? ⟨h, 2, none⟩ = some (.slice A n c) ∧ W1.cell? ⟨h, 3, none⟩ = some (.slice B m d) := ⟨HX.out.c0, HX.out.c1, HX.out.c2, HX.out.c3⟩
  go_wp2_with fail
  refine (CX.out _ HB1.out).mono ?_
  rintro e w2 ⟨rfl, hb⟩
  have X := HX.out.on hb
  have z0 := X.c0
  have z1 := X.c1
  have z2 := X.c2
  have z3 := X.c3
  have HB2 := Lib.hid (below_tr HB1.out hb)
  clear x0 x1 x2 x3 hb CX X
  cases p with
  | false =>
    have HE := Lib.hid (show (⟨#[]⟩ : ByteArray) = Y from by rw [HY.out]; rfl)
    go_wp2_with fail
    go_ret
    exact ⟨ret_s HE.out, HB2.out⟩
  | true =>
    have HE := Lib.hid (show txt (te (.mk k t l ks)) = Y from by rw [HY.out, if_pos rfl])
    go_wp2_with fail
    refine (CT.out (by first | rfl | trivial) _ HB2.out).mono ?_
    rintro e w3 ⟨rfl, hb⟩
    rw [HE.out]
    have HB3 := Lib.hid (below_tr HB2.out hb)
    clear hb z0 z1 z2 z3
    go_wp2_with fail
    go_ret
    exact ⟨rfl, HB3.out⟩
end Va
end Go.Proofs.YtnnlgodgaolkkaaGreatDoor
