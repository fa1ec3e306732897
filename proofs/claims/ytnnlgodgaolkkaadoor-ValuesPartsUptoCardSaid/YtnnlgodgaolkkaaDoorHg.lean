/- A value whose maps' keys stand in another order is the same; one with another node is not (lists alone). -/
import Derived.Test.YtnnlgodgaolkkaaDoorUam
import Derived.Test.YtnnlgodgaolkkaaDoorStm
import Derived.Test.YtnnlgodgaolkkaaDoorHf
import Derived.Test.YtnnlgodgaolkkaaDoorHe
import Derived.Test.YtnnlgodgaolkkaaDoorHc
namespace Go.Proofs.YtnnlgodgaolkkaaDoor
open Go.RowKit
namespace Va

theorem nodup_allN : ∀ {a b : List Nat}, a.Nodup → (∀ x ∈ a, x ∈ b) → b.length ≤ a.length → ∀ x ∈ b, x ∈ a
  | [], b, _, _, hl, x, hx => by
    have : b = [] := List.eq_nil_of_length_eq_zero (by simpa using hl)
    rw [this] at hx; cases hx
  | c :: a, b, hd, hs, hl, x, hx => by
    have hc := hs c (List.mem_cons_self ..)
    have hd' := List.pairwise_cons.1 hd
    by_cases e : x = c
    · subst e; exact List.mem_cons_self ..
    · refine List.mem_cons_of_mem _ (nodup_allN (b := b.erase c) hd'.2 (fun y hy => ?_) ?_ x ((List.mem_erase_of_ne e).2 hx))
      · exact (List.mem_erase_of_ne (fun e => hd'.1 y hy e.symm)).2 (hs y (List.mem_cons_of_mem _ hy))
      · rw [List.length_erase_of_mem hc]; simp at hl; omega
theorem nodup_perm {a b : List Nat} (ha : a.Nodup) (hb : b.Nodup) (hs : ∀ x ∈ a, x ∈ b) (hl : b.length ≤ a.length) : a.Perm b := by
  have hs2 := nodup_allN ha hs hl
  rw [List.perm_iff_count]
  intro x
  have h1 := List.nodup_iff_count.1 ha x
  have h2 := List.nodup_iff_count.1 hb x
  have h3 : 0 < a.count x ↔ 0 < b.count x := by rw [List.count_pos_iff, List.count_pos_iff]; exact ⟨hs x, hs2 x⟩
  omega
theorem mod_if {n i c : Nat} (hi : i < n) (hc : c < n) : (i + c) % n = if i + c < n then i + c else i + c - n := by
  split
  · exact Nat.mod_eq_of_lt (by assumption)
  · rw [Nat.mod_eq_sub_mod (by omega), Nat.mod_eq_of_lt (by omega)]
theorem tix_inj {n b i j : Nat} (hi : i < n) (hj : j < n) (h : tix n b i = tix n b j) : i = j := by
  unfold tix at h
  split at h
  · omega
  · have hc : b / 2 % n < n := Nat.mod_lt _ (by omega)
    rw [Nat.add_mod, Nat.add_mod j, Nat.mod_eq_of_lt hi, Nat.mod_eq_of_lt hj, mod_if hi hc, mod_if hj hc] at h
    split at h <;> split at h <;> omega
theorem tix_nodup (n b : Nat) : ((List.range n).map (tix n b)).Nodup := by
  rw [List.Nodup, List.pairwise_map]
  refine List.Pairwise.imp_of_mem (R := fun a c : Nat => a ≠ c) (fun {a c} ha hc hne e => hne (tix_inj (List.mem_range.1 ha) (List.mem_range.1 hc) e)) List.nodup_range
theorem tix_perm (n b : Nat) : ((List.range n).map (tix n b)).Perm (List.range n) := by
  refine nodup_perm (tix_nodup n b) List.nodup_range (fun x hx => ?_) (by simp)
  obtain ⟨i, hi, rfl⟩ := List.mem_map.1 hx
  exact List.mem_range.2 (tix_lt (List.mem_range.1 hi))
theorem range_get {α : Type} (l : List α) (d : α) : (List.range l.length).map (fun i => l.getD i d) = l := by
  apply List.ext_getElem
  · simp
  · intro i h1 h2
    simp [List.getD_eq_getElem?_getD, h2]
theorem perm_get {α : Type} (l : List α) (d : α) {n b : Nat} (hn : l.length = n) : ((List.range n).map fun i => l.getD (tix n b i) d).Perm l := by
  have h := (tix_perm n b).map fun i => l.getD i d
  rw [List.map_map] at h
  have e := range_get l d
  rw [hn] at e
  rw [e] at h
  exact h
theorem wtL_perm {a b : List V} (h : a.Perm b) : wtL a = wtL b := by
  induction h with
  | nil => rfl
  | cons x _ ih => rw [wtL, wtL, ih]
  | swap x y l => simp only [wtL]; omega
  | trans _ _ h1 h2 => rw [h1, h2]
theorem szL_perm {a b : List V} (h : a.Perm b) : szL a = szL b := by
  induction h with
  | nil => rfl
  | cons x _ ih => rw [szL, szL, ih]
  | swap x y l => simp only [szL]; omega
  | trans _ _ h1 h2 => rw [h1, h2]
theorem dpL_perm {a b : List V} (h : a.Perm b) : dpL a = dpL b := by
  induction h with
  | nil => rfl
  | cons x _ ih => rw [dpL, dpL, ih]
  | swap x y l => simp only [dpL]; omega
  | trans _ _ h1 h2 => rw [h1, h2]
theorem plL_perm {a b : List V} (h : a.Perm b) : plL a = plL b := by
  induction h with
  | nil => rfl
  | cons x _ ih => rw [plL, plL, ih]
  | swap x y l => simp only [plL]; cases pl x <;> cases pl y <;> rfl
  | trans _ _ h1 h2 => rw [h1, h2]
/-- A map whose entries are another one's, in whatever order, is the same. -/
theorem sm_ent {t : Bs} {l l' : List V} {ks ks' : List Bs} (hd : ks.Nodup) (hd' : ks'.Nodup) (hk : ks.length = l.length) (hk' : ks'.length = l'.length) (hl : l'.length = l.length)
    (h : ∀ (i : Nat) (s : Bs) (x : V), ks'[i]? = some s → l'[i]? = some x → ∃ (j : Nat) (y : V), ks[j]? = some s ∧ l[j]? = some y ∧ sm x y = true) : sm (.mk 8 t l' ks') (.mk 8 t l ks) = true := by
  rw [sm_map hd' hd hk' hk hl]
  intro i s x hs hx
  obtain ⟨j, y, h1, h2, h3⟩ := h i s x hs hx
  exact ⟨j, y, fnd_nodup hd h1, h2, h3⟩
theorem nodup_tix {ks : List Bs} {n b : Nat} (hd : ks.Nodup) (hn : ks.length = n) : ((List.range n).map fun i => ks.getD (tix n b i) []).Nodup :=
  (perm_get ks [] hn).nodup_iff.2 hd
mutual
theorem trn_ok (b : Nat) : ∀ {x : V}, pl x = true → pl (trn b x) = true ∧ dp (trn b x) = dp x ∧ sz (trn b x) = sz x ∧ wt (trn b x) = wt x ∧ sm (trn b x) x = true
  | .mk k t l ks, h => by
    rw [pl, Bool.and_eq_true] at h
    have hh := of_decide_eq_true h.1
    obtain ⟨i1, i2, i3, i4, i5⟩ := trnL_ok b h.2
    by_cases h8 : k = 8
    · subst h8
      have e := hh.2.2.2.2.1 rfl
      have hd := hh.2.2.2.2.2
      obtain ⟨n, hn⟩ : ∃ n, n = l.length := ⟨_, rfl⟩
      have P1 := perm_get (b := b) (trnL b l) v0 (show (trnL b l).length = n by rw [trnL_len, hn])
      have P2 := perm_get (b := b) ks [] (show ks.length = n by rw [e, hn])
      have hnd := nodup_tix (b := b) hd (show ks.length = n by rw [e, hn])
      have et : trn b (.mk 8 t l ks) = .mk 8 t ((List.range n).map fun i => (trnL b l).getD (tix n b i) v0) ((List.range n).map fun i => ks.getD (tix n b i) []) := by rw [trn, if_pos rfl, hn]
      have hlen : ((List.range n).map fun i => (trnL b l).getD (tix n b i) v0).length = n := by simp
      have hlen2 : ((List.range n).map fun i => ks.getD (tix n b i) []).length = n := by simp
      rw [et]
      refine ⟨?_, ?_, ?_, ?_, ?_⟩
      · rw [pl, Bool.and_eq_true]
        refine ⟨decide_eq_true ⟨hh.1, .inl rfl, .inl (by omega), hh.2.2.2.1, fun _ => by rw [hlen, hlen2], hnd⟩, by rw [plL_perm P1]; exact i1⟩
      · rw [dp, dp, if_pos (.inr rfl), if_pos (.inr rfl), dpL_perm P1, i2]
      · rw [sz, sz, szL_perm P1, i3]
      · rw [wt, wt, wtL_perm P1, i4, kw_perm P2, hlen2, e, ← hn]
      · refine sm_ent hd hnd e (by rw [hlen, hlen2]) (by rw [hlen, hn]) fun i s x hs hx => ?_
        have hi : i < n := by have := (List.getElem?_eq_some_iff.1 hs).1; simpa using this
        have ht := tix_lt (b := b) hi
        obtain ⟨y, hy⟩ := get_lt (l := l) (i := tix n b i) (by rw [← hn]; exact ht)
        obtain ⟨r, hr⟩ := get_lt (l := ks) (i := tix n b i) (by rw [e, ← hn]; exact ht)
        rw [List.getElem?_map, List.getElem?_range hi] at hs hx
        have e1 : s = r := by
          have : some (ks.getD (tix n b i) []) = some s := hs
          rw [List.getD_eq_getElem?_getD, hr] at this; exact (Option.some.inj this).symm
        have e2 : x = trn b y := by
          have : some ((trnL b l).getD (tix n b i) v0) = some x := hx
          rw [List.getD_eq_getElem?_getD, trnL_get, hy] at this; exact (Option.some.inj this).symm
        subst e1 e2
        exact ⟨tix n b i, y, hr, hy, i5 _ _ hy⟩
    · have hks : ks = [] := by rcases hh.2.1 with q | q; exact absurd q h8; exact q
      subst hks
      rw [trn, if_neg h8]
      refine ⟨?_, ?_, ?_, ?_, ?_⟩
      · rw [pl, Bool.and_eq_true]
        refine ⟨decide_eq_true ⟨hh.1, hh.2.1, by rw [trnL_len]; exact hh.2.2.1, hh.2.2.2.1, fun q => absurd q h8, hh.2.2.2.2.2⟩, i1⟩
      · rw [dp, dp, i2]
      · rw [sz, sz, i3]
      · rw [wt, wt, i4]
      · rw [sm_list h8 (trnL_len b l)]
        intro i x y hx hy
        rw [trnL_get, hy] at hx
        obtain rfl : trn b y = x := Option.some.inj hx
        exact i5 _ _ hy
theorem trnL_ok (b : Nat) : ∀ {l : List V}, plL l = true → plL (trnL b l) = true ∧ dpL (trnL b l) = dpL l ∧ szL (trnL b l) = szL l ∧ wtL (trnL b l) = wtL l ∧ ∀ (i : Nat) (x : V), l[i]? = some x → sm (trn b x) x = true
  | [], _ => by rw [trnL]; exact ⟨rfl, rfl, rfl, rfl, fun i x h => by simp at h⟩
  | x :: r, h => by
    rw [plL, Bool.and_eq_true] at h
    obtain ⟨a1, a2, a3, a4, a5⟩ := trn_ok b h.1
    obtain ⟨c1, c2, c3, c4, c5⟩ := trnL_ok b h.2
    rw [trnL]
    refine ⟨by rw [plL, a1, c1]; rfl, by rw [dpL, dpL, a2, c2], by rw [szL, szL, a3, c3], by rw [wtL, wtL, a4, c4], fun i y hy => ?_⟩
    cases i with
    | zero => obtain rfl : x = y := by simpa using hy
              exact a5
    | succ i => exact c5 i y (by simpa using hy)
end
theorem may_of {x : V} (h : pl x = true) (h2 : dp x ≤ 256) : may x = true := by unfold may; rw [Bool.and_eq_true]; exact ⟨decide_eq_true h2, h⟩
theorem trn_may {b : Nat} {x : V} (h : may x = true) : may (trn b x) = true := by
  obtain ⟨a1, a2, _⟩ := trn_ok b (may_pl h)
  exact may_of a1 (by rw [a2]; exact may_dp h)
/-- Another node in the place of the n-th one; else how many are left. -/
inductive Oth (α : Type) where
  | done (x : α)
  | left (n : Nat)
mutual
def oth : V → Nat → Oth V
  | .mk k t _ _, 0 => .done (.mk 3 (if k = 3 then t ++ [120] else [120]) [] [])
  | .mk k t l ks, n + 1 => match othL l n with
    | .done l' => .done (.mk k t l' ks)
    | .left m => .left m
def othL : List V → Nat → Oth (List V)
  | [], n => .left n
  | x :: r, n => match oth x n with
    | .done y => .done (y :: r)
    | .left m => match othL r m with
      | .done r' => .done (x :: r')
      | .left p => .left p
end
/-- What another node makes of a value that may be: one that may be, and is not the same. -/
def OthOk (x y : V) : Prop := pl y = true ∧ dp y ≤ dp x ∧ wt y ≤ wt x + 1 ∧ sm x y = false
mutual
theorem oth_ok : ∀ {x : V} {n : Nat} {y : V}, pl x = true → oth x n = .done y → OthOk x y
  | .mk k t l ks, 0, y, h, e => by
    rw [oth] at e
    obtain rfl := Oth.done.inj e
    have hh : plH 3 (if k = 3 then t ++ [120] else [120]) 0 [] = true := decide_eq_true ⟨by omega, .inr rfl, .inr rfl, by simp [tx], fun q => absurd q (by decide), List.nodup_nil⟩
    refine ⟨by rw [pl, List.length_nil, hh]; rfl, by rw [dp, if_neg (by decide)]; omega, ?_, ?_⟩
    · rw [wt, wt]
      split
      · simp [kw, wtL]; omega
      · simp [kw, wtL]; omega
    · cases hs : sm (.mk k t l ks) (.mk 3 (if k = 3 then t ++ [120] else [120]) [] []) with
      | false => rfl
      | true =>
        rw [sm_iff, can_no (k := 3) (by decide)] at hs
        by_cases h8 : k = 8
        · subst h8
          rw [can_map, cmpV] at hs
          have := ncmp_eq (then_eq hs).1
          omega
        · rw [can_no h8, cmpV] at hs
          have h1 := ncmp_eq (then_eq hs).1
          have h2 := bcmp_eq (then_eq (then_eq hs).2).1
          rw [if_pos h1] at h2
          have := congrArg List.length h2
          simp at this
  | .mk k t l ks, n + 1, y, h, e => by
    rw [pl, Bool.and_eq_true] at h
    have hh := of_decide_eq_true h.1
    rw [oth] at e
    cases ho : othL l n with
    | left m => rw [ho] at e; cases e
    | done l' =>
      rw [ho] at e
      obtain rfl := Oth.done.inj e
      obtain ⟨a1, a2, a3, a4, i, x, z, hx, hz, hsm⟩ := othL_ok h.2 ho
      have hp : plH k t l'.length ks = true := by rw [a1]; exact h.1
      refine ⟨by rw [pl, hp, a2]; rfl, ?_, by rw [wt, wt]; omega, ?_⟩
      · rw [dp, dp]; split <;> omega
      · cases hs : sm (.mk k t l ks) (.mk k t l' ks) with
        | false => rfl
        | true =>
          by_cases h8 : k = 8
          · subst h8
            have e := hh.2.2.2.2.1 rfl
            have hd := hh.2.2.2.2.2
            obtain ⟨s, hks⟩ := get_lt (l := ks) (i := i) (by rw [e]; exact (List.getElem?_eq_some_iff.1 hx).1)
            obtain ⟨j, w, hf, hw, hsw⟩ := (sm_map hd hd e (by rw [a1, e]) a1.symm).1 hs i s x hks hx
            rw [fnd_nodup hd hks] at hf
            obtain rfl := Option.some.inj hf
            rw [hz] at hw
            obtain rfl := Option.some.inj hw
            rw [hsm] at hsw; cases hsw
          · have hks : ks = [] := by rcases hh.2.1 with q | q; exact absurd q h8; exact q
            subst hks
            have := (sm_list h8 a1.symm).1 hs i x z hx hz
            rw [hsm] at this; cases this
theorem othL_ok : ∀ {l : List V} {n : Nat} {l' : List V}, plL l = true → othL l n = .done l' → l'.length = l.length ∧ plL l' = true ∧ dpL l' ≤ dpL l ∧ wtL l' ≤ wtL l + 1 ∧ ∃ (i : Nat) (x y : V), l[i]? = some x ∧ l'[i]? = some y ∧ sm x y = false
  | [], n, l', _, e => by rw [othL] at e; cases e
  | x :: r, n, l', h, e => by
    rw [plL, Bool.and_eq_true] at h
    rw [othL] at e
    cases ho : oth x n with
    | done y =>
      rw [ho] at e
      obtain rfl := Oth.done.inj e
      obtain ⟨b1, b2, b3, b4⟩ := oth_ok h.1 ho
      refine ⟨rfl, by rw [plL, b1, h.2]; rfl, by rw [dpL, dpL]; omega, by rw [wtL, wtL]; omega, 0, x, y, rfl, rfl, b4⟩
    | left m =>
      rw [ho] at e
      simp only at e
      cases hr : othL r m with
      | left p => rw [hr] at e; cases e
      | done r' =>
        rw [hr] at e
        obtain rfl := Oth.done.inj e
        obtain ⟨b1, b2, b3, b4, i, u, v, hu, hv, hs⟩ := othL_ok h.2 hr
        refine ⟨by simp [b1], by rw [plL, h.1, b2]; rfl, by rw [dpL, dpL]; omega, by rw [wtL, wtL]; omega, i + 1, u, v, by simpa using hu, by simpa using hv, hs⟩
end
theorem oth_may {x y : V} {n : Nat} (h : may x = true) (e : oth x n = .done y) : may y = true ∧ wt y ≤ wt x + 1 ∧ sm x y = false := by
  obtain ⟨a, b, c, d⟩ := oth_ok (may_pl h) e
  exact ⟨may_of a (by have := may_dp h; omega), c, d⟩
/-- The same is the same both ways, and on. -/
theorem sm_self {x : V} : sm x x = true := sm_iff.2 (cmpV_self _)
theorem sm_sym {x y : V} (hx : pl x = true) (hy : pl y = true) (h : sm x y = true) : sm y x = true := (sm_can hy hx).2 ((sm_can hx hy).1 h).symm
end Va
end Go.Proofs.YtnnlgodgaolkkaaDoor
/- The order of values, entry by entry. -/
namespace Go.Proofs.YtnnlgodgaolkkaaDoor
open Go.RowKit
namespace Va

section
variable {P P' : List V} {K K' : List Bs} {i : Nat} {C : Ordering} {px py : V}
theorem step_eq (h : cmpL (P.drop i) (K.drop i) (P'.drop i) (K'.drop i) = C) (hx : P[i]? = some px) (hy : P'[i]? = some py) (hk : K.getD i [] = K'.getD i []) (hs : cmpV px py = .eq) : cmpL (P.drop (i + 1)) (K.drop (i + 1)) (P'.drop (i + 1)) (K'.drop (i + 1)) = C := by
  rw [cmpL_drop hx hy, hk, bcmp_self, hs] at h; exact h
theorem step_key (h : cmpL (P.drop i) (K.drop i) (P'.drop i) (K'.drop i) = C) (hx : P[i]? = some px) (hy : P'[i]? = some py) (hk : K.getD i [] ≠ K'.getD i []) : (C == .lt) = bl (K.getD i []) (K'.getD i []) := by
  rw [cmpL_drop hx hy] at h
  rw [← h]
  unfold bcmp
  cases hb : bl (K.getD i []) (K'.getD i []) with
  | true => rfl
  | false =>
    cases hb2 : bl (K'.getD i []) (K.getD i []) with
    | true => rfl
    | false => exact absurd (bl_tot hb hb2) hk
theorem step_val (h : cmpL (P.drop i) (K.drop i) (P'.drop i) (K'.drop i) = C) (hx : P[i]? = some px) (hy : P'[i]? = some py) (hk : K.getD i [] = K'.getD i []) (hs : cmpV px py ≠ .eq) : (C == .lt) = (cmpV px py == .lt) := by
  rw [cmpL_drop hx hy, hk, bcmp_self] at h
  rw [← h]
  cases hc : cmpV px py with
  | eq => exact absurd hc hs
  | lt => rfl
  | gt => rfl
theorem step_end (h : cmpL (P.drop i) (K.drop i) (P'.drop i) (K'.drop i) = C) (hi : i ≤ P.length) (hi' : i ≤ P'.length) (he : P.length ≤ i ∨ P'.length ≤ i) : (C == .lt) = decide (P.length < P'.length) := by
  rw [cmpL_end he] at h
  rw [← h]
  by_cases h1 : i < P.length
  · rw [if_pos h1, decide_eq_false (by omega)]; rfl
  · rw [if_neg h1]
    by_cases h2 : i < P'.length
    · rw [if_pos h2, decide_eq_true (by omega)]; rfl
    · rw [if_neg h2, decide_eq_false (by omega)]; rfl
end
/-- Does one value stand ahead of another one? -/
def lt (x y : V) : Bool := cmpV (can x) (can y) == .lt
theorem can_mk (k : Nat) (t : Bs) (l : List V) (ks : List Bs) : ∃ l2 ks2, can (.mk k t l ks) = .mk k t l2 ks2 := by
  by_cases h : k = 8
  · subst h; exact ⟨_, _, can_map⟩
  · exact ⟨_, _, can_no h⟩
theorem lt_kind {k k' : Nat} {t t' : Bs} {l l' : List V} {ks ks' : List Bs} (h : k ≠ k') : lt (.mk k t l ks) (.mk k' t' l' ks') = decide (k < k') := by
  unfold lt
  obtain ⟨l2, k2, e2⟩ := can_mk k t l ks
  obtain ⟨l3, k3, e3⟩ := can_mk k' t' l' ks'
  rw [e2, e3, cmpV]
  unfold ncmp
  by_cases h1 : k < k'
  · rw [if_pos h1, decide_eq_true h1]; rfl
  · rw [if_neg h1, if_pos (by omega), decide_eq_false h1]; rfl
theorem lt_text {k : Nat} {t t' : Bs} {l l' : List V} {ks ks' : List Bs} (h : t ≠ t') : lt (.mk k t l ks) (.mk k t' l' ks') = bl t t' := by
  unfold lt
  obtain ⟨l2, k2, e2⟩ := can_mk k t l ks
  obtain ⟨l3, k3, e3⟩ := can_mk k t' l' ks'
  rw [e2, e3, cmpV, ncmp_self]
  unfold bcmp
  cases hb : bl t t' with
  | true => rfl
  | false =>
    cases hb2 : bl t' t with
    | true => rfl
    | false => exact absurd (bl_tot hb hb2) h
end Va
end Go.Proofs.YtnnlgodgaolkkaaDoor
/- The document's: which of two values stands ahead. -/
namespace Go.Proofs.YtnnlgodgaolkkaaDoor
open Go.RowKit
namespace Va

/-- The entries of two values of one kind and one text, as they are held against one another. -/
structure Ents (k : Nat) (l l' : List V) (ks ks' : List Bs) (P P' : List V) (K K' : List Bs) : Prop where
  n : P.length = l.length
  n' : P'.length = l'.length
  li : k ≠ 8 → K = [] ∧ K' = []
  lx : k ≠ 8 → ∀ (i : Nat) (x : V), l[i]? = some x → P[i]? = some (can x)
  ly : k ≠ 8 → ∀ (i : Nat) (x : V), l'[i]? = some x → P'[i]? = some (can x)
  mx : k = 8 → ∀ (i j : Nat) (x : V), (ord ks ks.length)[i]? = some j → l[j]? = some x → P[i]? = some (can x) ∧ K.getD i [] = ks.getD j []
  my : k = 8 → ∀ (i j : Nat) (x : V), (ord ks' ks'.length)[i]? = some j → l'[j]? = some x → P'[i]? = some (can x) ∧ K'.getD i [] = ks'.getD j []
theorem ents_of {k : Nat} {t : Bs} {l l' : List V} {ks ks' : List Bs} (hm : may (.mk k t l ks) = true) (hm' : may (.mk k t l' ks') = true) :
    ∃ P P' K K', Ents k l l' ks ks' P P' K K' ∧ cmpV (can (.mk k t l ks)) (can (.mk k t l' ks')) = cmpL P K P' K' := by
  have p := may_parts hm
  have p' := may_parts hm'
  by_cases h : k = 8
  · subst h
    refine ⟨_, _, _, _, ⟨?_, ?_, fun h => absurd rfl h, fun h => absurd rfl h, fun h => absurd rfl h, ?_, ?_⟩, by rw [can_map, can_map, cmp_head ⟨rfl, rfl⟩]⟩
    · rw [List.length_map, ord_len, p.2.2.1 rfl]
    · rw [List.length_map, ord_len, p'.2.2.1 rfl]
    · exact fun _ i j x ho hx => ⟨by rw [map_at ho, can_at hx], mapK_at ho⟩
    · exact fun _ i j x ho hx => ⟨by rw [map_at ho, can_at hx], mapK_at ho⟩
  · have e := p.2.1.resolve_left h
    have e' := p'.2.1.resolve_left h
    subst e e'
    exact ⟨canL l, canL l', [], [], ⟨canL_len l, canL_len l', fun _ => ⟨rfl, rfl⟩, fun _ i x hx => canL_some hx, fun _ i x hx => canL_some hx, fun e => absurd e h, fun e => absurd e h⟩, by rw [can_no h, can_no h, cmp_head ⟨rfl, rfl⟩]⟩
end Va
end Go.Proofs.YtnnlgodgaolkkaaDoor
/- The document's: how two values stand. -/
namespace Go.Proofs.YtnnlgodgaolkkaaDoor
open Go.RowKit
namespace Va

/-- How two values stand, if both may be. -/
def cI (a b : Bool) (o : Int) : Int := bif a && b then o else 0
def oI : Ordering → Int
  | .lt => -1
  | .eq => 0
  | .gt => 1
end Va
end Go.Proofs.YtnnlgodgaolkkaaDoor
/- What the laws of values ask of lists: sizes, parts, a map with an entry put at its end, lists of two. -/
namespace Go.Proofs.YtnnlgodgaolkkaaDoor
open Go.RowKit
namespace Va

theorem perm_ord {α : Type} (l : List α) (d : α) (ks : List Bs) (h : ks.length = l.length) : ((ord ks ks.length).map fun j => l.getD j d).Perm l := by
  have p := (ord_perm ks ks.length).map fun j => l.getD j d
  rw [h, range_get l d] at p
  rw [h]; exact p
mutual
theorem sz_can : ∀ {x : V}, pl x = true → sz (can x) = sz x
  | .mk k t l ks, h => by
    rw [pl, Bool.and_eq_true] at h
    have hh := of_decide_eq_true h.1
    have ih := szL_can h.2
    by_cases h8 : k = 8
    · subst h8
      rw [can_map, sz, sz, szL_perm (perm_ord (canL l) v0 ks (by rw [canL_len]; exact hh.2.2.2.2.1 rfl)), ih]
    · rw [can_no h8, sz, sz, ih]
theorem szL_can : ∀ {l : List V}, plL l = true → szL (canL l) = szL l
  | [], _ => by rw [canL]
  | x :: r, h => by
    rw [plL, Bool.and_eq_true] at h
    rw [canL, szL, szL, sz_can h.1, szL_can h.2]
end
theorem sz_sm {x y : V} (hx : pl x = true) (hy : pl y = true) (h : sm x y = true) : sz x = sz y := by rw [← sz_can hx, ← sz_can hy, (sm_can hx hy).1 h]
theorem sz_sub {k : Nat} {t : Bs} {l : List V} {ks : List Bs} {i : Nat} {x : V} (h : l[i]? = some x) : sz x < sz (.mk k t l ks) := by
  have : sz x ≤ szL l := by
    clear ks t k
    induction l generalizing i with
    | nil => simp at h
    | cons y r ih =>
      cases i with
      | zero => obtain rfl : y = x := by simpa using h
                rw [szL]; omega
      | succ i => have := ih (by simpa using h); rw [szL]; omega
  rw [sz]; omega
theorem dp_sub {t : Bs} {l : List V} {ks : List Bs} {i : Nat} {x : V} (h : l[i]? = some x) : dp x < dp (.mk 8 t l ks) := by
  have := dpL_get h
  rw [dp, if_pos (.inr rfl)]; omega
/-- The entries but one, and that one at the end. -/
def mvE {α : Type} (l : List α) (i : Nat) (x : α) : List α := l.take i ++ l.drop (i + 1) ++ [x]
theorem mvE_perm {α : Type} {l : List α} {i : Nat} {x : α} (h : l[i]? = some x) : (mvE l i x).Perm l := by
  have hl := List.getElem?_eq_some_iff.1 h
  have e : l.take i ++ x :: l.drop (i + 1) = l := by
    rw [← hl.2, ← List.drop_eq_getElem_cons hl.1, List.take_append_drop]
  have p : (mvE l i x).Perm (l.take i ++ x :: l.drop (i + 1)) := by
    unfold mvE
    rw [List.append_assoc]
    exact List.Perm.append_left _ (List.perm_append_singleton x _)
  rwa [e] at p
theorem mvE_len {α : Type} {l : List α} {i : Nat} {x : α} (h : l[i]? = some x) : (mvE l i x).length = l.length := (mvE_perm h).length_eq
/-- Which place an entry came from. -/
theorem mvE_at {α : Type} {l : List α} {i p : Nat} {x : α} (h : i < l.length) (hp : p < l.length) (hx : l[i]? = some x) : (mvE l i x)[p]? = l[if p < i then p else if p + 1 < l.length then p + 1 else i]? := by
  unfold mvE
  have h1 : (l.take i).length = i := by simp; omega
  have h2 : (l.take i ++ l.drop (i + 1)).length = l.length - 1 := by simp; omega
  split
  · rw [List.append_assoc, List.getElem?_append_left (by omega), List.getElem?_take, if_pos (by assumption)]
  · split
    · rw [List.getElem?_append_left (by omega), List.getElem?_append_right (by omega), h1, List.getElem?_drop]
      congr 1; omega
    · rw [List.getElem?_append_right (by omega), h2, hx]
      have : p - (l.length - 1) = 0 := by omega
      rw [this]; rfl
/-- The map with an entry put in again, at the end, is the same, and may be. -/
theorem mv_ok {t : Bs} {l : List V} {ks : List Bs} {i : Nat} {s : Bs} {x : V} (hm : may (.mk 8 t l ks) = true) (hs : ks[i]? = some s) (hx : l[i]? = some x) :
    may (.mk 8 t (mvE l i x) (mvE ks i s)) = true ∧ sm (.mk 8 t (mvE l i x) (mvE ks i s)) (.mk 8 t l ks) = true ∧ wt (.mk 8 t (mvE l i x) (mvE ks i s)) = wt (.mk 8 t l ks) := by
  have hp := may_pl hm
  have hd2 := may_dp hm
  rw [pl, Bool.and_eq_true] at hp
  have hh := of_decide_eq_true hp.1
  have e := hh.2.2.2.2.1 rfl
  have hd := hh.2.2.2.2.2
  have P1 := mvE_perm hx
  have P2 := mvE_perm hs
  have n1 := mvE_len hx
  have n2 := mvE_len hs
  refine ⟨may_of ?_ ?_, ?_, ?_⟩
  · rw [pl, Bool.and_eq_true]
    exact ⟨decide_eq_true ⟨hh.1, .inl rfl, .inl (by omega), hh.2.2.2.1, fun _ => by rw [n1, n2, e], P2.nodup_iff.2 hd⟩, by rw [plL_perm P1]; exact hp.2⟩
  · rw [dp, if_pos (.inr rfl)] at hd2 ⊢
    rw [dpL_perm P1]; exact hd2
  · refine sm_ent hd (P2.nodup_iff.2 hd) e (by rw [n1, n2, e]) n1 fun p r y hr hy => ?_
    have hpl : p < ks.length := by rw [← n2]; exact (List.getElem?_eq_some_iff.1 hr).1
    have hi := (List.getElem?_eq_some_iff.1 hs).1
    rw [mvE_at hi hpl hs] at hr
    rw [mvE_at (by omega) (by omega) hx] at hy
    rw [← e] at hy
    exact ⟨_, y, hr, hy, sm_self⟩
  · rw [wt, wt, n2, kw_perm P2, wtL_perm P1]
/-- Without its entry a map has no such key. -/
theorem gone_ok {ks : List Bs} {i : Nat} {s : Bs} (hd : ks.Nodup) (hs : ks[i]? = some s) : fnd (ks.take i ++ ks.drop (i + 1)) s = none := by
  refine fnd_none fun j hj e => ?_
  have hl := List.getElem?_eq_some_iff.1 hs
  have hi := hl.1
  have h1 : (ks.take i).length = i := by simp; omega
  have key : ∀ q, ks[q]? = some s → q = i := fun q hq => by
    have h2 := List.getElem?_eq_some_iff.1 hq
    exact key_inj hd h2.1 hi (by rw [List.getD_eq_getElem?_getD, List.getD_eq_getElem?_getD, hs, hq])
  rcases Nat.lt_or_ge j i with h | h
  · rw [List.getElem?_append_left (by omega), List.getElem?_take, if_pos h] at e
    have := key _ e; omega
  · rw [List.getElem?_append_right (by omega), h1, List.getElem?_drop] at e
    have := key _ e; omega
/-- Lists of two. -/
theorem two_may {a b : V} (ha : may a = true) (hb : may b = true) (h1 : dp a ≤ 250) (h2 : dp b ≤ 250) : may (.mk 7 [] [a, b] []) = true := by
  refine may_of ?_ ?_
  · have hp : plH 7 [] [a, b].length [] = true := decide_eq_true ⟨by omega, .inr rfl, .inl (by omega), rfl, fun q => absurd q (by decide), List.nodup_nil⟩
    rw [pl, hp, plL, plL, may_pl ha, may_pl hb]; rfl
  · rw [dp, if_pos (.inl rfl), dpL, dpL, dpL]; omega
theorem two_cmp (a b : V) : cmpV (can (.mk 7 [] [a, b] [])) (can (.mk 7 [] [b, a] [])) = cmpV (can a) (can b) := by
  rw [can_no (by decide), can_no (by decide), cmp_head ⟨rfl, rfl⟩]
  have e : ∀ x y : V, canL [x, y] = [can x, can y] := fun x y => by rw [canL, canL, canL]
  rw [e, e, cmpL, cmpL, cmpL, bcmp_self, bcmp_self, cmpV_swap (can a) (can b)]
  cases cmpV (can a) (can b) <;> rfl
theorem two_sz (a b : V) : sz (.mk 7 [] [a, b] []) = sz a + sz b + 1 := by rw [sz, szL, szL, szL]; omega
theorem two_wt (a b : V) : wt (.mk 7 [] [a, b] []) = wt a + wt b + 1 := by simp [wt, wtL, kw]; omega
/-- How three values stand. -/
theorem oI_eq {o : Ordering} : oI o = 0 ↔ o = .eq := by cases o <;> simp [oI]
theorem oI_swap (o : Ordering) : oI o.swap = - oI o := by cases o <;> rfl
theorem oI_bd (o : Ordering) : -1 ≤ oI o ∧ oI o ≤ 1 := by cases o <;> simp [oI]
theorem tri_int {a b c : Ordering} (h : Tri a b c) : (oI a ≤ 0 → oI b ≤ 0 → oI c ≤ 0 ∧ (oI c = 0 → oI a = 0 ∧ oI b = 0)) ∧ (oI a = 0 → oI c = oI b) := by
  obtain ⟨h1, h2, h3, h4⟩ := h
  cases a <;> cases b <;> cases c <;> simp_all [oI]
end Va
end Go.Proofs.YtnnlgodgaolkkaaDoor
/- The document's: a value's text. -/
namespace Go.Proofs.YtnnlgodgaolkkaaDoor
open Go.RowKit
namespace Va

theorem ret_s {a b : ByteArray} (h : a = b) : Ending.returned (.string a) = .returned (.string b) := by rw [h]
theorem app_cms {S R : ByteArray} {Z t : Bs} (hS : S = txt Z) (hR : R = txt t) : S ++ ⟨#[44]⟩ ++ R = txt (Z ++ 44 :: t) := by
  rw [hS, hR, show (⟨#[44]⟩ : ByteArray) = txt [44] from rfl, txt_app, txt_app]; simp
theorem app_ent {S K R : ByteArray} {Z k t : Bs} (hS : S = txt Z) (hK : K = txt (Qu.wrq k)) (hR : R = txt t) : S ++ ⟨#[44]⟩ ++ K ++ ⟨#[58]⟩ ++ R = txt (Z ++ 44 :: ent k t) := by
  rw [hS, hK, hR, show (⟨#[44]⟩ : ByteArray) = txt [44] from rfl, show (⟨#[58]⟩ : ByteArray) = txt [58] from rfl, txt_app, txt_app, txt_app, txt_app]
  unfold ent; simp
theorem shut_some {S : ByteArray} {Z : Bs} (a b : UInt8) (hS : S = txt Z) : ⟨#[a]⟩ ++ S.extract 1 S.size ++ ⟨#[b]⟩ = txt (a :: (Z.drop 1 ++ [b])) := by
  rw [hS, txt_cut, txt_size, List.take_length, show (⟨#[a]⟩ : ByteArray) = txt [a] from rfl, show (⟨#[b]⟩ : ByteArray) = txt [b] from rfl, txt_app, txt_app]; simp
theorem shut_none {S : ByteArray} {Z : Bs} (a b : UInt8) (hS : S = txt Z) (h : ¬ 0 < S.size) : ⟨#[a]⟩ ++ S ++ ⟨#[b]⟩ = txt (a :: (Z.drop 1 ++ [b])) := by
  have : Z = [] := List.eq_nil_of_length_eq_zero (by rw [hS, txt_size] at h; omega)
  subst this
  rw [hS, show (⟨#[a]⟩ : ByteArray) = txt [a] from rfl, show (⟨#[b]⟩ : ByteArray) = txt [b] from rfl, txt_app, txt_app]; simp
/-- Of a value that may be; else nothing. -/
def teM (x : V) : Bs := if may x = true then te x else []
end Va
end Go.Proofs.YtnnlgodgaolkkaaDoor
