/- Strings of TOML by stretches, as the program goes through them (lists alone). -/
import Derived.Test.YtpdaelcoiilkkaaDoorTqV
namespace Go.Proofs.YtpdaelcoiilkkaaDoor
open Go.RowKit

/-- May a byte stand in a stretch that ends ahead of q and o? -/
def plJ (c : Int) : Bool := decide (c = 9 ∨ 32 ≤ c ∧ c ≠ 127)
def stp (q o c : Int) : Bool := plJ c && decide (c ≠ q) && decide (c ≠ o)
def prs (q o : Int) (l : List UInt8) (k : Nat) : Nat := if k < l.length ∧ stp q o (bt l k) = true then prs q o l (k + 1) else k
termination_by l.length - k
section
variable {q o : Int} {l : List UInt8} {k : Nat}
theorem prs_on (h1 : k < l.length) (h2 : stp q o (bt l k) = true) : prs q o l k = prs q o l (k + 1) := by rw [prs, if_pos ⟨h1, h2⟩]
theorem prs_end (h : ¬ (k < l.length ∧ stp q o (bt l k) = true)) : prs q o l k = k := by rw [prs, if_neg h]
theorem prs_ge (q o : Int) (l : List UInt8) (k : Nat) : k ≤ prs q o l k := by
  rw [prs]; split
  · have := prs_ge q o l (k + 1); omega
  · exact Nat.le_refl _
termination_by l.length - k
theorem prs_le {q o : Int} {l : List UInt8} {k : Nat} (h : k ≤ l.length) : prs q o l k ≤ l.length := by
  rw [prs]; split
  · rename_i hh; exact prs_le (by omega)
  · exact h
termination_by l.length - k
theorem prs_no (h : ¬ k < prs q o l k) : prs q o l k = k := by have := prs_ge q o l k; omega
theorem prs_not (h : ¬ k < prs q o l k) : ¬ (k < l.length ∧ stp q o (bt l k) = true) := fun hh => h (by rw [prs_on hh.1 hh.2]; exact prs_ge q o l (k + 1))
end
theorem plJ_pl (c : UInt8) : plJ (c.toNat : Int) = Tq.pl c := by
  have := Qu.byte_all (p := fun c => plJ (c.toNat : Int) == Tq.pl c) (by decide +kernel) c
  simpa using this
theorem Tq.pl_fd {c : UInt8} (h : Tq.pl c = true) (r : List UInt8) : Tq.fd (c :: r) = some 0 := by
  have h1 : c ≠ 10 := by rintro rfl; exact absurd h (by decide)
  have h2 : c ≠ 13 := by rintro rfl; exact absurd h (by decide)
  unfold Tq.fd; split <;> simp_all
theorem Tq.st_pl {q c : UInt8} {long : Bool} (h1 : c ≠ q) (h2 : ¬ (c = 92 ∧ q = 34)) (h : Tq.pl c = true) (r : List UInt8) : Tq.st q long (c :: r) = .go 1 [c] := by
  simp only [Tq.st]
  rw [if_neg h1, if_neg h2, if_neg (by rw [Tq.pl_fd h]; simp), if_pos h]
theorem cut_cons {l : List UInt8} {k n : Nat} {c : UInt8} {r : List UInt8} (hc : l.drop k = c :: r) (hn : k < n) : (l.take n).drop k = [c] ++ (l.take n).drop (k + 1) := by
  have hk : k < l.length := by
    rcases Nat.lt_or_ge k l.length with h | h
    · exact h
    · rw [List.drop_eq_nil_of_le h] at hc; cases hc
  have hl : k < (l.take n).length := by simp; omega
  rw [List.drop_eq_getElem_cons hl]
  have : (l.take n)[k] = c := by
    rw [List.getElem_take]
    have := List.drop_eq_getElem_cons hk
    rw [hc] at this
    injection this with this _
    exact this.symm
  rw [this]; rfl
/-- A stretch is read at once. -/
theorem rs_prs {q o : UInt8} {long : Bool} (hqo : q = 34 → o = 92) (l : List UInt8) (k : Nat) :
    Tq.rs q long (l.drop k) = (Tq.rs q long (l.drop (prs q.toNat o.toNat l k))).pre (prs q.toNat o.toNat l k - k) ((l.take (prs q.toNat o.toNat l k)).drop k) := by
  by_cases h : k < l.length ∧ stp q.toNat o.toNat (bt l k) = true
  · obtain ⟨h1, h2⟩ := h
    have ih := rs_prs (long := long) hqo l (k + 1)
    have hge := prs_ge q.toNat o.toNat l (k + 1)
    rw [← prs_on h1 h2] at ih hge
    obtain ⟨c, hc, hb⟩ := drop_bt h1
    rw [hb] at h2
    simp only [stp, Bool.and_eq_true, decide_eq_true_eq] at h2
    obtain ⟨⟨h3, h4⟩, h5⟩ := h2
    rw [plJ_pl] at h3
    have n1 : c ≠ q := by rintro rfl; exact h4 rfl
    have n2 : ¬ (c = 92 ∧ q = 34) := by rintro ⟨rfl, e⟩; rw [hqo e] at h5; exact h5 rfl
    have e : Tq.st q long (l.drop k) = .go 1 [c] := by rw [hc]; exact Tq.st_pl n1 n2 h3 _
    rw [Tq.rs_go e (by omega) (by simp; omega), List.drop_drop, ih, Tq.pre_pre, cut_cons hc (by omega)]
    congr 1; omega
  · have e := prs_end h
    rw [e, Nat.sub_self]
    have : (l.take k).drop k = [] := by simp
    rw [this]
    cases Tq.rs q long (l.drop k) <;> simp [Tq.R.pre]
termination_by l.length - k
theorem drop_none {l : List UInt8} {k : Nat} (h : ¬ k < l.length) : l.drop k = [] := List.drop_eq_nil_of_le (by omega)
/-- What stands at a place, by its number. -/
def tkC (l : List UInt8) (p : Nat) (c : Int) : Bool := decide (p < l.length ∧ bt l p = c)
theorem tkC_lt {l : List UInt8} {p : Nat} {c : Int} (h : tkC l p c = true) : p + 1 ≤ l.length := by simp [tkC] at h; exact h.1
theorem tkC_drop {l : List UInt8} {p : Nat} {c : UInt8} (h : tkC l p (c.toNat : Int) = true) : l.drop p = c :: l.drop (p + 1) := by
  simp only [tkC, decide_eq_true_eq] at h
  obtain ⟨d, hd, hb⟩ := drop_bt h.1
  rw [hd]
  have : d = c := UInt8.toNat_inj.1 (by have := hb.symm.trans h.2; omega)
  rw [this]
theorem tkC_not {l : List UInt8} {p : Nat} {c : UInt8} (h : tkC l p (c.toNat : Int) = false) : l.drop p = [] ∨ ∃ d, l.drop p = d :: l.drop (p + 1) ∧ d ≠ c ∧ p < l.length := by
  by_cases hp : p < l.length
  · obtain ⟨d, hd, hb⟩ := drop_bt hp
    refine .inr ⟨d, hd, ?_, hp⟩
    rintro rfl
    simp [tkC, hp, hb] at h
  · exact .inl (drop_none hp)
/-- Behind a stretch: neither end, nor backslash: it is wrong just there. -/
theorem st_off {q o : UInt8} {l : List UInt8} {k : Nat} (hp : ¬ k < prs q.toNat o.toNat l k) (hq : tkC l k q.toNat = false) (ho : tkC l k o.toNat = false) (h92 : q = 34 → o = 92) : Tq.rs q false (l.drop k) = .bad 0 := by
  refine Tq.rs_stop ?_
  rcases tkC_not hq with e | ⟨d, hd, n1, hl⟩
  · rw [e]; rfl
  rcases tkC_not ho with e | ⟨d', hd', n2, _⟩
  · rw [e]; rfl
  rw [hd] at hd'
  injection hd' with hd' _
  subst hd'
  have hn := prs_not hp
  obtain ⟨d2, hd2, hb⟩ := drop_bt hl
  rw [hd] at hd2
  injection hd2 with hd2 _
  subst hd2
  have hpl : Tq.pl d = false := by
    cases h : Tq.pl d with
    | false => rfl
    | true =>
      refine absurd ⟨hl, ?_⟩ hn
      rw [hb, stp, plJ_pl, h]
      have a : ¬ ((d.toNat : Int) = q.toNat) := toNat_ne n1
      have b : ¬ ((d.toNat : Int) = o.toNat) := toNat_ne n2
      simp [a, b]
  rw [hd]
  simp only [Tq.st]
  rw [if_neg n1, if_neg (fun e => n2 (by rw [h92 e.2]; exact e.1)), if_neg (by simp), if_neg (by simp [hpl])]
theorem st_q (q : UInt8) (r : List UInt8) : Tq.rs q false (q :: r) = .ok [] 1 := Tq.rs_stop (by simp only [Tq.st]; rw [if_pos trivial]; simp)
theorem st_92 (r : List UInt8) : Tq.st 34 false (92 :: r) = Tq.esS r := by
  simp only [Tq.st]
  rw [if_neg (by decide), if_pos ⟨trivial, trivial⟩]
  simp
theorem st_92L (r : List UInt8) : Tq.st 34 true (92 :: r) = (match Tq.fo r with | .bad k => .stop (.bad k) | .yes k => .go k [] | .no => Tq.esS r) := by
  simp only [Tq.st]
  rw [if_neg (by decide), if_pos ⟨trivial, trivial⟩]
  rfl
/-- The marks that stand at a place, up to five. -/
def mk5 (q : UInt8) (l : List UInt8) (k : Nat) : Nat := min (Tq.rnl q (l.drop k)) 5
theorem rnl_le (q : UInt8) : ∀ l : List UInt8, Tq.rnl q l ≤ l.length
  | [] => Nat.le_refl _
  | c :: r => by have := rnl_le q r; simp only [Tq.rnl, List.length_cons]; split <;> omega
theorem st_marks {q : UInt8} {l : List UInt8} {k : Nat} (h : 3 ≤ mk5 q l k) : Tq.rs q true (l.drop k) = .ok (List.replicate (mk5 q l k - 3) q) (mk5 q l k) := by
  unfold mk5 at h ⊢
  have hr := rnl_le q (l.drop k)
  match hd : l.drop k, h with
  | [], h => simp [Tq.rnl] at h
  | c :: r, h =>
    have hc : c = q := by
      by_cases e : c = q
      · exact e
      · simp [Tq.rnl, e] at h
    refine Tq.rs_stop ?_
    simp only [Tq.st]
    rw [if_pos hc, if_pos trivial, if_pos (by omega)]
    have e1 : min (Tq.rnl q (c :: r) - 3) 2 = min (Tq.rnl q (c :: r)) 5 - 3 := by omega
    rw [e1]
    congr 2; omega
theorem rnl_drop (q : UInt8) : ∀ (l : List UInt8) (n : Nat), n ≤ Tq.rnl q l → Tq.rnl q (l.drop n) = Tq.rnl q l - n
  | l, 0, _ => by simp
  | [], n + 1, h => by simp [Tq.rnl] at h
  | c :: r, n + 1, h => by
    by_cases e : c = q
    · simp only [Tq.rnl, if_pos e] at h ⊢
      rw [List.drop_succ_cons, rnl_drop q r n (by omega)]; omega
    · simp [Tq.rnl, e] at h
theorem rs_marks {q : UInt8} {l : List UInt8} {k : Nat} (h : mk5 q l k < 3) : Tq.rs q true (l.drop k) = (Tq.rs q true (l.drop (k + mk5 q l k))).pre (mk5 q l k) (List.replicate (mk5 q l k) q) ∧ tkC l (k + mk5 q l k) q.toNat = false := by
  have e0 : mk5 q l k = Tq.rnl q (l.drop k) := by unfold mk5 at h ⊢; omega
  have hr := rnl_le q (l.drop k)
  have hz := rnl_drop q (l.drop k) _ (Nat.le_refl (Tq.rnl q (l.drop k)))
  rw [List.drop_drop, Nat.sub_self, ← e0] at hz
  refine ⟨?_, ?_⟩
  · rcases Nat.eq_zero_or_pos (mk5 q l k) with h0 | h0
    · rw [h0]; simp only [Nat.add_zero, List.replicate_zero]
      cases Tq.rs q true (l.drop k) <;> simp [Tq.R.pre]
    · have e : Tq.st q true (l.drop k) = .go (mk5 q l k) (List.replicate (mk5 q l k) q) := by
        match hd : l.drop k, e0 with
        | [], e0 => rw [e0] at h0; simp [Tq.rnl] at h0
        | c :: r, e0 =>
          have hc : c = q := by
            by_cases e : c = q
            · exact e
            · rw [e0] at h0; simp [Tq.rnl, e] at h0
          simp only [Tq.st]
          rw [if_pos hc, if_pos trivial, if_neg (by omega), ← e0]
      rw [Tq.rs_go e h0 (by rw [← e0] at hr; exact hr), List.drop_drop]
  · cases ht : tkC l (k + mk5 q l k) q.toNat with
    | false => rfl
    | true =>
      rw [tkC_drop ht] at hz
      simp [Tq.rnl] at hz
/-- A line's end, as the program takes it: whether it is one, and where it then stands. -/
def leB (l : List UInt8) (p : Nat) : Bool := match Tq.fd (l.drop p) with | some (_ + 1) => true | _ => false
def leP (l : List UInt8) (p : Nat) : Nat := match Tq.fd (l.drop p) with | some n => p + n | none => p + 1
theorem le_tk (l : List UInt8) (p : Nat) : leB l p = tkC l (if tkC l p 13 = true then p + 1 else p) 10 ∧ leP l p = (if leB l p = true then (if tkC l p 13 = true then p + 1 else p) + 1 else (if tkC l p 13 = true then p + 1 else p)) := by
  cases h13 : tkC l p 13 with
  | true =>
    have hd := tkC_drop (c := 13) h13
    have hl := tkC_lt h13
    cases h10 : tkC l (p + 1) 10 with
    | true =>
      have hd2 := tkC_drop (c := 10) h10
      rw [hd2] at hd
      have e : Tq.fd (l.drop p) = some 2 := by rw [hd]; rfl
      have eB : leB l p = true := by rw [leB, e]
      rw [eB, leP, e]; simp [h10]
    | false =>
      have e : Tq.fd (l.drop p) = none := by
        rw [hd]
        rcases tkC_not (c := 10) h10 with e | ⟨d, e, n, _⟩
        · rw [e]; rfl
        · rw [e]; unfold Tq.fd; split <;> simp_all
      have eB : leB l p = false := by rw [leB, e]
      rw [eB, leP, e]; simp [h10]
  | false =>
    cases h10 : tkC l p 10 with
    | true =>
      have hd2 := tkC_drop (c := 10) h10
      have e : Tq.fd (l.drop p) = some 1 := by rw [hd2]; rfl
      have eB : leB l p = true := by rw [leB, e]
      rw [eB, leP, e]; simp [h10]
    | false =>
      have e : Tq.fd (l.drop p) = some 0 := by
        rcases tkC_not (c := 10) h10 with e | ⟨d, e, n, _⟩
        · rw [e]; rfl
        · rcases tkC_not (c := 13) h13 with e' | ⟨d', e', n', _⟩
          · rw [e']; rfl
          · rw [e] at e'
            injection e' with e' _
            subst e'
            rw [e]; unfold Tq.fd; split <;> simp_all
      have eB : leB l p = false := by rw [leB, e]
      rw [eB, leP, e]; simp [h10]
theorem fd_le (l : List UInt8) {n : Nat} (h : Tq.fd l = some n) : n ≤ l.length ∧ n ≤ 2 := by
  unfold Tq.fd at h
  split at h <;> simp at h <;> subst h <;> simp
theorem leP_le {l : List UInt8} {p : Nat} (hp : p ≤ l.length) : p ≤ leP l p ∧ leP l p ≤ l.length := by
  unfold leP
  cases h : Tq.fd (l.drop p) with
  | some n => have := fd_le _ h; simp at this; simp only; omega
  | none =>
    have : l.drop p ≠ [] := by intro e; rw [e] at h; cases h
    have h2 : p < l.length := by
      rcases Nat.lt_or_ge p l.length with h2 | h2
      · exact h2
      · exact absurd (List.drop_eq_nil_of_le h2) this
    simp only; omega
theorem leB_lt {l : List UInt8} {p : Nat} (h : leB l p = true) : p < leP l p := by
  unfold leB at h; unfold leP
  split at h
  · rename_i e; rw [e]; simp only; omega
  · cases h
/-- A line's end in a long string, where no mark and no backslash stands (or: in a literal one, no mark). -/
theorem rs_line {q o : UInt8} {l : List UInt8} {k : Nat} (hp : ¬ k < prs q.toNat o.toNat l k) (hq : tkC l k q.toNat = false) (ho : tkC l k o.toNat = false) (h92 : q = 34 → o = 92) (hk : k ≤ l.length) :
    (leB l k = true → Tq.rs q true (l.drop k) = (Tq.rs q true (l.drop (leP l k))).pre (leP l k - k) ((l.take (leP l k)).drop k)) ∧ (leB l k = false → Tq.rs q true (l.drop k) = .bad (leP l k - k)) := by
  rcases tkC_not hq with e | ⟨d, hd, n1, hl⟩
  · have h1 : leB l k = false := by rw [leB, e]; rfl
    have h2 : leP l k = k := by rw [leP, e]; rfl
    refine ⟨fun h => absurd h (by rw [h1]; decide), fun _ => ?_⟩
    rw [h2, Nat.sub_self]
    refine Tq.rs_stop ?_
    rw [e]; rfl
  rcases tkC_not ho with e | ⟨d', hd', n2, _⟩
  · rw [e] at hd; cases hd
  rw [hd] at hd'
  injection hd' with hd' _
  subst hd'
  have hn := prs_not hp
  obtain ⟨d2, hd2, hb⟩ := drop_bt hl
  rw [hd] at hd2
  injection hd2 with hd2 _
  subst hd2
  have hpl : Tq.pl d = false := by
    cases h : Tq.pl d with
    | false => rfl
    | true =>
      refine absurd ⟨hl, ?_⟩ hn
      rw [hb, stp, plJ_pl, h]
      have a : ¬ ((d.toNat : Int) = q.toNat) := toNat_ne n1
      have b : ¬ ((d.toNat : Int) = o.toNat) := toNat_ne n2
      simp [a, b]
  have hst : Tq.st q true (l.drop k) = if Tq.fd (l.drop k) ≠ some 0 then (match Tq.fd (l.drop k) with | none => .stop (.bad 1) | some n => .go n ((l.drop k).take n)) else .stop (.bad 0) := by
    rw [hd]
    simp only [Tq.st]
    rw [if_neg n1, if_neg (fun e => n2 (by rw [h92 e.2]; exact e.1))]
    by_cases hf : Tq.fd (d :: l.drop (k + 1)) = some 0
    · rw [if_neg (fun h => h.2 hf), if_neg (by simp [hpl]), if_neg (fun h => h hf)]
    · rw [if_pos ⟨trivial, hf⟩, if_pos hf]
      rfl
  have hle := leP_le hk
  cases hf : Tq.fd (l.drop k) with
  | none =>
    have h1 : leB l k = false := by rw [leB, hf]
    have h2 : leP l k = k + 1 := by rw [leP, hf]
    refine ⟨fun h => absurd h (by rw [h1]; decide), fun _ => ?_⟩
    rw [h2, show k + 1 - k = 1 by omega]
    refine Tq.rs_stop ?_
    rw [hst, hf]; rfl
  | some n =>
    have h2 : leP l k = k + n := by rw [leP, hf]
    cases n with
    | zero =>
      have h1 : leB l k = false := by rw [leB, hf]
      refine ⟨fun h => absurd h (by rw [h1]; decide), fun _ => ?_⟩
      rw [h2, show k + 0 - k = 0 by omega]
      refine Tq.rs_stop ?_
      rw [hst, hf]; rfl
    | succ n =>
      have h1 : leB l k = true := by rw [leB, hf]
      refine ⟨fun _ => ?_, fun h => absurd h (by rw [h1]; decide)⟩
      rw [h2] at hle ⊢
      have e : Tq.st q true (l.drop k) = .go (n + 1) ((l.drop k).take (n + 1)) := by rw [hst, hf]; rfl
      rw [Tq.rs_go e (by omega) (by simp; omega), List.drop_drop, show k + (n + 1) - k = n + 1 by omega, List.drop_take, show k + (n + 1) - k = n + 1 by omega]
end Go.Proofs.YtpdaelcoiilkkaaDoor
