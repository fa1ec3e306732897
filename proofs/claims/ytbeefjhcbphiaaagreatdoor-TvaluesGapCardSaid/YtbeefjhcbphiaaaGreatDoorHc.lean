/- Strings of TOML by stretches, as the program goes through them (lists alone). -/
import Derived.Test.YtbeefjhcbphiaaaGreatDoorHb
import Derived.BigQuiet
import Derived.Deep.QuietTactic
import Derived.Lib.Strings
namespace Go.Proofs.YtbeefjhcbphiaaaGreatDoor
open Go.RowKit

/-- May a byte stand in a stretch that ends ahead of q and o? -/
def plJ (c : Int) : Bool := decide (c = 9 ∨ 32 ≤ c ∧ c ≠ 127)
def stp (q o c : Int) : Bool := plJ c && decide (c ≠ q) && decide (c ≠ o)
def prs (q o : Int) (l : List UInt8) (k : Nat) : Nat := if k < l.length ∧ stp q o (bt l k) = true then prs q o l (k + 1) else k
termination_by l.length - k
section
variable {q o : Int} {l : List UInt8} {k : Nat}
theorem prs_on (h1 : k < l.length) (h2 : stp q o (bt l k) = true) : prs q o l k = prs q o l (k + 1) := by rw [prs, if_pos ⟨h1, h2⟩]
theorem prs_end (h : ¬ (k < l.length ∧ stp q o (bt l k) = true)) : prs q o l k = k := by rw [prs, if_neg h]
theorem prs_ge (q o : Int) (l : List UInt8) (k : Nat) : k ≤ prs q o l k := by
  rw [prs]; split
  · have := prs_ge q o l (k + 1); omega
  · exact Nat.le_refl _
termination_by l.length - k
theorem prs_le {q o : Int} {l : List UInt8} {k : Nat} (h : k ≤ l.length) : prs q o l k ≤ l.length := by
  rw [prs]; split
  · rename_i hh; exact prs_le (by omega)
  · exact h
termination_by l.length - k
theorem prs_no (h : ¬ k < prs q o l k) : prs q o l k = k := by have := prs_ge q o l k; omega
theorem prs_not (h : ¬ k < prs q o l k) : ¬ (k < l.length ∧ stp q o (bt l k) = true) := fun hh => h (by rw [prs_on hh.1 hh.2]; exact prs_ge q o l (k + 1))
end
theorem plJ_pl (c : UInt8) : plJ (c.toNat : Int) = Tq.pl c := by
  have := Qu.byte_all (p := fun c => plJ (c.toNat : Int) == Tq.pl c) (by decide +kernel) c
  simpa using this
theorem Tq.pl_fd {c : UInt8} (h : Tq.pl c = true) (r : List UInt8) : Tq.fd (c :: r) = some 0 := by
  have h1 : c ≠ 10 := by rintro rfl; exact absurd h (by decide)
  have h2 : c ≠ 13 := by rintro rfl; exact absurd h (by decide)
  unfold Tq.fd; split <;> simp_all
theorem Tq.st_pl {q c : UInt8} {long : Bool} (h1 : c ≠ q) (h2 : ¬ (c = 92 ∧ q = 34)) (h : Tq.pl c = true) (r : List UInt8) : Tq.st q long (c :: r) = .go 1 [c] := by
  simp only [Tq.st]
  rw [if_neg h1, if_neg h2, if_neg (by rw [Tq.pl_fd h]; simp), if_pos h]
theorem cut_cons {l : List UInt8} {k n : Nat} {c : UInt8} {r : List UInt8} (hc : l.drop k = c :: r) (hn : k < n) : (l.take n).drop k = [c] ++ (l.take n).drop (k + 1) := by
  have hk : k < l.length := by
    rcases Nat.lt_or_ge k l.length with h | h
    · exact h
    · rw [List.drop_eq_nil_of_le h] at hc; cases hc
  have hl : k < (l.take n).length := by simp; omega
  rw [List.drop_eq_getElem_cons hl]
  have : (l.take n)[k] = c := by
    rw [List.getElem_take]
    have := List.drop_eq_getElem_cons hk
    rw [hc] at this
    injection this with this _
    exact this.symm
  rw [this]; rfl
/-- A stretch is read at once. -/
theorem rs_prs {q o : UInt8} {long : Bool} (hqo : q = 34 → o = 92) (l : List UInt8) (k : Nat) :
    Tq.rs q long (l.drop k) = (Tq.rs q long (l.drop (prs q.toNat o.toNat l k))).pre (prs q.toNat o.toNat l k - k) ((l.take (prs q.toNat o.toNat l k)).drop k) := by
  by_cases h : k < l.length ∧ stp q.toNat o.toNat (bt l k) = true
  · obtain ⟨h1, h2⟩ := h
    have ih := rs_prs (long := long) hqo l (k + 1)
    have hge := prs_ge q.toNat o.toNat l (k + 1)
    rw [← prs_on h1 h2] at ih hge
    obtain ⟨c, hc, hb⟩ := drop_bt h1
    rw [hb] at h2
    simp only [stp, Bool.and_eq_true, decide_eq_true_eq] at h2
    obtain ⟨⟨h3, h4⟩, h5⟩ := h2
    rw [plJ_pl] at h3
    have n1 : c ≠ q := by rintro rfl; exact h4 rfl
    have n2 : ¬ (c = 92 ∧ q = 34) := by rintro ⟨rfl, e⟩; rw [hqo e] at h5; exact h5 rfl
    have e : Tq.st q long (l.drop k) = .go 1 [c] := by rw [hc]; exact Tq.st_pl n1 n2 h3 _
    rw [Tq.rs_go e (by omega) (by simp; omega), List.drop_drop, ih, Tq.pre_pre, cut_cons hc (by omega)]
    congr 1; omega
  · have e := prs_end h
    rw [e, Nat.sub_self]
    have : (l.take k).drop k = [] := by simp
    rw [this]
    cases Tq.rs q long (l.drop k) <;> simp [Tq.R.pre]
termination_by l.length - k
theorem drop_none {l : List UInt8} {k : Nat} (h : ¬ k < l.length) : l.drop k = [] := List.drop_eq_nil_of_le (by omega)
/-- What stands at a place, by its number. -/
def tkC (l : List UInt8) (p : Nat) (c : Int) : Bool := decide (p < l.length ∧ bt l p = c)
theorem tkC_lt {l : List UInt8} {p : Nat} {c : Int} (h : tkC l p c = true) : p + 1 ≤ l.length := by simp [tkC] at h; exact h.1
theorem tkC_drop {l : List UInt8} {p : Nat} {c : UInt8} (h : tkC l p (c.toNat : Int) = true) : l.drop p = c :: l.drop (p + 1) := by
  simp only [tkC, decide_eq_true_eq] at h
  obtain ⟨d, hd, hb⟩ := drop_bt h.1
  rw [hd]
  have : d = c := UInt8.toNat_inj.1 (by have := hb.symm.trans h.2; omega)
  rw [this]
theorem tkC_not {l : List UInt8} {p : Nat} {c : UInt8} (h : tkC l p (c.toNat : Int) = false) : l.drop p = [] ∨ ∃ d, l.drop p = d :: l.drop (p + 1) ∧ d ≠ c ∧ p < l.length := by
  by_cases hp : p < l.length
  · obtain ⟨d, hd, hb⟩ := drop_bt hp
    refine .inr ⟨d, hd, ?_, hp⟩
    rintro rfl
    simp [tkC, hp, hb] at h
  · exact .inl (drop_none hp)
/-- Behind a stretch: neither end, nor backslash: it is wrong just there. -/
theorem st_off {q o : UInt8} {l : List UInt8} {k : Nat} (hp : ¬ k < prs q.toNat o.toNat l k) (hq : tkC l k q.toNat = false) (ho : tkC l k o.toNat = false) (h92 : q = 34 → o = 92) : Tq.rs q false (l.drop k) = .bad 0 := by
  refine Tq.rs_stop ?_
  rcases tkC_not hq with e | ⟨d, hd, n1, hl⟩
  · rw [e]; rfl
  rcases tkC_not ho with e | ⟨d', hd', n2, _⟩
  · rw [e]; rfl
  rw [hd] at hd'
  injection hd' with hd' _
  subst hd'
  have hn := prs_not hp
  obtain ⟨d2, hd2, hb⟩ := drop_bt hl
  rw [hd] at hd2
  injection hd2 with hd2 _
  subst hd2
  have hpl : Tq.pl d = false := by
    cases h : Tq.pl d with
    | false => rfl
    | true =>
      refine absurd ⟨hl, ?_⟩ hn
      rw [hb, stp, plJ_pl, h]
      have a : ¬ ((d.toNat : Int) = q.toNat) := toNat_ne n1
      have b : ¬ ((d.toNat : Int) = o.toNat) := toNat_ne n2
      simp [a, b]
  rw [hd]
  simp only [Tq.st]
  rw [if_neg n1, if_neg (fun e => n2 (by rw [h92 e.2]; exact e.1)), if_neg (by simp), if_neg (by simp [hpl])]
theorem st_q (q : UInt8) (r : List UInt8) : Tq.rs q false (q :: r) = .ok [] 1 := Tq.rs_stop (by simp only [Tq.st]; rw [if_pos trivial]; simp)
theorem st_92 (r : List UInt8) : Tq.st 34 false (92 :: r) = Tq.esS r := by
  simp only [Tq.st]
  rw [if_neg (by decide), if_pos ⟨trivial, trivial⟩]
  simp
theorem st_92L (r : List UInt8) : Tq.st 34 true (92 :: r) = (match Tq.fo r with | .bad k => .stop (.bad k) | .yes k => .go k [] | .no => Tq.esS r) := by
  simp only [Tq.st]
  rw [if_neg (by decide), if_pos ⟨trivial, trivial⟩]
  rfl
/-- The marks that stand at a place, up to five. -/
def mk5 (q : UInt8) (l : List UInt8) (k : Nat) : Nat := min (Tq.rnl q (l.drop k)) 5
theorem rnl_le (q : UInt8) : ∀ l : List UInt8, Tq.rnl q l ≤ l.length
  | [] => Nat.le_refl _
  | c :: r => by have := rnl_le q r; simp only [Tq.rnl, List.length_cons]; split <;> omega
theorem st_marks {q : UInt8} {l : List UInt8} {k : Nat} (h : 3 ≤ mk5 q l k) : Tq.rs q true (l.drop k) = .ok (List.replicate (mk5 q l k - 3) q) (mk5 q l k) := by
  unfold mk5 at h ⊢
  have hr := rnl_le q (l.drop k)
  match hd : l.drop k, h with
  | [], h => simp [Tq.rnl] at h
  | c :: r, h =>
    have hc : c = q := by
      by_cases e : c = q
      · exact e
      · simp [Tq.rnl, e] at h
    refine Tq.rs_stop ?_
    simp only [Tq.st]
    rw [if_pos hc, if_pos trivial, if_pos (by omega)]
    have e1 : min (Tq.rnl q (c :: r) - 3) 2 = min (Tq.rnl q (c :: r)) 5 - 3 := by omega
    rw [e1]
    congr 2; omega
theorem rnl_drop (q : UInt8) : ∀ (l : List UInt8) (n : Nat), n ≤ Tq.rnl q l → Tq.rnl q (l.drop n) = Tq.rnl q l - n
  | l, 0, _ => by simp
  | [], n + 1, h => by simp [Tq.rnl] at h
  | c :: r, n + 1, h => by
    by_cases e : c = q
    · simp only [Tq.rnl, if_pos e] at h ⊢
      rw [List.drop_succ_cons, rnl_drop q r n (by omega)]; omega
    · simp [Tq.rnl, e] at h
theorem rs_marks {q : UInt8} {l : List UInt8} {k : Nat} (h : mk5 q l k < 3) : Tq.rs q true (l.drop k) = (Tq.rs q true (l.drop (k + mk5 q l k))).pre (mk5 q l k) (List.replicate (mk5 q l k) q) ∧ tkC l (k + mk5 q l k) q.toNat = false := by
  have e0 : mk5 q l k = Tq.rnl q (l.drop k) := by unfold mk5 at h ⊢; omega
  have hr := rnl_le q (l.drop k)
  have hz := rnl_drop q (l.drop k) _ (Nat.le_refl (Tq.rnl q (l.drop k)))
  rw [List.drop_drop, Nat.sub_self, ← e0] at hz
  refine ⟨?_, ?_⟩
  · rcases Nat.eq_zero_or_pos (mk5 q l k) with h0 | h0
    · rw [h0]; simp only [Nat.add_zero, List.replicate_zero]
      cases Tq.rs q true (l.drop k) <;> simp [Tq.R.pre]
    · have e : Tq.st q true (l.drop k) = .go (mk5 q l k) (List.replicate (mk5 q l k) q) := by
        match hd : l.drop k, e0 with
        | [], e0 => rw [e0] at h0; simp [Tq.rnl] at h0
        | c :: r, e0 =>
          have hc : c = q := by
            by_cases e : c = q
            · exact e
            · rw [e0] at h0; simp [Tq.rnl, e] at h0
          simp only [Tq.st]
          rw [if_pos hc, if_pos trivial, if_neg (by omega), ← e0]
      rw [Tq.rs_go e h0 (by rw [← e0] at hr; exact hr), List.drop_drop]
  · cases ht : tkC l (k + mk5 q l k) q.toNat with
    | false => rfl
    | true =>
      rw [tkC_drop ht] at hz
      simp [Tq.rnl] at hz
/-- A line's end, as the program takes it: whether it is one, and where it then stands. -/
def leB (l : List UInt8) (p : Nat) : Bool := match Tq.fd (l.drop p) with | some (_ + 1) => true | _ => false
def leP (l : List UInt8) (p : Nat) : Nat := match Tq.fd (l.drop p) with | some n => p + n | none => p + 1
theorem le_tk (l : List UInt8) (p : Nat) : leB l p = tkC l (if tkC l p 13 = true then p + 1 else p) 10 ∧ leP l p = (if leB l p = true then (if tkC l p 13 = true then p + 1 else p) + 1 else (if tkC l p 13 = true then p + 1 else p)) := by
  cases h13 : tkC l p 13 with
  | true =>
    have hd := tkC_drop (c := 13) h13
    have hl := tkC_lt h13
    cases h10 : tkC l (p + 1) 10 with
    | true =>
      have hd2 := tkC_drop (c := 10) h10
      rw [hd2] at hd
      have e : Tq.fd (l.drop p) = some 2 := by rw [hd]; rfl
      have eB : leB l p = true := by rw [leB, e]
      rw [eB, leP, e]; simp [h10]
    | false =>
      have e : Tq.fd (l.drop p) = none := by
        rw [hd]
        rcases tkC_not (c := 10) h10 with e | ⟨d, e, n, _⟩
        · rw [e]; rfl
        · rw [e]; unfold Tq.fd; split <;> simp_all
      have eB : leB l p = false := by rw [leB, e]
      rw [eB, leP, e]; simp [h10]
  | false =>
    cases h10 : tkC l p 10 with
    | true =>
      have hd2 := tkC_drop (c := 10) h10
      have e : Tq.fd (l.drop p) = some 1 := by rw [hd2]; rfl
      have eB : leB l p = true := by rw [leB, e]
      rw [eB, leP, e]; simp [h10]
    | false =>
      have e : Tq.fd (l.drop p) = some 0 := by
        rcases tkC_not (c := 10) h10 with e | ⟨d, e, n, _⟩
        · rw [e]; rfl
        · rcases tkC_not (c := 13) h13 with e' | ⟨d', e', n', _⟩
          · rw [e']; rfl
          · rw [e] at e'
            injection e' with e' _
            subst e'
            rw [e]; unfold Tq.fd; split <;> simp_all
      have eB : leB l p = false := by rw [leB, e]
      rw [eB, leP, e]; simp [h10]
theorem fd_le (l : List UInt8) {n : Nat} (h : Tq.fd l = some n) : n ≤ l.length ∧ n ≤ 2 := by
  unfold Tq.fd at h
  split at h <;> simp at h <;> subst h <;> simp
theorem leP_le {l : List UInt8} {p : Nat} (hp : p ≤ l.length) : p ≤ leP l p ∧ leP l p ≤ l.length := by
  unfold leP
  cases h : Tq.fd (l.drop p) with
  | some n => have := fd_le _ h; simp at this; simp only; omega
  | none =>
    have : l.drop p ≠ [] := by intro e; rw [e] at h; cases h
    have h2 : p < l.length := by
      rcases Nat.lt_or_ge p l.length with h2 | h2
      · exact h2
      · exact absurd (List.drop_eq_nil_of_le h2) this
    simp only; omega
theorem leB_lt {l : List UInt8} {p : Nat} (h : leB l p = true) : p < leP l p := by
  unfold leB at h; unfold leP
  split at h
  · rename_i e; rw [e]; simp only; omega
  · cases h
/-- A line's end in a long string, where no mark and no backslash stands (or: in a literal one, no mark). -/
theorem rs_line {q o : UInt8} {l : List UInt8} {k : Nat} (hp : ¬ k < prs q.toNat o.toNat l k) (hq : tkC l k q.toNat = false) (ho : tkC l k o.toNat = false) (h92 : q = 34 → o = 92) (hk : k ≤ l.length) :
    (leB l k = true → Tq.rs q true (l.drop k) = (Tq.rs q true (l.drop (leP l k))).pre (leP l k - k) ((l.take (leP l k)).drop k)) ∧ (leB l k = false → Tq.rs q true (l.drop k) = .bad (leP l k - k)) := by
  rcases tkC_not hq with e | ⟨d, hd, n1, hl⟩
  · have h1 : leB l k = false := by rw [leB, e]; rfl
    have h2 : leP l k = k := by rw [leP, e]; rfl
    refine ⟨fun h => absurd h (by rw [h1]; decide), fun _ => ?_⟩
    rw [h2, Nat.sub_self]
    refine Tq.rs_stop ?_
    rw [e]; rfl
  rcases tkC_not ho with e | ⟨d', hd', n2, _⟩
  · rw [e] at hd; cases hd
  rw [hd] at hd'
  injection hd' with hd' _
  subst hd'
  have hn := prs_not hp
  obtain ⟨d2, hd2, hb⟩ := drop_bt hl
  rw [hd] at hd2
  injection hd2 with hd2 _
  subst hd2
  have hpl : Tq.pl d = false := by
    cases h : Tq.pl d with
    | false => rfl
    | true =>
      refine absurd ⟨hl, ?_⟩ hn
      rw [hb, stp, plJ_pl, h]
      have a : ¬ ((d.toNat : Int) = q.toNat) := toNat_ne n1
      have b : ¬ ((d.toNat : Int) = o.toNat) := toNat_ne n2
      simp [a, b]
  have hst : Tq.st q true (l.drop k) = if Tq.fd (l.drop k) ≠ some 0 then (match Tq.fd (l.drop k) with | none => .stop (.bad 1) | some n => .go n ((l.drop k).take n)) else .stop (.bad 0) := by
    rw [hd]
    simp only [Tq.st]
    rw [if_neg n1, if_neg (fun e => n2 (by rw [h92 e.2]; exact e.1))]
    by_cases hf : Tq.fd (d :: l.drop (k + 1)) = some 0
    · rw [if_neg (fun h => h.2 hf), if_neg (by simp [hpl]), if_neg (fun h => h hf)]
    · rw [if_pos ⟨trivial, hf⟩, if_pos hf]
      rfl
  have hle := leP_le hk
  cases hf : Tq.fd (l.drop k) with
  | none =>
    have h1 : leB l k = false := by rw [leB, hf]
    have h2 : leP l k = k + 1 := by rw [leP, hf]
    refine ⟨fun h => absurd h (by rw [h1]; decide), fun _ => ?_⟩
    rw [h2, show k + 1 - k = 1 by omega]
    refine Tq.rs_stop ?_
    rw [hst, hf]; rfl
  | some n =>
    have h2 : leP l k = k + n := by rw [leP, hf]
    cases n with
    | zero =>
      have h1 : leB l k = false := by rw [leB, hf]
      refine ⟨fun h => absurd h (by rw [h1]; decide), fun _ => ?_⟩
      rw [h2, show k + 0 - k = 0 by omega]
      refine Tq.rs_stop ?_
      rw [hst, hf]; rfl
    | succ n =>
      have h1 : leB l k = true := by rw [leB, hf]
      refine ⟨fun _ => ?_, fun h => absurd h (by rw [h1]; decide)⟩
      rw [h2] at hle ⊢
      have e : Tq.st q true (l.drop k) = .go (n + 1) ((l.drop k).take (n + 1)) := by rw [hst, hf]; rfl
      rw [Tq.rs_go e (by omega) (by simp; omega), List.drop_drop, show k + (n + 1) - k = n + 1 by omega, List.drop_take, show k + (n + 1) - k = n + 1 by omega]
end Go.Proofs.YtbeefjhcbphiaaaGreatDoor
/- The small functions of TOML's strings: plain bytes, digits, runes' numbers; what a text begins with. -/
namespace Go.Proofs.YtbeefjhcbphiaaaGreatDoor
open Go.RowKit

theorem same_symm {P : Program} {f : FuncId} {args : Array Value} {w : World} {v : Value} (h : Calls P f args w fun e w' => e = .returned v ∧ w = w') : Calls P f args w fun e w' => e = .returned v ∧ w' = w :=
  h.mono fun _ _ ⟨a, b⟩ => ⟨a, b.symm⟩
/-- A digit's value; -1: none. -/
def dgI (c : Int) : Int := if 48 ≤ c ∧ c ≤ 57 then c - 48 else if 97 ≤ c ∧ c ≤ 102 then c - 87 else if 65 ≤ c ∧ c ≤ 70 then c - 55 else -1
theorem dgI_dig (c : UInt8) : dgI (c.toNat : Int) = match Qu.dig c with | some d => (d : Int) | none => -1 := by
  unfold dgI Qu.dig
  by_cases a : 48 ≤ c.toNat ∧ c.toNat ≤ 57
  · rw [if_pos (by omega), if_pos a]; simp only; omega
  rw [if_neg (by omega), if_neg a]
  by_cases a : 97 ≤ c.toNat ∧ c.toNat ≤ 102
  · rw [if_pos (by omega), if_pos a]; simp only; omega
  rw [if_neg (by omega), if_neg a]
  by_cases a : 65 ≤ c.toNat ∧ c.toNat ≤ 70
  · rw [if_pos (by omega), if_pos a]; simp only; omega
  rw [if_neg (by omega), if_neg a]
theorem dgI_bd (c : Int) : -1 ≤ dgI c ∧ dgI c ≤ 15 := by unfold dgI; repeat' split
                                                         all_goals omega
theorem sub8 {c k : Int} (h : k ≤ c) (h0 : 0 ≤ k) (h1 : c ≤ 255) : IntKind.u8.wrap (c - k) = c - k := by rw [IntKind.wrap_u8']; omega
theorem digit_any (c : Int) (h0 : 0 ≤ c) (h1 : c ≤ 255) (w : World) : Calls Tryz.prog 278 #[.int .u8 c] w fun e w' => e = .returned (.int .i64 (dgI c)) ∧ w = w' := by
  by_cases a1 : 48 ≤ c
  · by_cases a2 : c ≤ 57
    · have E := Lib.hid (show dgI c = c - 48 by rw [dgI, if_pos (by omega)])
      have hw := sub8 (c := c) (k := 48) (by omega) (by omega) h1
      have hw2 := h1
      go_enter Tryz.func278, Tryz.ntmps278
      go_wp2_with fail
      go_ret
      exact ⟨ret_int (by rw [E.out]; try omega), rfl⟩
    · by_cases b1 : 97 ≤ c
      · by_cases b2 : c ≤ 102
        · have E := Lib.hid (show dgI c = c - 87 by rw [dgI, if_neg (by omega), if_pos (by omega)])
          have hw := sub8 (c := c) (k := 97) (by omega) (by omega) h1
          have hw2 := h1
          go_enter Tryz.func278, Tryz.ntmps278
          go_wp2_with fail
          go_ret
          exact ⟨ret_int (by rw [E.out]; try omega), rfl⟩
        · have E := Lib.hid (show dgI c = -1 by rw [dgI, if_neg (by omega), if_neg (by omega), if_neg (by omega)])
          go_enter Tryz.func278, Tryz.ntmps278
          go_wp2_with fail
          go_ret
          exact ⟨ret_int (by rw [E.out]; try omega), rfl⟩
      · by_cases d1 : 65 ≤ c
        · by_cases d2 : c ≤ 70
          · have E := Lib.hid (show dgI c = c - 55 by rw [dgI, if_neg (by omega), if_neg (by omega), if_pos (by omega)])
            have hw := sub8 (c := c) (k := 65) (by omega) (by omega) h1
            have hw2 := h1
            go_enter Tryz.func278, Tryz.ntmps278
            go_wp2_with fail
            go_ret
            exact ⟨ret_int (by rw [E.out]; try omega), rfl⟩
          · have E := Lib.hid (show dgI c = -1 by rw [dgI, if_neg (by omega), if_neg (by omega), if_neg (by omega)])
            go_enter Tryz.func278, Tryz.ntmps278
            go_wp2_with fail
            go_ret
            exact ⟨ret_int (by rw [E.out]; try omega), rfl⟩
        · have E := Lib.hid (show dgI c = -1 by rw [dgI, if_neg (by omega), if_neg (by omega), if_neg (by omega)])
          go_enter Tryz.func278, Tryz.ntmps278
          go_wp2_with fail
          go_ret
          exact ⟨ret_int (by rw [E.out]; try omega), rfl⟩
  · have E := Lib.hid (show dgI c = -1 by rw [dgI, if_neg (by omega), if_neg (by omega), if_neg (by omega)])
    go_enter Tryz.func278, Tryz.ntmps278
    go_wp2_with fail
    go_ret
    exact ⟨ret_int (by rw [E.out]; try omega), rfl⟩
theorem plainJ_any (c : Int) (w : World) : Calls Tryz.prog 73 #[.int .u8 c] w fun e w' => e = .returned (.bool (plJ c)) ∧ w = w' := by
  by_cases h1 : c = 9
  · subst h1
    go_enter Tryz.func73, Tryz.ntmps73
    go_wp2_with fail
    go_ret
    exact ⟨rfl, rfl⟩
  · have d1 : (c == 9) = false := by simp [h1]
    by_cases h2 : 32 ≤ c
    · by_cases h3 : c = 127
      · subst h3
        go_enter Tryz.func73, Tryz.ntmps73
        go_wp2_with fail
        go_ret
        exact ⟨rfl, rfl⟩
      · have E := Lib.hid (show plJ c = true by simp [plJ]; omega)
        have d2 : (c != 127) = true := by simp [h3]
        go_enter Tryz.func73, Tryz.ntmps73
        go_wp2_with fail
        go_ret
        exact ⟨by rw [E.out]; rfl, rfl⟩
    · have E := Lib.hid (show plJ c = false by simp [plJ]; omega)
      go_enter Tryz.func73, Tryz.ntmps73
      go_wp2_with fail
      go_ret
      exact ⟨by rw [E.out]; rfl, rfl⟩
theorem plainJ_is {c : Int} {x : Bool} (hx : x = plJ c) (w : World) : Calls Tryz.prog 73 #[.int .u8 c] w fun e w' => e = .returned (.bool x) ∧ w = w' := hx ▸ plainJ_any c w
theorem digit_is {c x : Int} (hx : x = dgI c) (h0 : 0 ≤ c) (h1 : c ≤ 255) (w : World) : Calls Tryz.prog 278 #[.int .u8 c] w fun e w' => e = .returned (.int .i64 x) ∧ w = w' := hx ▸ digit_any c h0 h1 w
/-- Is a number a rune's? -/
def rnI (n : Int) : Bool := decide (0 ≤ n ∧ n ≤ 55295 ∨ 57344 ≤ n ∧ n ≤ 1114111)
theorem rnI_sur (n : Nat) : rnI n = !Tq.sur n := by
  unfold rnI Tq.sur
  by_cases h : 1114111 < n ∨ 55296 ≤ n ∧ n ≤ 57343
  · rw [decide_eq_false (by omega), decide_eq_true h]; rfl
  · rw [decide_eq_true (by omega), decide_eq_false h]; rfl
theorem isRune_any (n : Int) (w : World) : Calls Tryz.prog 279 #[.int .i64 n] w fun e w' => e = .returned (.bool (rnI n)) ∧ w = w' := by
  by_cases h1 : 0 ≤ n
  · by_cases h2 : n ≤ 55295
    · have E := Lib.hid (show rnI n = true by simp [rnI]; omega)
      go_enter Tryz.func279, Tryz.ntmps279
      go_wp2_with fail
      go_ret
      exact ⟨by rw [E.out]; rfl, rfl⟩
    · by_cases h3 : 57344 ≤ n
      · by_cases h4 : n ≤ 1114111
        · have E := Lib.hid (show rnI n = true by simp [rnI]; omega)
          go_enter Tryz.func279, Tryz.ntmps279
          go_wp2_with fail
          go_ret
          exact ⟨by rw [E.out]; rfl, rfl⟩
        · have E := Lib.hid (show rnI n = false by simp [rnI]; omega)
          go_enter Tryz.func279, Tryz.ntmps279
          go_wp2_with fail
          go_ret
          exact ⟨by rw [E.out]; rfl, rfl⟩
      · have E := Lib.hid (show rnI n = false by simp [rnI]; omega)
        go_enter Tryz.func279, Tryz.ntmps279
        go_wp2_with fail
        go_ret
        exact ⟨by rw [E.out]; rfl, rfl⟩
  · have E := Lib.hid (show rnI n = false by simp [rnI]; omega)
    have h3 : ¬ 57344 ≤ n := by omega
    go_enter Tryz.func279, Tryz.ntmps279
    go_wp2_with fail
    go_ret
    exact ⟨by rw [E.out]; rfl, rfl⟩
theorem isRune_is {n : Int} {x : Bool} (hx : x = rnI n) (w : World) : Calls Tryz.prog 279 #[.int .i64 n] w fun e w' => e = .returned (.bool x) ∧ w = w' := hx ▸ isRune_any n w
/-- Does a list begin with another one? -/
def hasP (l p : List UInt8) : Bool := decide (l.take p.length = p)
theorem stxt_inj {a b : List UInt8} (h : txt a = txt b) : a = b := by
  have : (txt a).data.toList = (txt b).data.toList := by rw [h]
  simpa [txt] using this
theorem stoList_txt (l : List UInt8) : (txt l).toList = l := by
  rw [Lib.toList_data]; rfl
theorem seq_txt {s t : ByteArray} {l m : List UInt8} (hs : s = txt l) (ht : t = txt m) : (s.toList == t.toList) = decide (l = m) := by
  rw [hs, ht, stoList_txt, stoList_txt]
  by_cases h : l = m
  · simp [h]
  · simp [h]
theorem hasPI_any {l p : List UInt8} {s t : ByteArray} (w : World) (hs : s = txt l) (ht : t = txt p) (hl : l.length ≤ 1000000) (hp : p.length ≤ 1000000) :
    Calls Tryz.prog 66 #[.string s, .string t] w fun e w' => e = .returned (.bool (hasP l p)) ∧ w = w' := by
  have HS := Lib.hid (show s.size = l.length by rw [hs, txt_size])
  have HT := Lib.hid (show t.size = p.length by rw [ht, txt_size])
  have hs1 : s.size ≤ 1000000 := by rw [HS.out]; exact hl
  have ht1 : t.size ≤ 1000000 := by rw [HT.out]; exact hp
  by_cases h : t.size ≤ s.size
  · obtain ⟨x, HX⟩ : ∃ x, Hid (x = hasP l p) := ⟨_, rfl⟩
    have hq : ((s.extract 0 t.size).toList == t.toList) = x := by
      rw [seq_txt (show s.extract 0 t.size = txt (l.take p.length) by rw [hs, txt_cut, HT.out]; rfl) ht, HX.out, hasP]
    clear hs ht hl hp
    go_enter Tryz.func66, Tryz.ntmps66
    go_wp2_with fail
    go_ret
    exact ⟨by rw [HX.out]; rfl, rfl⟩
  · have E := Lib.hid (show hasP l p = false by
      rw [hasP, decide_eq_false_iff_not]
      intro e
      have := congrArg List.length e
      have := HS.out; have := HT.out
      simp at *; omega)
    clear hs ht hl hp
    go_enter Tryz.func66, Tryz.ntmps66
    go_wp2_with fail
    go_ret
    exact ⟨by rw [E.out]; rfl, rfl⟩
theorem hasP_any {l p : List UInt8} {s t : ByteArray} {x : Bool} (w : World) (hs : s = txt l) (ht : t = txt p) (hl : l.length ≤ 1000000) (hp : p.length ≤ 1000000) (hx : x = hasP l p) :
    Calls Tryz.prog 39 #[.string s, .string t] w fun e w' => e = .returned (.bool x) ∧ w = w' := by
  have HC := Lib.hid (hasPI_any w hs ht hl hp)
  rw [← hx] at HC
  clear hs ht hl hp hx
  go_enter Tryz.func39, Tryz.ntmps39
  go_wp2_with fail
  refine HC.out.mono ?_
  rintro e w1 ⟨rfl, rfl⟩
  go_wp2_with fail
  go_ret
  exact ⟨rfl, rfl⟩
end Go.Proofs.YtbeefjhcbphiaaaGreatDoor
