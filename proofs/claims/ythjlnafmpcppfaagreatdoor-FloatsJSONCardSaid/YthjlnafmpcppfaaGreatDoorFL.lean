/- TOML's floats as lists of bytes: low marks, the parts of a text, their forms (lists alone, no program). -/
import Derived.Test.YthjlnafmpcppfaaGreatDoorOrder
import Derived.Test.YthjlnafmpcppfaaGreatDoorJJ
import Derived.Lib.IndexAny
import Derived.Lib.Replace
import Derived.Lib.IndexBytes
import Derived.Lib.IndexMore
import Derived.Lib.Join
namespace Go.Proofs.YthjlnafmpcppfaaGreatDoor
namespace Fl

/-- Does a digit stand first? -/
def hdd : List UInt8 → Bool
  | [] => false
  | c :: _ => nb c
/-- Does each low mark stand between two digits? p: a digit stands ahead. -/
def mks : Bool → List UInt8 → Bool
  | _, [] => true
  | p, c :: r => if c = 95 then p && hdd r && mks false r else mks (nb c) r
/-- The text without low marks. -/
def st (l : List UInt8) : List UInt8 := l.filter (fun c => c != 95)
/-- A run of digits, with single marks between: how many bytes, and the digits. -/
def rn : Bool → List UInt8 → Nat × List UInt8
  | _, [] => (0, [])
  | p, c :: r => if nb c = true then ((rn true r).1 + 1, c :: (rn true r).2) else if c = 95 ∧ p = true ∧ hdd r = true then ((rn false r).1 + 1, (rn false r).2) else (0, [])
/-- An exponent's letter. -/
def isE (c : UInt8) : Bool := c == 101 || c == 69
/-- The part ahead of the point; the one behind it, with it; the exponent, with its letter. -/
def cw : List UInt8 → List UInt8 × List UInt8 × List UInt8
  | [] => ([], [], [])
  | c :: t => if c = 46 then ([], 46 :: t.takeWhile (fun x => !isE x), t.dropWhile (fun x => !isE x)) else if isE c = true then ([], [], c :: t) else (c :: (cw t).1, (cw t).2.1, (cw t).2.2)
def digs (d : List UInt8) : Bool := decide (d ≠ []) && d.all nb
def num (d : List UInt8) : Bool := digs d && !decide (1 < d.length ∧ d.head? = some 48)
/-- Without a sign. -/
def uns : List UInt8 → List UInt8
  | 43 :: r => r
  | 45 :: r => r
  | r => r
/-- The sign alone. -/
def sgo : List UInt8 → List UInt8
  | 43 :: _ => [43]
  | 45 :: _ => [45]
  | _ => []
/-- Parts without marks: is each of its form? -/
def snd0 (w p e : List UInt8) : Bool := num w && (decide (p = []) || digs (p.drop 1)) && (decide (e = []) || digs (uns (e.drop 1)))
/-- Digits, with one mark between two of them at most. -/
def sp : Bool → List UInt8 → Bool
  | p, [] => p
  | p, c :: r => if c = 95 then p && sp false r else nb c && sp true r
/-- Parts with marks. -/
def snd (w p e : List UInt8) : Bool := II.In.good 10 w && (decide (p = []) || sp false (p.drop 1)) && (decide (e = []) || sp false (uns (e.drop 1)))

theorem nb95 : nb 95 = false := by decide
theorem nb46 : nb 46 = false := by decide
theorem nbE {c : UInt8} (h : isE c = true) : nb c = false := by
  simp only [isE, Bool.or_eq_true, beq_iff_eq] at h
  rcases h with rfl | rfl <;> decide
theorem E95 {c : UInt8} (h : isE c = true) : c ≠ 95 := by rintro rfl; revert h; decide
theorem E46 {c : UInt8} (h : isE c = true) : c ≠ 46 := by rintro rfl; revert h; decide
theorem st_nil : st [] = [] := rfl
theorem st_95 (r : List UInt8) : st (95 :: r) = st r := rfl
theorem st_cons {c : UInt8} (h : c ≠ 95) (r : List UInt8) : st (c :: r) = c :: st r := by simp [st, h]
theorem st_app (a b : List UInt8) : st (a ++ b) = st a ++ st b := by simp [st]
theorem st_len (a : List UInt8) : (st a).length ≤ a.length := List.length_filter_le ..
theorem nb_ne95 {c : UInt8} (h : nb c = true) : c ≠ 95 := by rintro rfl; rw [nb95] at h; cases h
/-- What is digits with marks, in other words. -/
theorem sp_mks : ∀ (l : List UInt8) (p : Bool), sp p l = if l = [] then p else mks p l && (st l).all nb
  | [], p => by rw [if_pos rfl]; rfl
  | c :: r, p => by
    rw [if_neg (by simp), sp, mks]
    by_cases hc : c = 95
    · subst hc
      rw [if_pos rfl, if_pos rfl, st_95, sp_mks r false]
      cases r with
      | nil => cases p <;> rfl
      | cons d r =>
        rw [if_neg (by simp)]
        by_cases hd : d = 95
        · subst hd; simp [mks, hdd, nb95]
        · cases h : nb d
          · rw [st_cons hd]; simp [hdd, h]
          · simp [hdd, h, Bool.and_assoc]
    · rw [if_neg hc, if_neg hc, st_cons hc, List.all_cons]
      cases h : nb c
      · simp
      · rw [sp_mks r true]
        cases r with
        | nil => rfl
        | cons d r => simp
theorem mks_st {l : List UInt8} (h : mks false l = true) (h2 : st l = []) : l = [] := by
  cases l with
  | nil => rfl
  | cons c r =>
    by_cases hc : c = 95
    · subst hc; simp [mks] at h
    · rw [st_cons hc] at h2; cases h2
theorem sp_false (l : List UInt8) : sp false l = (mks false l && digs (st l)) := by
  rw [sp_mks, digs]
  by_cases hl : l = []
  · subst hl; rfl
  · rw [if_neg hl]
    cases h : mks false l
    · rfl
    · rw [decide_eq_true (show st l ≠ [] from fun h2 => hl (mks_st h h2))]; simp
theorem dg10 (c : UInt8) : (II.In.dg c < 10) ↔ nb c = true := by
  unfold II.In.dg nb nmr
  have := c.toNat_lt
  simp only [Bool.and_eq_true, decide_eq_true_eq]
  split
  · constructor <;> intro _ <;> omega
  · split
    · constructor <;> intro _ <;> omega
    · split <;> constructor <;> intro _ <;> omega
theorem spc_sp : ∀ (l : List UInt8) (p : Bool), II.In.spc 10 p l = sp p l
  | [], p => rfl
  | c :: r, p => by
    rw [II.In.spc, sp]
    by_cases hc : c = 95
    · rw [if_pos hc, if_pos hc, spc_sp r false]; cases p <;> simp
    · rw [if_neg hc, if_neg hc, spc_sp r true]
      by_cases h : nb c = true
      · rw [if_pos ((dg10 c).2 h), h]; simp
      · rw [if_neg (fun h2 => h ((dg10 c).1 h2))]; simp [h]
theorem good_num (w : List UInt8) : II.In.good 10 w = (mks false w && num (st w)) := by
  unfold II.In.good num
  rw [spc_sp, sp_false]
  cases hm : mks false w
  · simp
  · cases hd : digs (st w)
    · simp
    · simp only [Bool.true_and, Bool.and_true]
      congr 1
      apply decide_eq_decide.2
      cases w with
      | nil => simp [st_nil]
      | cons c r =>
        by_cases hc : c = 95
        · subst hc; simp [mks] at hm
        · rw [st_cons hc]
          simp only [List.length_cons, List.head?_cons, true_and]
          constructor
          · rintro ⟨h1, h2⟩
            refine ⟨?_, h2⟩
            have hr : r ≠ [] := by rintro rfl; simp at h1
            have h3 : st r ≠ [] := by
              intro h3
              rw [mks, if_neg hc] at hm
              cases r with
              | nil => exact hr rfl
              | cons d r =>
                by_cases hd' : d = 95
                · subst hd'
                  rw [st_95] at h3
                  rw [mks, if_pos rfl] at hm
                  cases r with
                  | nil => simp [hdd] at hm
                  | cons x r =>
                    by_cases hx : x = 95
                    · subst hx; simp [hdd, nb95] at hm
                    · rw [st_cons hx] at h3; cases h3
                · rw [st_cons hd'] at h3; cases h3
            have := List.length_pos_iff.2 h3
            omega
          · rintro ⟨h1, h2⟩
            have := st_len r
            exact ⟨by omega, h2⟩
theorem hdd_app {c : UInt8} (h : nb c = false) (a b : List UInt8) : hdd (a ++ c :: b) = hdd a := by
  cases a with
  | nil => simp [hdd, h]
  | cons => rfl
/-- A byte that is neither a digit nor a mark parts the marks. -/
theorem mks_app {c : UInt8} (h : nb c = false) (h2 : c ≠ 95) (b : List UInt8) : ∀ (a : List UInt8) (p : Bool), mks p (a ++ c :: b) = (mks p a && mks false b)
  | [], p => by
    show mks p (c :: b) = (true && mks false b)
    rw [mks, if_neg h2, h]; rfl
  | d :: a, p => by
    rw [List.cons_append, mks, mks]
    by_cases hd : d = 95
    · rw [if_pos hd, if_pos hd, mks_app h h2 b a false, hdd_app h]; simp [Bool.and_assoc]
    · rw [if_neg hd, if_neg hd, mks_app h h2 b a _]
theorem uns_mks (x : List UInt8) : mks false (uns x) = mks false x := by
  unfold uns
  split
  · rw [mks, if_neg (by decide)]; rfl
  · rw [mks, if_neg (by decide)]; rfl
  · rfl
theorem uns_other {c : UInt8} {r : List UInt8} (h1 : c ≠ 43) (h2 : c ≠ 45) : uns (c :: r) = c :: r := by
  unfold uns
  split
  · rename_i h; injection h with h _; exact absurd h h1
  · rename_i h; injection h with h _; exact absurd h h2
  · rfl
theorem sgo_other {c : UInt8} {r : List UInt8} (h1 : c ≠ 43) (h2 : c ≠ 45) : sgo (c :: r) = [] := by
  unfold sgo
  split
  · rename_i h; injection h with h _; exact absurd h h1
  · rename_i h; injection h with h _; exact absurd h h2
  · rfl
theorem sgo_uns (x : List UInt8) : sgo x ++ uns x = x := by
  cases x with
  | nil => rfl
  | cons c r =>
    by_cases h1 : c = 43
    · subst h1; rfl
    · by_cases h2 : c = 45
      · subst h2; rfl
      · rw [uns_other h1 h2, sgo_other h1 h2]; rfl
/-- A text that begins with no mark: the sign, and what is behind it, with marks taken off. -/
theorem uns_st {x : List UInt8} (h : x.head? ≠ some 95) : uns (st x) = st (uns x) ∧ sgo (st x) = sgo x := by
  cases x with
  | nil => exact ⟨rfl, rfl⟩
  | cons c r =>
    have hc : c ≠ 95 := by rintro rfl; exact h rfl
    rw [st_cons hc]
    by_cases h1 : c = 43
    · subst h1; exact ⟨rfl, rfl⟩
    · by_cases h2 : c = 45
      · subst h2; exact ⟨rfl, rfl⟩
      · rw [uns_other h1 h2, uns_other h1 h2, st_cons hc, sgo_other h1 h2, sgo_other h1 h2]; exact ⟨rfl, rfl⟩
end Fl
end Go.Proofs.YthjlnafmpcppfaaGreatDoor
/- TOML's floats as lists: the parts found one behind the other are the parts cut (lists alone). -/
namespace Go.Proofs.YthjlnafmpcppfaaGreatDoor
namespace Fl

theorem cw_app : ∀ t : List UInt8, (cw t).1 ++ ((cw t).2.1 ++ (cw t).2.2) = t
  | [] => rfl
  | c :: t => by
    rw [cw]
    split
    · rename_i h; subst h; simp
    · split
      · simp
      · show c :: ((cw t).1 ++ ((cw t).2.1 ++ (cw t).2.2)) = c :: t
        rw [cw_app t]
theorem cw_w : ∀ (t : List UInt8), ∀ c ∈ (cw t).1, c ≠ 46 ∧ isE c = false
  | [] => by intro c h; cases h
  | d :: t => by
    intro c hc
    rw [cw] at hc
    by_cases h : d = 46
    · rw [if_pos h] at hc; cases hc
    · rw [if_neg h] at hc
      by_cases h2 : isE d = true
      · rw [if_pos h2] at hc; cases hc
      · rw [if_neg h2] at hc
        rcases List.mem_cons.1 hc with rfl | hc
        · exact ⟨h, by simpa using h2⟩
        · exact cw_w t c hc
theorem tk_mem {q : UInt8 → Bool} : ∀ (t : List UInt8), ∀ c ∈ t.takeWhile q, q c = true
  | [] => by intro c h; cases h
  | d :: t => by
    intro c hc
    rw [List.takeWhile_cons] at hc
    split at hc
    · rcases List.mem_cons.1 hc with rfl | hc
      · assumption
      · exact tk_mem t c hc
    · cases hc
theorem dr_head {q : UInt8 → Bool} : ∀ (t : List UInt8), t.dropWhile q = [] ∨ ∃ c X, t.dropWhile q = c :: X ∧ q c = false
  | [] => .inl rfl
  | d :: t => by
    rw [List.dropWhile_cons]
    split
    · exact dr_head t
    · rename_i h; exact .inr ⟨d, t, rfl, by simpa using h⟩
theorem cw_p : ∀ t : List UInt8, (cw t).2.1 = [] ∨ ∃ V, (cw t).2.1 = 46 :: V ∧ ∀ c ∈ V, isE c = false
  | [] => .inl rfl
  | d :: t => by
    rw [cw]
    split
    · exact .inr ⟨_, rfl, fun c hc => by simpa using tk_mem t c hc⟩
    · split
      · exact .inl rfl
      · exact cw_p t
theorem cw_e : ∀ t : List UInt8, (cw t).2.2 = [] ∨ ∃ c X, (cw t).2.2 = c :: X ∧ isE c = true
  | [] => .inl rfl
  | d :: t => by
    rw [cw]
    split
    · rcases dr_head (q := fun x => !isE x) t with h | ⟨c, X, h, h2⟩
      · exact .inl h
      · exact .inr ⟨c, X, h, by simpa using h2⟩
    · split
      · rename_i h; exact .inr ⟨d, t, rfl, h⟩
      · exact cw_e t
theorem tk_st {q : UInt8 → Bool} (h : q 95 = true) : ∀ t : List UInt8, (st t).takeWhile q = st (t.takeWhile q) ∧ (st t).dropWhile q = st (t.dropWhile q)
  | [] => ⟨rfl, rfl⟩
  | c :: t => by
    obtain ⟨a, b⟩ := tk_st h t
    by_cases hc : c = 95
    · subst hc
      rw [st_95, List.takeWhile_cons, List.dropWhile_cons, if_pos h, if_pos h, st_95]; exact ⟨a, b⟩
    · rw [st_cons hc, List.takeWhile_cons, List.dropWhile_cons, List.takeWhile_cons, List.dropWhile_cons]
      by_cases hq : q c = true
      · rw [if_pos hq, if_pos hq, if_pos hq, if_pos hq, st_cons hc, a]; exact ⟨rfl, b⟩
      · rw [if_neg hq, if_neg hq, if_neg hq, if_neg hq, st_cons hc]; exact ⟨rfl, rfl⟩
theorem cw_st : ∀ t : List UInt8, cw (st t) = (st (cw t).1, st (cw t).2.1, st (cw t).2.2)
  | [] => rfl
  | c :: t => by
    by_cases hc : c = 95
    · subst hc
      rw [st_95, cw_st t, cw, if_neg (by decide), if_neg (by decide), st_95]
    · rw [st_cons hc, cw, cw]
      by_cases h : c = 46
      · obtain ⟨a, b⟩ := tk_st (q := fun x => !isE x) (by decide) t
        rw [if_pos h, if_pos h, a, b, st_cons (by decide)]; rfl
      · rw [if_neg h, if_neg h]
        by_cases h2 : isE c = true
        · rw [if_pos h2, if_pos h2, st_cons hc]; rfl
        · rw [if_neg h2, if_neg h2, cw_st t, st_cons hc]
/-- The cuts as they were made: ahead of the letter first, then ahead of the point. -/
theorem cw_two : ∀ t : List UInt8, cw t = ((t.takeWhile (fun x => !isE x)).takeWhile (fun x => x != 46), (t.takeWhile (fun x => !isE x)).dropWhile (fun x => x != 46), t.dropWhile (fun x => !isE x))
  | [] => rfl
  | c :: t => by
    rw [cw]
    by_cases h : c = 46
    · subst h
      rw [if_pos rfl, List.takeWhile_cons, List.dropWhile_cons, if_pos (by decide), if_pos (by decide), List.takeWhile_cons, List.dropWhile_cons, if_neg (by decide), if_neg (by decide)]
    · rw [if_neg h]
      by_cases h2 : isE c = true
      · rw [if_pos h2, List.takeWhile_cons, List.dropWhile_cons, if_neg (by simp [h2]), if_neg (by simp [h2])]; rfl
      · rw [if_neg h2, List.takeWhile_cons, List.dropWhile_cons, if_pos (by simpa using h2), if_pos (by simpa using h2), List.takeWhile_cons, List.dropWhile_cons, if_pos (by simpa using h), if_pos (by simpa using h), cw_two t]
/-- An exponent's digits, behind its sign. -/
theorem sp_uns (x : List UInt8) : sp false (uns x) = (mks false x && digs (uns (st x))) := by
  rw [sp_false, uns_mks]
  by_cases h : x.head? = some 95
  · cases x with
    | nil => cases h
    | cons c r =>
      obtain rfl : c = 95 := by simpa using h
      rw [mks, if_pos rfl]; simp
  · rw [(uns_st h).1]
theorem snd_is (t : List UInt8) : snd (cw t).1 (cw t).2.1 (cw t).2.2 = (mks false t && snd0 (st (cw t).1) (st (cw t).2.1) (st (cw t).2.2)) := by
  have ht := cw_app t
  have hp := cw_p t
  have he := cw_e t
  generalize (cw t).1 = W at *
  generalize (cw t).2.1 = P at *
  generalize (cw t).2.2 = E at *
  unfold snd snd0
  rw [good_num]
  have n46 : (46 : UInt8) ≠ 95 := by decide
  rcases hp with rfl | ⟨V, rfl, -⟩ <;> rcases he with rfl | ⟨c, X, rfl, hc⟩
  · rw [← ht]; simp [st_nil]
  · rw [← ht, List.nil_append, mks_app (nbE hc) (E95 hc)]
    rw [st_cons (E95 hc), st_nil]
    simp only [List.drop_succ_cons, List.drop_zero, sp_uns, decide_true, Bool.true_or, Bool.and_true, reduceCtorEq, decide_false, Bool.false_or]
    cases mks false W <;> cases mks false X <;> simp
  · rw [← ht, List.append_nil, mks_app nb46 n46, st_cons n46, st_nil]
    simp only [List.drop_succ_cons, List.drop_zero, sp_false, decide_true, Bool.true_or, Bool.and_true, reduceCtorEq, decide_false, Bool.false_or]
    cases mks false W <;> cases mks false V <;> simp
  · rw [← ht, List.cons_append, mks_app nb46 n46, mks_app (nbE hc) (E95 hc), st_cons n46, st_cons (E95 hc)]
    simp only [List.drop_succ_cons, List.drop_zero, sp_uns, reduceCtorEq, decide_false, Bool.false_or]
    rw [sp_false]
    cases mks false W <;> cases mks false V <;> cases mks false X <;> simp
/-- A text of a float that is none of the special ones, without marks. -/
def shp (x : List UInt8) : Bool := (decide ((cw x).2.1 ≠ []) || decide ((cw x).2.2 ≠ [])) && snd0 (cw x).1 (cw x).2.1 (cw x).2.2
theorem st_part {t : List UInt8} : (st (cw t).2.1 = [] ↔ (cw t).2.1 = []) ∧ (st (cw t).2.2 = [] ↔ (cw t).2.2 = []) := by
  refine ⟨⟨fun h => ?_, fun h => by rw [h]; rfl⟩, fun h => ?_, fun h => by rw [h]; rfl⟩
  · rcases cw_p t with h2 | ⟨V, h2, _⟩
    · exact h2
    · rw [h2, st_cons (by decide)] at h; cases h
  · rcases cw_e t with h2 | ⟨c, X, h2, hc⟩
    · exact h2
    · rw [h2, st_cons (E95 hc)] at h; cases h
theorem shp_is (t : List UInt8) : ((decide ((cw t).2.1 ≠ []) || decide ((cw t).2.2 ≠ [])) && snd (cw t).1 (cw t).2.1 (cw t).2.2) = (mks false t && shp (st t)) := by
  rw [snd_is, shp, cw_st]
  simp only [ne_eq, st_part.1, st_part.2]
  cases mks false t <;> simp
/-- Runs. -/
theorem rn_le : ∀ (l : List UInt8) (p : Bool), (rn p l).1 ≤ l.length
  | [], p => Nat.le_refl _
  | c :: r, p => by
    rw [rn]
    split
    · have := rn_le r true; simp; omega
    · split
      · have := rn_le r false; simp; omega
      · simp
theorem rn_all : ∀ (l : List UInt8) (p : Bool), mks p l = true → (st l).all nb = true → rn p l = (l.length, st l)
  | [], p, _, _ => rfl
  | c :: r, p, h1, h2 => by
    rw [rn]
    by_cases hc : c = 95
    · subst hc
      rw [mks, if_pos rfl] at h1
      simp only [Bool.and_eq_true] at h1
      rw [st_95] at h2
      rw [if_neg (by rw [nb95]; simp), if_pos ⟨rfl, h1.1.1, h1.1.2⟩, rn_all r false h1.2 h2]; rfl
    · rw [mks, if_neg hc] at h1
      rw [st_cons hc, List.all_cons, Bool.and_eq_true] at h2
      rw [h2.1] at h1
      rw [if_pos h2.1, rn_all r true h1 h2.2, st_cons hc]; rfl
theorem rn_full : ∀ (l : List UInt8) (p : Bool), (rn p l).1 = l.length → mks p l = true ∧ (st l).all nb = true
  | [], p, _ => ⟨rfl, rfl⟩
  | c :: r, p, h => by
    rw [rn] at h
    by_cases hn : nb c = true
    · rw [if_pos hn] at h
      have hc := nb_ne95 hn
      obtain ⟨a, b⟩ := rn_full r true (by simpa using h)
      rw [mks, if_neg hc, hn, st_cons hc, List.all_cons, hn]; exact ⟨a, b⟩
    · rw [if_neg hn] at h
      by_cases hm : c = 95 ∧ p = true ∧ hdd r = true
      · rw [if_pos hm] at h
        obtain ⟨rfl, rfl, h3⟩ := hm
        obtain ⟨a, b⟩ := rn_full r false (by simpa using h)
        rw [mks, if_pos rfl, st_95, a, h3]; exact ⟨rfl, b⟩
      · rw [if_neg hm] at h; simp at h
theorem rn_stop {c : UInt8} (h : nb c = false) (h2 : c ≠ 95) (b : List UInt8) : ∀ (a : List UInt8) (p : Bool), rn p (a ++ c :: b) = rn p a
  | [], p => by
    show rn p (c :: b) = (0, [])
    rw [rn, if_neg (by rw [h]; simp), if_neg (fun h3 => h2 h3.1)]
  | d :: a, p => by
    rw [List.cons_append, rn, rn, hdd_app h, rn_stop h h2 b a true, rn_stop h h2 b a false]
end Fl
end Go.Proofs.YthjlnafmpcppfaaGreatDoor
/- TOML's floats as lists: the document's way through a text, place by place, is the cuts' (lists alone). -/
namespace Go.Proofs.YthjlnafmpcppfaaGreatDoor
namespace Fl

/-- Where the sign ends, and what is met behind it. -/
def sg0 (l : List UInt8) : Nat := if bt l 0 = 43 ∨ bt l 0 = 45 then 1 else 0
def mn (l : List UInt8) : List UInt8 := if bt l 0 = 45 then [45] else []
def R1 (l : List UInt8) : Nat × List UInt8 := rn false (l.drop (sg0 l))
def p1 (l : List UInt8) : Nat := sg0 l + (R1 l).1
def dt (l : List UInt8) : Bool := decide (bt l (p1 l) = 46)
def R2 (l : List UInt8) : Nat × List UInt8 := rn false (l.drop (p1 l + 1))
def p2 (l : List UInt8) : Nat := if dt l = true then p1 l + 1 + (R2 l).1 else p1 l
def ex (l : List UInt8) : Bool := decide (bt l (p2 l) = 101 ∨ bt l (p2 l) = 69)
def es (l : List UInt8) : Bool := decide (bt l (p2 l + 1) = 43 ∨ bt l (p2 l + 1) = 45)
def p3 (l : List UInt8) : Nat := if es l = true then p2 l + 1 + 1 else p2 l + 1
def R3 (l : List UInt8) : Nat × List UInt8 := rn false (l.drop (p3 l))
def p4 (l : List UInt8) : Nat := if ex l = true then p3 l + (R3 l).1 else p2 l
def b1 (l : List UInt8) : Bool := !num (R1 l).2
def b2 (l : List UInt8) : Bool := dt l && decide ((R2 l).2 = [])
def b3 (l : List UInt8) : Bool := ex l && decide ((R3 l).2 = [])
def b4 (l : List UInt8) : Bool := decide (p4 l < l.length)
/-- Is something wrong on the way? -/
def bad (l : List UInt8) : Bool := b1 l || b2 l || b3 l || b4 l
/-- The text of the decimal that is told. -/
def tx (l : List UInt8) : List UInt8 := mn l ++ (R1 l).2 ++ (if dt l = true then 46 :: (R2 l).2 else []) ++ (if ex l = true then 101 :: ((if es l = true then [UInt8.ofNat (bt l (p2 l + 1)).toNat] else []) ++ (R3 l).2) else [])
abbrev INF : List UInt8 := [105, 110, 102]
abbrev NAN : List UInt8 := [110, 97, 110]
/-- The document's answer. -/
def docF (l : List UInt8) : List UInt8 × Int :=
  if l.drop (sg0 l) = INF then (mn l ++ INF, 0) else if l.drop (sg0 l) = NAN then (NAN, 0) else
  if bad l = true then ([], 3) else if dt l = false ∧ ex l = false then ([], 3) else rd (tx l)
/-- The answer by the cuts. -/
def rdF (l : List UInt8) : List UInt8 × Int :=
  if l.drop (sg0 l) = INF then (mn l ++ INF, 0) else if l.drop (sg0 l) = NAN then (NAN, 0) else
  if (mks false (l.drop (sg0 l)) && shp (st (l.drop (sg0 l)))) = true then rd (mn l ++ st (l.drop (sg0 l))) else ([], 3)

theorem sg0_le (l : List UInt8) : sg0 l ≤ l.length := by
  unfold sg0
  split
  · rename_i h
    rcases Nat.eq_zero_or_pos l.length with h2 | h2
    · rw [bt_far (by omega)] at h; omega
    · exact h2
  · omega
theorem rn_part (a : List UInt8) {b : List UInt8} (hb : b = [] ∨ ∃ c r, b = c :: r ∧ nb c = false ∧ c ≠ 95) (p : Bool) : rn p (a ++ b) = rn p a := by
  rcases hb with rfl | ⟨c, r, rfl, h1, h2⟩
  · rw [List.append_nil]
  · exact rn_stop h1 h2 r a p
theorem bt_mem {x : List UInt8} {k : Nat} (h : k < x.length) : ∃ c ∈ x, bt x k = (c.toNat : Int) := ⟨x[k], List.getElem_mem h, by simp [bt, h]⟩
theorem notE {c : UInt8} (h : isE c = false) : (c.toNat : Int) ≠ 101 ∧ (c.toNat : Int) ≠ 69 := by
  simp only [isE, Bool.or_eq_false_iff, beq_eq_false_iff_ne] at h
  refine ⟨fun e => h.1 (UInt8.toNat_inj.1 ?_), fun e => h.2 (UInt8.toNat_inj.1 ?_)⟩
  · show c.toNat = 101; omega
  · show c.toNat = 69; omega
theorem yesE {c : UInt8} (h : isE c = true) : (c.toNat : Int) = 101 ∨ (c.toNat : Int) = 69 := by
  simp only [isE, Bool.or_eq_true, beq_iff_eq] at h
  rcases h with rfl | rfl
  · left; rfl
  · right; rfl
theorem not46 {c : UInt8} (h : c ≠ 46) : (c.toNat : Int) ≠ 46 := fun e => h (UInt8.toNat_inj.1 (show c.toNat = 46 by omega))
/-- What is met, in terms of the cuts. -/
structure Met (l W P E : List UInt8) : Prop where
  hb : bad l = !snd W P E
  hdt : bad l = false → dt l = decide (P ≠ [])
  hex : bad l = false → ex l = decide (E ≠ [])
  htx : bad l = false → ∃ c X, (E = [] ∨ E = c :: X ∧ isE c = true) ∧ tx l = mn l ++ st W ++ st P ++ (if E = [] then [] else 101 :: st X)
theorem Met.off {l W P E : List UInt8} (h : bad l = true) (hs : snd W P E = false) : Met l W P E where
  hb := by rw [h, hs]; rfl
  hdt := by rw [h]; intro h; cases h
  hex := by rw [h]; intro h; cases h
  htx := by rw [h]; intro h; cases h
theorem num_all {w : List UInt8} (h : num w = true) : w.all nb = true := by
  simp only [num, digs, Bool.and_eq_true] at h; exact h.1.2
theorem digs_all {w : List UInt8} (h : digs w = true) : w.all nb = true := by
  simp only [digs, Bool.and_eq_true] at h; exact h.2
theorem bad_4 {l : List UInt8} (h : p4 l < l.length) : bad l = true := by
  unfold bad b4; rw [decide_eq_true h]; simp
theorem met_e {l W P E u : List UInt8} (hE : E = [] ∨ ∃ c X, E = c :: X ∧ isE c = true) (hlen : p2 l + E.length = l.length) (hu : l.drop (p2 l) = E) (hb1 : b1 l = !II.In.good 10 W) (hr1 : (R1 l).2 = st W)
    (hb2 : b2 l = !(decide (P = []) || sp false (P.drop 1))) (hd : dt l = decide (P ≠ [])) (hr2 : (if dt l = true then 46 :: (R2 l).2 else []) = st P) (_hu : u = u) : Met l W P E := by
  have hbt : ∀ k, bt l (p2 l + k) = bt E k := fun k => by rw [← bt_drop, hu]
  rcases hE with rfl | ⟨c, X, rfl, hc⟩
  · have hx : ex l = false := by
      unfold ex
      have := hbt 0
      rw [Nat.add_zero] at this
      rw [this]; rfl
    have h4 : p4 l = l.length := by unfold p4; rw [hx]; simpa using hlen
    have hbd : bad l = !snd W P [] := by
      unfold bad b3 b4 snd
      rw [hb1, hb2, hx, h4]; simp
    refine ⟨hbd, fun _ => hd, fun _ => by rw [hx]; rfl, fun _ => ⟨0, [], .inl rfl, ?_⟩⟩
    unfold tx; rw [hr1, hr2, hx]; simp
  · have hx : ex l = true := by
      unfold ex
      have := hbt 0
      rw [Nat.add_zero] at this
      rw [this]; exact decide_eq_true (yesE hc)
    have hx1 : ∀ k, bt l (p2 l + 1 + k) = bt X k := fun k => by rw [Nat.add_assoc, hbt]; simp [bt, Nat.add_comm 1 k]
    have hdr : l.drop (p2 l + 1) = X := by rw [← List.drop_drop, hu]; rfl
    have hes : es l = decide (sgo X ≠ []) ∧ l.drop (p3 l) = uns X ∧ (if es l = true then [UInt8.ofNat (bt l (p2 l + 1)).toNat] else []) = sgo X ∧ p3 l + (uns X).length = l.length := by
      have h0 := hx1 0
      rw [Nat.add_zero] at h0
      simp only [List.length_cons] at hlen
      cases X with
      | nil =>
        have e : es l = false := by unfold es; rw [h0]; rfl
        refine ⟨by rw [e]; rfl, ?_, by rw [e]; rfl, ?_⟩
        · unfold p3; rw [e]; exact hdr
        · unfold p3; rw [e]; simpa [uns] using hlen
      | cons y X =>
        rw [bt_cons] at h0
        by_cases h43 : y = 43
        · subst h43
          have e : es l = true := by unfold es; rw [h0]; rfl
          refine ⟨by rw [e]; rfl, ?_, ?_, ?_⟩
          · unfold p3; rw [e, if_pos rfl, ← List.drop_drop, hdr]; rfl
          · rw [e, if_pos rfl, h0]; rfl
          · unfold p3; rw [e, if_pos rfl]; simp only [uns, List.length_cons] at *; omega
        · by_cases h45 : y = 45
          · subst h45
            have e : es l = true := by unfold es; rw [h0]; rfl
            refine ⟨by rw [e]; rfl, ?_, ?_, ?_⟩
            · unfold p3; rw [e, if_pos rfl, ← List.drop_drop, hdr]; rfl
            · rw [e, if_pos rfl, h0]; rfl
            · unfold p3; rw [e, if_pos rfl]; simp only [uns, List.length_cons] at *; omega
          · have e : es l = false := by
              unfold es; rw [h0]
              apply decide_eq_false
              rintro (h | h)
              · exact h43 (UInt8.toNat_inj.1 (show y.toNat = 43 by omega))
              · exact h45 (UInt8.toNat_inj.1 (show y.toNat = 45 by omega))
            rw [uns_other h43 h45, sgo_other h43 h45]
            refine ⟨by rw [e]; rfl, ?_, by rw [e]; rfl, ?_⟩
            · unfold p3; rw [e]; exact hdr
            · unfold p3; rw [e]; simp only [List.length_cons] at *; simp; omega
    obtain ⟨_, hd3, hs3, hl3⟩ := hes
    have hR3 : R3 l = rn false (uns X) := by unfold R3; rw [hd3]
    have h4 : p4 l = p3 l + (rn false (uns X)).1 := by unfold p4; rw [if_pos hx, hR3]
    have hle := rn_le (uns X) false
    have hb34 : (b3 l || b4 l) = !sp false (uns X) := by
      unfold b3 b4
      rw [hx, hR3, sp_false, h4]
      by_cases hf : (rn false (uns X)).1 = (uns X).length
      · obtain ⟨m1, m2⟩ := rn_full _ _ hf
        rw [rn_all _ _ m1 m2, m1]
        have : ¬ (p3 l + (uns X).length < l.length) := by omega
        simp only [this, digs, m2]
        simp
      · have : p3 l + (rn false (uns X)).1 < l.length := by omega
        have hno : (mks false (uns X) && digs (st (uns X))) = false := by
          cases h : (mks false (uns X) && digs (st (uns X)))
          · rfl
          · rw [Bool.and_eq_true] at h
            exact absurd (by rw [rn_all _ _ h.1 (digs_all h.2)]) hf
        rw [hno]; simp [this]
    have hbd : bad l = !snd W P (c :: X) := by
      unfold bad snd
      rw [hb1, hb2, Bool.or_assoc, hb34]
      simp
    refine ⟨hbd, fun _ => hd, fun _ => by rw [hx]; rfl, fun hg => ⟨c, X, .inr ⟨rfl, hc⟩, ?_⟩⟩
    have hsp : sp false (uns X) = true := by
      have : (b3 l || b4 l) = false := by
        unfold bad at hg
        rw [Bool.or_assoc] at hg
        exact (Bool.or_eq_false_iff.1 hg).2
      rw [hb34] at this
      simpa using this
    rw [sp_false, Bool.and_eq_true] at hsp
    have hX95 : X.head? ≠ some 95 := by
      intro h
      cases X with
      | nil => cases h
      | cons y X =>
        obtain rfl : y = 95 := by simpa using h
        have := hsp.1
        rw [uns_other (by decide) (by decide), mks, if_pos rfl] at this
        simp at this
    unfold tx
    rw [hr1, hr2, if_pos hx, hs3, hR3, rn_all _ _ hsp.1 (digs_all hsp.2), if_neg (by simp), ← (uns_st hX95).1, ← (uns_st hX95).2, sgo_uns]
theorem met (l : List UInt8) : Met l (cw (l.drop (sg0 l))).1 (cw (l.drop (sg0 l))).2.1 (cw (l.drop (sg0 l))).2.2 := by
  obtain ⟨t, ht⟩ : ∃ t, t = l.drop (sg0 l) := ⟨_, rfl⟩
  rw [← ht]
  have hlen : sg0 l + t.length = l.length := by rw [ht, List.length_drop]; have := sg0_le l; omega
  have hbt : ∀ k, bt l (sg0 l + k) = bt t k := fun k => by rw [ht, bt_drop]
  have hdrop : ∀ k, l.drop (sg0 l + k) = t.drop k := fun k => by rw [ht, List.drop_drop]
  have happ := cw_app t
  have hw := cw_w t
  have hp := cw_p t
  have he := cw_e t
  have hR1 : R1 l = rn false t := by unfold R1; rw [ht]
  generalize (cw t).1 = W at *
  generalize (cw t).2.1 = P at *
  generalize (cw t).2.2 = E at *
  have hbE : E = [] ∨ ∃ c r, E = c :: r ∧ nb c = false ∧ c ≠ 95 := by
    rcases he with rfl | ⟨c, X, rfl, hc⟩
    · exact .inl rfl
    · exact .inr ⟨c, X, rfl, nbE hc, E95 hc⟩
  have hbPE : P ++ E = [] ∨ ∃ c r, P ++ E = c :: r ∧ nb c = false ∧ c ≠ 95 := by
    rcases hp with rfl | ⟨V, rfl, -⟩
    · exact hbE
    · exact .inr ⟨46, V ++ E, rfl, by decide, by decide⟩
  have hR1W : R1 l = rn false W := by rw [hR1, ← happ, rn_part W hbPE]
  have hle := rn_le W false
  have hlW : t.length = W.length + (P.length + E.length) := by rw [← happ]; simp
  by_cases hf : (rn false W).1 = W.length
  · obtain ⟨m1, m2⟩ := rn_full _ _ hf
    have hrW := rn_all _ _ m1 m2
    have hp1 : p1 l = sg0 l + W.length := by unfold p1; rw [hR1W, hf]
    have hr1 : (R1 l).2 = st W := by rw [hR1W, hrW]
    have hb1 : b1 l = !II.In.good 10 W := by unfold b1; rw [hr1, good_num, m1]; simp
    have hu : l.drop (p1 l) = P ++ E := by rw [hp1, hdrop, ← happ, List.drop_left]
    have hbu : ∀ k, bt l (p1 l + k) = bt (P ++ E) k := fun k => by rw [← bt_drop, hu]
    rcases hp with rfl | ⟨V, rfl, hV⟩
    · have hdt : dt l = false := by
        unfold dt
        have := hbu 0
        rw [Nat.add_zero] at this
        rw [this]
        rcases he with rfl | ⟨c, X, rfl, hc⟩
        · rfl
        · rw [List.nil_append, bt_cons]; exact decide_eq_false (by rcases yesE hc with h | h <;> omega)
      have hp2 : p2 l = p1 l := by unfold p2; rw [hdt]; rfl
      exact met_e (u := []) he (by rw [hp2, hp1]; simp at hlW; omega) (by rw [hp2, hu]; rfl) hb1 hr1 (by unfold b2; rw [hdt]; rfl) (by rw [hdt]; rfl) (by rw [hdt]; rfl) rfl
    · have hdt : dt l = true := by
        unfold dt
        have := hbu 0
        rw [Nat.add_zero] at this
        rw [this]; rfl
      have hd1 : l.drop (p1 l + 1) = V ++ E := by rw [← List.drop_drop, hu]; rfl
      have hR2 : R2 l = rn false V := by unfold R2; rw [hd1, rn_part V hbE]
      have hle2 := rn_le V false
      have hp2 : p2 l = p1 l + 1 + (rn false V).1 := by unfold p2; rw [if_pos hdt, hR2]
      simp only [List.length_cons] at hlW
      by_cases hf2 : (rn false V).1 = V.length
      · obtain ⟨n1, n2⟩ := rn_full _ _ hf2
        have hrV := rn_all _ _ n1 n2
        refine met_e (u := []) he (by rw [hp2, hf2, hp1]; omega) (by rw [hp2, hf2, ← List.drop_drop, hd1, List.drop_left]) hb1 hr1 ?_ (by rw [hdt]; rfl) (by rw [hdt, if_pos rfl, hR2, hrV, st_cons (by decide)]) rfl
        unfold b2
        rw [hdt, hR2, hrV]
        simp only [List.drop_succ_cons, List.drop_zero, sp_false, n1, digs, n2]
        simp
      · have hb2' : ∀ k, bt l (p1 l + 1 + k) = bt (V ++ E) k := fun k => by rw [← bt_drop, hd1]
        obtain ⟨c, hc, hbc⟩ := bt_mem (x := V) (k := (rn false V).1) (by omega)
        have hx : ex l = false := by
          unfold ex
          rw [hp2, hb2', bt_app_lt _ (by omega), hbc]
          exact decide_eq_false (by have := notE (hV c hc); omega)
        have h4 : p4 l < l.length := by unfold p4; rw [hx, hp2, hp1]; simp; omega
        have hbad := bad_4 h4
        have hs : snd W (46 :: V) E = false := by
          unfold snd
          simp only [List.drop_succ_cons, List.drop_zero, sp_false]
          cases h : (mks false V && digs (st V))
          · simp
          · rw [Bool.and_eq_true] at h
            exact absurd (by rw [rn_all _ _ h.1 (digs_all h.2)]) hf2
        exact Met.off hbad hs
  · obtain ⟨c, hc, hbc⟩ := bt_mem (x := W) (k := (rn false W).1) (by omega)
    have hb0 : bt l (p1 l) = (c.toNat : Int) := by
      unfold p1
      rw [hR1W, hbt, ← happ, bt_app_lt _ (by omega), hbc]
    have hdt : dt l = false := by unfold dt; rw [hb0]; exact decide_eq_false (not46 (hw c hc).1)
    have hp2 : p2 l = p1 l := by unfold p2; rw [hdt]; rfl
    have hx : ex l = false := by
      unfold ex
      rw [hp2, hb0]
      exact decide_eq_false (by have := notE (hw c hc).2; omega)
    have h4 : p4 l < l.length := by unfold p4; rw [hx, hp2]; unfold p1; rw [hR1W]; simp; omega
    have hbad := bad_4 h4
    have hs : snd W P E = false := by
      unfold snd
      rw [good_num]
      cases h : (mks false W && num (st W))
      · simp
      · rw [Bool.and_eq_true] at h
        exact absurd (by rw [rn_all _ _ h.1 (num_all h.2)]) hf
    exact Met.off hbad hs
end Fl
end Go.Proofs.YthjlnafmpcppfaaGreatDoor
/- TOML's floats as lists: the document's answer is that by the cuts; JSON's numbers among them (lists alone). -/
namespace Go.Proofs.YthjlnafmpcppfaaGreatDoor
namespace Fl

/-- Alike but for an exponent's letter. -/
structure Eqv (l l' : List UInt8) : Prop where
  len : l.length = l'.length
  at_ : ∀ k, bt l k = bt l' k ∨ (bt l k = 101 ∨ bt l k = 69) ∧ (bt l' k = 101 ∨ bt l' k = 69)
section
variable {l l' : List UInt8} (h : Eqv l l')
include h
theorem Eqv.nmr (k : Nat) : nmr (bt l k) = nmr (bt l' k) := by
  rcases h.at_ k with e | ⟨a, b⟩
  · rw [e]
  · rw [nmr_no (by omega), nmr_no (by omega)]
theorem Eqv.digit {k : Nat} (hn : Go.Proofs.YthjlnafmpcppfaaGreatDoor.nmr (bt l k) = true) : bt l k = bt l' k := by
  rcases h.at_ k with e | ⟨a, _⟩
  · exact e
  · rw [nmr_no (by omega)] at hn; cases hn
theorem Eqv.iff {k : Nat} {c : Int} (h1 : c ≠ 101) (h2 : c ≠ 69) : bt l k = c ↔ bt l' k = c := by
  rcases h.at_ k with e | ⟨a, b⟩
  · rw [e]
  · constructor <;> intro e <;> omega
theorem Eqv.e {k : Nat} : (bt l k = 101 ∨ bt l k = 69) ↔ (bt l' k = 101 ∨ bt l' k = 69) := by
  rcases h.at_ k with e | ⟨a, b⟩
  · rw [e]
  · exact ⟨fun _ => b, fun _ => a⟩
theorem Eqv.run (i : Nat) : runE l i = runE l' i := by
  by_cases hc : i < l.length ∧ Go.Proofs.YthjlnafmpcppfaaGreatDoor.nmr (bt l i) = true
  · have hc' : i < l'.length ∧ Go.Proofs.YthjlnafmpcppfaaGreatDoor.nmr (bt l' i) = true := by rw [← h.len, ← h.nmr]; exact hc
    rw [runE_on hc.1 hc.2, runE_on hc'.1 hc'.2]
    exact Eqv.run (i + 1)
  · have hc' : ¬ (i < l'.length ∧ Go.Proofs.YthjlnafmpcppfaaGreatDoor.nmr (bt l' i) = true) := by rw [← h.len, ← h.nmr]; exact hc
    rw [runE_end hc, runE_end hc']
termination_by l.length - i
theorem Eqv.powA {e i : Nat} (n : Int) (hn : ∀ k, i ≤ k → k < e → Go.Proofs.YthjlnafmpcppfaaGreatDoor.nmr (bt l k) = true) : powA l e i n = powA l' e i n := by
  by_cases hi : i < e
  · have hb := h.digit (hn i (Nat.le_refl _) hi)
    by_cases h2 : 10 * n + (bt l i - 48) > 1000000000
    · rw [powA_big hi h2, powA_big hi (by rw [← hb]; exact h2)]
    · rw [powA_on hi h2, powA_on hi (by rw [← hb]; exact h2), ← hb]
      exact Eqv.powA _ (fun k h1 h2 => hn k (by omega) h2)
  · rw [powA_end hi, powA_end hi]
termination_by e - i
theorem Eqv.sub {i j : Nat} (hn : ∀ k, i ≤ k → k < j → bt l k = bt l' k) : (l.take j).drop i = (l'.take j).drop i := by
  have hl := h.len
  apply List.ext_getElem
  · simp [hl]
  · intro n h1 h2
    simp only [List.length_drop, List.length_take] at h1 h2
    have := hn (i + n) (by omega) (by omega)
    have u1 : bt l (i + n) = ((l[i + n]'(by omega)).toNat : Int) := by simp [bt, show i + n < l.length by omega]
    have u2 : bt l' (i + n) = ((l'[i + n]'(by omega)).toNat : Int) := by simp [bt, show i + n < l'.length by omega]
    rw [u1, u2] at this
    simp only [List.getElem_drop, List.getElem_take]
    exact UInt8.toNat_inj.1 (by omega)
theorem rd_eqv : rd l = rd l' := by
  have e0 : q0 l = q0 l' := by unfold q0; simp only [h.iff (k := 0) (c := 45) (by omega) (by omega)]
  have e1 : q1 l = q1 l' := by unfold q1; rw [e0, h.run]
  have eb : bad1 l = bad1 l' := by unfold bad1; simp only [e1, e0, h.iff (c := 48) (by omega) (by omega)]
  have ed : dot l = dot l' := by unfold dot; simp only [e1, h.iff (c := 46) (by omega) (by omega)]
  have e2 : q2 l = q2 l' := by unfold q2; rw [ed, e1]
  have e3 : q3 l = q3 l' := by unfold q3; rw [ed, e2, e1, h.run]
  have ex : exq l = exq l' := by unfold exq; simp only [e3, h.e]
  have es : sgn l = sgn l' := by unfold sgn; simp only [e3, h.iff (c := 43) (by omega) (by omega), h.iff (c := 45) (by omega) (by omega)]
  have e4 : q4 l = q4 l' := by unfold q4; rw [ex, es, e3]
  have e5 : q5 l = q5 l' := by unfold q5; rw [ex, e4, e3, h.run]
  have ei : isB l = isB l' := by unfold isB; rw [eb, ed, e3, e2, ex, e5, e4, h.len]
  obtain ⟨o1, o2, o3, o4, o5, o6, o7, o8⟩ := q_order (l := l)
  have ep : powR l (q4 l) (q5 l) = powR l' (q4 l') (q5 l') := by
    unfold powR
    rw [h.powA 0 o8, ← e4, ← e5]
    simp only [h.iff (c := 45) (by omega) (by omega)]
  have hd1 : ∀ k, q0 l ≤ k → k < q1 l → bt l k = bt l' k := fun k a b => h.digit (runE_nmr l (q0 l) k a b)
  have hd2 : ∀ k, q2 l ≤ k → k < q3 l → bt l k = bt l' k := fun k a b => by
    unfold q3 at b
    split at b
    · exact h.digit (runE_nmr l (q2 l) k a b)
    · omega
  have eD : rdD l = rdD l' := by unfold rdD; rw [h.sub hd1, h.sub hd2, e0, e1, e2, e3]
  have eT : rdT l = rdT l' := by unfold rdT; rw [eD]
  have eN : rdN l = rdN l' := by unfold rdN; rw [ep, eD, e3, e2]
  unfold rd
  rw [ei, ep, eT, eN]
  simp only [h.iff (k := 0) (c := 45) (by omega) (by omega)]
end
theorem rd_letter {c : UInt8} (hc : isE c = true) (a b : List UInt8) : rd (a ++ 101 :: b) = rd (a ++ c :: b) := by
  apply rd_eqv
  refine ⟨by simp, fun k => ?_⟩
  rcases Nat.lt_trichotomy k a.length with h | h | h
  · left; rw [bt_app_lt _ h, bt_app_lt _ h]
  · right
    subst h
    rw [bt_app, bt_app, bt_cons, bt_cons]
    exact ⟨.inl rfl, yesE hc⟩
  · left
    rw [bt_app_ge _ _ (by omega), bt_app_ge _ _ (by omega), show k - a.length = (k - a.length - 1) + 1 by omega]
    simp [bt]
/-- The document's answer is that by the cuts. -/
theorem docF_is (l : List UInt8) : docF l = rdF l := by
  have M := met l
  have hs := shp_is (l.drop (sg0 l))
  have ha := cw_app (l.drop (sg0 l))
  unfold docF rdF
  generalize l.drop (sg0 l) = t at *
  rw [← hs]
  have h1 := M.hb
  have h2 := M.hdt
  have h3 := M.hex
  have h4 := M.htx
  clear M hs
  generalize (cw t).1 = W at *
  generalize (cw t).2.1 = P at *
  generalize (cw t).2.2 = E at *
  split
  · rfl
  split
  · rfl
  cases hb : bad l
  · have hsn : snd W P E = true := by
      rw [hb] at h1
      cases h : snd W P E
      · rw [h] at h1; cases h1
      · rfl
    rw [h2 hb, h3 hb, hsn]
    obtain ⟨c, X, hE, htx⟩ := h4 hb
    by_cases hPE : P = [] ∧ E = []
    · rw [hPE.1, hPE.2]; simp
    · rw [if_neg (by simp), if_neg (by simpa using hPE), if_pos (by
        rcases Classical.em (P = []) with h | h
        · have : E ≠ [] := fun h2 => hPE ⟨h, h2⟩
          simp [this]
        · simp [h])]
      rw [htx, ← ha, st_app, st_app]
      rcases hE with rfl | ⟨rfl, hc⟩
      · simp [st_nil]
      · rw [if_neg (by simp), st_cons (E95 hc), rd_letter hc]
        simp
  · have hsn : snd W P E = false := by
      rw [hb] at h1
      cases h : snd W P E
      · rfl
      · rw [h] at h1; cases h1
    rw [hsn]; simp
/-- A number's bytes. -/
theorem isB_bytes {l : List UInt8} (h : isB l = true) : ∀ c ∈ l, nb c = true ∨ c = 45 ∨ c = 46 ∨ c = 101 ∨ c = 69 ∨ c = 43 := by
  intro c hc
  obtain ⟨k, hk, rfl⟩ := List.mem_iff_getElem.1 hc
  have hb : bt l k = ((l[k]).toNat : Int) := by simp [bt, hk]
  have num_of : ∀ n : Nat, n < 256 → bt l k = n → l[k] = UInt8.ofNat n := fun n hn e => UInt8.toNat_inj.1 (by rw [UInt8.toNat_ofNat_of_lt' (by simp [UInt8.size]; omega)]; omega)
  have nb_of : nmr (bt l k) = true → nb l[k] = true := fun e => by unfold nb; rw [← hb]; exact e
  obtain ⟨o1, o2, o3, o4, o5, o6, o7, o8⟩ := q_order (l := l)
  have h5 : q5 l = l.length := by
    unfold isB at h
    simp only [Bool.and_eq_true, decide_eq_true_eq] at h
    exact h.2
  by_cases k0 : k < q0 l
  · unfold q0 at k0
    split at k0
    · rename_i e
      obtain rfl : k = 0 := by omega
      exact .inr (.inl (num_of 45 (by omega) e))
    · omega
  by_cases k1 : k < q1 l
  · exact .inl (nb_of (runE_nmr l (q0 l) k (by omega) k1))
  by_cases k2 : k < q2 l
  · unfold q2 at k2
    split at k2
    · rename_i e
      obtain rfl : k = q1 l := by omega
      exact .inr (.inr (.inl (num_of 46 (by omega) (of_decide_eq_true e))))
    · omega
  by_cases k3 : k < q3 l
  · unfold q3 at k3
    split at k3
    · exact .inl (nb_of (runE_nmr l (q2 l) k (by omega) k3))
    · omega
  by_cases k4 : k < q4 l
  · unfold q4 at k4
    split at k4
    · rename_i e
      by_cases k3' : k = q3 l
      · subst k3'
        rcases of_decide_eq_true e with e | e
        · exact .inr (.inr (.inr (.inl (num_of 101 (by omega) e))))
        · exact .inr (.inr (.inr (.inr (.inl (num_of 69 (by omega) e)))))
      · split at k4
        · rename_i e2
          obtain rfl : k = q3 l + 1 := by omega
          rcases of_decide_eq_true e2 with e | e
          · exact .inr (.inr (.inr (.inr (.inr (num_of 43 (by omega) e)))))
          · exact .inr (.inl (num_of 45 (by omega) e))
        · omega
    · omega
  · exact .inl (nb_of (o8 k (by omega) (by omega)))
theorem isB_no95 {l : List UInt8} (h : isB l = true) : (95 : UInt8) ∉ l := fun hm => by
  rcases isB_bytes h 95 hm with h | h | h | h | h | h
  · rw [nb95] at h; cases h
  all_goals revert h; decide
theorem runE_tk (l : List UInt8) (i : Nat) : runE l i = i + ((l.drop i).takeWhile nb).length := by
  by_cases h : i < l.length
  · rw [List.drop_eq_getElem_cons h, List.takeWhile_cons]
    have hb : nmr (bt l i) = nb l[i] := by unfold nb; congr 1; simp [bt, h]
    by_cases hn : nb l[i] = true
    · rw [runE_on h (by rw [hb]; exact hn), if_pos hn, runE_tk l (i + 1), List.length_cons]; omega
    · rw [runE_end (by rw [hb]; exact fun h => hn h.2), if_neg hn]; rfl
  · rw [runE_end (fun h2 => h h2.1), List.drop_eq_nil_of_le (by omega)]; rfl
termination_by l.length - i
theorem rn_tk : ∀ (x : List UInt8) (p : Bool), (95 : UInt8) ∉ x → rn p x = ((x.takeWhile nb).length, x.takeWhile nb)
  | [], p, _ => rfl
  | c :: r, p, h => by
    have hc : c ≠ 95 := fun e => h (by simp [e])
    have hr : (95 : UInt8) ∉ r := fun e => h (by simp [e])
    rw [rn, List.takeWhile_cons]
    by_cases hn : nb c = true
    · rw [if_pos hn, if_pos hn, rn_tk r true hr]; rfl
    · rw [if_neg hn, if_neg hn, if_neg (fun e => hc e.1)]; rfl
theorem rn_run {l : List UInt8} (h : (95 : UInt8) ∉ l) (i : Nat) : i + (rn false (l.drop i)).1 = runE l i ∧ ((rn false (l.drop i)).2 = [] ↔ runE l i = i) ∧ (rn false (l.drop i)).2 = (l.drop i).takeWhile nb := by
  have h2 : (95 : UInt8) ∉ l.drop i := fun e => h (List.mem_of_mem_drop e)
  rw [rn_tk _ _ h2, runE_tk]
  refine ⟨rfl, ?_, rfl⟩
  constructor
  · intro e; simp only at e; rw [e]; rfl
  · intro e; exact List.length_eq_zero_iff.1 (by simp only; omega)
theorem isB_bad {l : List UInt8} (h : (95 : UInt8) ∉ l) (h43 : bt l 0 ≠ 43) : isB l = !bad l := by
  have e0 : sg0 l = q0 l := by unfold sg0 q0; simp [h43]
  have r1 := rn_run h (q0 l)
  have e1 : p1 l = q1 l := by unfold p1 R1 q1; rw [e0]; exact r1.1
  have ed : dt l = dot l := by unfold dt dot; rw [e1]
  have r2 := rn_run h (q1 l + 1)
  have e3 : p2 l = q3 l := by
    unfold p2 q3 q2 R2
    rw [ed, e1]
    split
    · exact r2.1
    · rfl
  have ee : ex l = exq l := by unfold ex exq; rw [e3]
  have es' : es l = sgn l := by unfold es sgn; rw [e3]
  have e4 : ex l = true → p3 l = q4 l := fun hx => by
    unfold p3 q4
    rw [es', e3, ← ee, if_pos hx]
  have r3 := rn_run h (q4 l)
  have e5 : p4 l = q5 l := by
    unfold p4 q5
    rw [ee]
    split
    · rename_i hx
      unfold R3; rw [e4 (by rw [ee]; exact hx)]; exact r3.1
    · exact e3
  have g1 : b1 l = bad1 l := by
    unfold b1 bad1 R1
    rw [e0]
    have hq : q1 l = q0 l + ((l.drop (q0 l)).takeWhile nb).length := runE_tk l (q0 l)
    rw [r1.2.2, hq]
    have hall : ((l.drop (q0 l)).takeWhile nb).all nb = true := List.all_eq_true.2 (tk_mem _)
    have hbt : (l.drop (q0 l)).takeWhile nb ≠ [] → bt l (q0 l) = bt ((l.drop (q0 l)).takeWhile nb) 0 := fun hne => by
      have e := List.takeWhile_append_dropWhile (p := nb) (l := l.drop (q0 l))
      have := bt_drop l (q0 l) 0
      rw [Nat.add_zero] at this
      rw [← this]
      conv => lhs; rw [← e]
      exact bt_app_lt _ (List.length_pos_iff.2 hne)
    generalize (l.drop (q0 l)).takeWhile nb = d at *
    unfold num digs
    rw [hall]
    cases d with
    | nil => simp
    | cons c d =>
      rw [hbt (by simp), bt_cons]
      have : ((c.toNat : Int) = 48) ↔ c = 48 := ⟨fun e => UInt8.toNat_inj.1 (show c.toNat = 48 by omega), fun e => by rw [e]; rfl⟩
      simp [this]
      by_cases hc : c = 48 <;> simp [hc]
  have g2 : b2 l = (dot l && decide (q3 l = q2 l)) := by
    unfold b2
    rw [ed]
    cases hd : dot l
    · rfl
    · unfold R2 q3 q2
      rw [hd, if_pos rfl, if_pos rfl, e1]
      simp only [Bool.true_and]
      exact decide_eq_decide.2 r2.2.1
  have g3 : b3 l = (exq l && decide (q5 l = q4 l)) := by
    unfold b3
    rw [ee]
    cases hx : exq l
    · rfl
    · unfold R3 q5
      rw [hx, if_pos rfl, e4 (by rw [ee]; exact hx)]
      simp only [Bool.true_and]
      exact decide_eq_decide.2 r3.2.1
  have hle := (q_order (l := l)).2.2.2.2.2.1
  have g4 : b4 l = !decide (q5 l = l.length) := by
    unfold b4; rw [e5]
    by_cases hq : q5 l = l.length
    · simp [hq]
    · simp [hq]; omega
  unfold isB bad
  rw [g1, g2, g3, g4]
  cases bad1 l <;> cases dot l <;> cases exq l <;> simp
theorem isB_43 {l : List UInt8} (h : bt l 0 = 43) : isB l = false := by
  have e0 : q0 l = 0 := by unfold q0; rw [h]; rfl
  have e1 : q1 l = 0 := by unfold q1; rw [e0, runE_end]; rw [h]; exact fun h => by cases h.2
  unfold isB bad1
  rw [e0, e1]; simp
/-- A number's text is its parts, each of its form. -/
theorem isB_snd {l : List UInt8} (h : (95 : UInt8) ∉ l) (h43 : bt l 0 ≠ 43) : isB l = snd (cw (l.drop (sg0 l))).1 (cw (l.drop (sg0 l))).2.1 (cw (l.drop (sg0 l))).2.2 := by
  rw [isB_bad h h43, (met l).hb]; simp
end Fl
end Go.Proofs.YthjlnafmpcppfaaGreatDoor
/- TOML's floats as lists: what the laws ask (lists alone). -/
namespace Go.Proofs.YthjlnafmpcppfaaGreatDoor
namespace Fl

/-- All low marks replaced by nothing. -/
theorem replaceK_st : ∀ (s : List UInt8) (k : Nat), s.count 95 ≤ k → Lib.replaceK [95] [] k s = st s
  | [], k, _ => by cases k <;> rfl
  | c :: r, 0, h => by
    have hc : c ≠ 95 := by rintro rfl; simp at h
    have ih := replaceK_st r 0 (by rw [List.count_cons_of_ne hc] at h; exact h)
    rw [st_cons hc, ← ih]; rfl
  | c :: r, k + 1, h => by
    by_cases hc : c = 95
    · subst hc
      rw [Lib.replaceK_hit [95] [] k (95 :: r) 0 (by rw [Lib.index_one]; rfl), st_95]
      have ih := replaceK_st r k (by simpa using h)
      simpa using ih
    · have ih := replaceK_st r (k + 1) (by rw [List.count_cons_of_ne hc] at h; exact h)
      have hi : Lib.index (c :: r) [95] = if (Lib.index r [95] == -1) = true then -1 else Lib.index r [95] + 1 := by
        rw [Lib.index_one, Lib.index_one, Lib.indexByte, if_neg (by simpa using hc)]
      have hge := Lib.index_ge r [95]
      rw [st_cons hc, ← ih, Lib.replaceK, Lib.replaceK, hi]
      by_cases hm : (Lib.index r [95] == -1) = true
      · rw [if_pos hm, if_pos (by decide), if_pos hm]
      · have hne : Lib.index r [95] ≠ -1 := fun e => hm (beq_iff_eq.2 e)
        rw [if_neg hm, if_neg (fun e => by have := beq_iff_eq.1 e; omega), if_neg hm]
        have e : (Lib.index r [95] + 1).toNat = (Lib.index r [95]).toNat + 1 := by omega
        rw [e]
        simp
theorem replaceAll_st (s : List UInt8) : Lib.replaceAll s [95] [] = st s := by
  unfold Lib.replaceAll Lib.replace
  rw [if_neg (by decide)]
  apply replaceK_st
  unfold Lib.replaceNum
  rw [if_pos (.inl (by omega)), Lib.count_one]
  exact Nat.le_refl _
theorem join_four (a b c d : List UInt8) : Lib.join [a, b, c, d] [] = a ++ (b ++ (c ++ d)) := by
  rw [Lib.join_cons]; simp [Lib.joinTail]
/-- Ahead of the first one of some bytes. -/
theorem indexAny_tk (m : List UInt8) : ∀ l : List UInt8, Lib.indexAny l m = if l.dropWhile (fun x => !m.contains x) = [] then -1 else ((l.takeWhile (fun x => !m.contains x)).length : Int)
  | [] => rfl
  | c :: l => by
    rw [Lib.indexAny, List.takeWhile_cons, List.dropWhile_cons]
    cases hc : m.contains c
    · rw [if_neg (by simp), indexAny_tk m l]
      simp only [Bool.not_false, if_true]
      by_cases hd : l.dropWhile (fun x => !m.contains x) = []
      · rw [if_pos hd, if_pos hd]; rfl
      · rw [if_neg hd, if_neg hd, if_neg (fun e => by have := beq_iff_eq.1 e; omega)]; simp
    · simp
theorem tk_dr (q : UInt8 → Bool) (l : List UInt8) : l.take (l.takeWhile q).length = l.takeWhile q ∧ l.drop (l.takeWhile q).length = l.dropWhile q := by
  have e := List.takeWhile_append_dropWhile (p := q) (l := l)
  constructor
  · conv => lhs; arg 2; rw [← e]
    rw [List.take_left]
  · conv => lhs; arg 2; rw [← e]
    rw [List.drop_left]
/-- A normal form? -/
def flIs (l : List UInt8) : Bool := decide (l = INF) || decide (l = 45 :: INF) || decide (l = NAN) || norm l
def rk (l : List UInt8) : Int := if l = NAN then 3 else if l = INF then 2 else if l = 45 :: INF then 0 else 1
/-- Does the first one stand ahead? -/
def flLess (a b : List UInt8) : Bool := flIs a && flIs b && (if rk a = rk b then less a b else decide (rk a < rk b))
theorem norm_inf : norm INF = false := by decide +kernel
theorem norm_minf : norm (45 :: INF) = false := by decide +kernel
theorem norm_nan : norm NAN = false := by decide +kernel
theorem is_inf : flIs INF = true := by decide +kernel
theorem is_minf : flIs (45 :: INF) = true := by decide +kernel
theorem is_nan : flIs NAN = true := by decide +kernel
theorem is_norm {l : List UInt8} (h : norm l = true) : flIs l = true := by simp [flIs, h]
theorem rk_inf : rk INF = 2 := by decide
theorem rk_minf : rk (45 :: INF) = 0 := by decide
theorem rk_nan : rk NAN = 3 := by decide
theorem rk_norm {l : List UInt8} (h : norm l = true) : rk l = 1 := by
  unfold rk
  rw [if_neg (by rintro rfl; rw [norm_nan] at h; cases h), if_neg (by rintro rfl; rw [norm_inf] at h; cases h), if_neg (by rintro rfl; rw [norm_minf] at h; cases h)]
/-- The kinds of normal forms. -/
theorem is_kinds {l : List UInt8} (h : flIs l = true) : l = INF ∨ l = 45 :: INF ∨ l = NAN ∨ norm l = true := by
  simp only [flIs, Bool.or_eq_true, decide_eq_true_eq] at h
  rcases h with ((h | h) | h) | h
  · exact .inl h
  · exact .inr (.inl h)
  · exact .inr (.inr (.inl h))
  · exact .inr (.inr (.inr h))
/-- The document's order is that by ranks. -/
def docLess (a b : List UInt8) : Bool :=
  if flIs a = false ∨ flIs b = false ∨ a = b ∨ a = NAN ∨ b = 45 :: INF ∨ a = INF ∧ b ≠ NAN then false
  else if a = 45 :: INF ∨ b = NAN ∨ b = INF then true else less a b
theorem docLess_is (a b : List UInt8) : docLess a b = flLess a b := by
  unfold docLess flLess
  cases ha : flIs a
  · simp
  cases hb : flIs b
  · simp
  have hn : ∀ {l}, norm l = true → (l = NAN) = False ∧ (l = INF) = False ∧ (l = 45 :: INF) = False := fun {l} h =>
    ⟨eq_false (by rintro rfl; rw [norm_nan] at h; cases h), eq_false (by rintro rfl; rw [norm_inf] at h; cases h), eq_false (by rintro rfl; rw [norm_minf] at h; cases h)⟩
  have hn' : ∀ {l}, norm l = true → (NAN = l) = False ∧ (INF = l) = False ∧ (45 :: INF = l) = False := fun {l} h =>
    ⟨eq_false (by rintro rfl; rw [norm_nan] at h; cases h), eq_false (by rintro rfl; rw [norm_inf] at h; cases h), eq_false (by rintro rfl; rw [norm_minf] at h; cases h)⟩
  rcases is_kinds ha with rfl | rfl | rfl | na <;> rcases is_kinds hb with rfl | rfl | rfl | nb'
  all_goals try (simp [rk_inf, rk_minf, rk_nan, less_irr]; done)
  · obtain ⟨a1, a2, a3⟩ := hn nb'
    simp [rk_inf, rk_norm nb', a1]
  · obtain ⟨a1, a2, a3⟩ := hn nb'
    obtain ⟨c1, c2, c3⟩ := hn' nb'
    simp [rk_minf, rk_norm nb', a1, a2, a3, c3]
  · simp [rk_nan, rk_norm nb']
  · obtain ⟨a1, a2, a3⟩ := hn na
    simp [rk_inf, rk_norm na, a1, a2]
  · simp [rk_minf, rk_norm na]
  · obtain ⟨a1, a2, a3⟩ := hn na
    simp [rk_nan, rk_norm na, a1, a2]
  · obtain ⟨a1, a2, a3⟩ := hn na
    obtain ⟨b1, b2, b3⟩ := hn nb'
    rw [rk_norm na, rk_norm nb']
    by_cases hab : a = b
    · subst hab; simp [less_irr]
    · simp [hab, a1, a2, a3, b1, b2, b3]
/-- What is read. -/
theorem rdF_kinds {l : List UInt8} (h : (rdF l).2 = 0) : flIs (rdF l).1 = true := by
  unfold rdF at *
  split
  · unfold mn; split
    · exact is_minf
    · exact is_inf
  · rename_i h1
    rw [if_neg h1] at h
    split
    · exact is_nan
    · rename_i h2
      rw [if_neg h2] at h
      split
      · rename_i h3
        rw [if_pos h3] at h
        exact is_norm (norm_rd h)
      · rename_i h3
        rw [if_neg h3] at h; cases h
theorem rd_wrong {l : List UInt8} (h : (rd l).2 ≠ 0) : (rd l).1 = [] := by
  unfold rd at *
  split
  · rfl
  · rename_i h1
    rw [if_neg h1] at h
    split
    · rfl
    · rename_i h2
      rw [if_neg h2] at h
      split
      · rename_i h3; rw [if_pos h3] at h; exact absurd rfl h
      · rename_i h3
        rw [if_neg h3] at h
        split
        · rfl
        · rename_i h4; rw [if_neg h4] at h; exact absurd rfl h
theorem rdF_wrong {l : List UInt8} (h : (rdF l).2 ≠ 0) : (rdF l).1 = [] := by
  unfold rdF at *
  split
  · rename_i h1; rw [if_pos h1] at h; exact absurd rfl h
  · rename_i h1
    rw [if_neg h1] at h
    split
    · rename_i h2; rw [if_pos h2] at h; exact absurd rfl h
    · rename_i h2
      rw [if_neg h2] at h
      split
      · rename_i h3; rw [if_pos h3] at h; exact rd_wrong h
      · rfl
/-- One order. -/
theorem flLess_irr (a : List UInt8) : flLess a a = false := by simp [flLess, less_irr]
theorem flLess_minf (a : List UInt8) : flLess a (45 :: INF) = false := by
  cases h : flIs a
  · simp [flLess, h]
  · rcases is_kinds h with rfl | rfl | rfl | n
    all_goals try decide +kernel
    simp [flLess, h, rk_norm n, rk_minf]
theorem flLess_nan (a : List UInt8) : flLess NAN a = false := by
  cases h : flIs a
  · simp [flLess, h]
  · rcases is_kinds h with rfl | rfl | rfl | n
    all_goals try decide +kernel
    simp [flLess, h, rk_norm n, rk_nan]
theorem flLess_minf' {a : List UInt8} (h : flIs a = true) : flLess (45 :: INF) a = decide (a ≠ 45 :: INF) := by
  rcases is_kinds h with rfl | rfl | rfl | n
  all_goals try decide +kernel
  rw [decide_eq_true (by rintro rfl; rw [norm_minf] at n; cases n)]
  simp [flLess, h, rk_norm n, rk_minf, is_minf]
theorem flLess_nan' {a : List UInt8} (h : flIs a = true) : flLess a NAN = decide (a ≠ NAN) := by
  rcases is_kinds h with rfl | rfl | rfl | n
  all_goals try decide +kernel
  rw [decide_eq_true (by rintro rfl; rw [norm_nan] at n; cases n)]
  simp [flLess, h, rk_norm n, rk_nan, is_nan]
theorem rk_eq {a b : List UInt8} (ha : flIs a = true) (hb : flIs b = true) (h : rk a = rk b) : a = b ∨ norm a = true ∧ norm b = true := by
  rcases is_kinds ha with rfl | rfl | rfl | na <;> rcases is_kinds hb with rfl | rfl | rfl | nb'
  all_goals try (left; rfl)
  all_goals try (exfalso; revert h; decide)
  all_goals try (exfalso; rw [rk_norm nb'] at h; revert h; decide)
  all_goals try (exfalso; rw [rk_norm na] at h; revert h; decide)
  exact .inr ⟨na, nb'⟩
theorem flLess_asym {a b : List UInt8} (h : flLess a b = true) : flLess b a = false := by
  simp only [flLess, Bool.and_eq_true] at h ⊢
  obtain ⟨⟨ha, hb⟩, h⟩ := h
  rw [ha, hb]
  by_cases hr : rk a = rk b
  · rw [if_pos hr] at h
    rw [if_pos hr.symm]
    rcases rk_eq ha hb hr with rfl | ⟨n1, n2⟩
    · rw [less_irr] at h; cases h
    · rw [less_asym n1 n2 h]; rfl
  · rw [if_neg hr, decide_eq_true_eq] at h
    rw [if_neg (fun e => hr e.symm), decide_eq_false (by omega)]; rfl
theorem flLess_tot {a b : List UInt8} (ha : flIs a = true) (hb : flIs b = true) (h : a ≠ b) : (flLess a b || flLess b a) = true := by
  unfold flLess
  rw [ha, hb]
  by_cases hr : rk a = rk b
  · rw [if_pos hr, if_pos hr.symm]
    rcases rk_eq ha hb hr with e | ⟨n1, n2⟩
    · exact absurd e h
    · rcases less_tot n1 n2 h with h2 | h2 <;> simp [h2]
  · rw [if_neg hr, if_neg (fun e => hr e.symm)]
    rcases Int.lt_or_lt_of_ne hr with h2 | h2 <;> simp [h2]
theorem flLess_tra {a b c : List UInt8} (h1 : flLess a b = true) (h2 : flLess b c = true) : flLess a c = true := by
  simp only [flLess, Bool.and_eq_true] at h1 h2 ⊢
  obtain ⟨⟨ha, hb⟩, h1⟩ := h1
  obtain ⟨⟨_, hc⟩, h2⟩ := h2
  refine ⟨⟨ha, hc⟩, ?_⟩
  by_cases r1 : rk a = rk b
  · rw [if_pos r1] at h1
    by_cases r2 : rk b = rk c
    · rw [if_pos r2] at h2
      rw [if_pos (r1.trans r2)]
      rcases rk_eq ha hb r1 with rfl | ⟨n1, n2⟩
      · rw [less_irr] at h1; cases h1
      · rcases rk_eq hb hc r2 with rfl | ⟨_, n3⟩
        · rw [less_irr] at h2; cases h2
        · exact less_tra n1 n2 n3 h1 h2
    · rw [if_neg r2, decide_eq_true_eq] at h2
      rw [if_neg (by omega), decide_eq_true_eq]; omega
  · rw [if_neg r1, decide_eq_true_eq] at h1
    by_cases r2 : rk b = rk c
    · rw [if_neg (by omega), decide_eq_true_eq]; omega
    · rw [if_neg r2, decide_eq_true_eq] at h2
      rw [if_neg (by omega), decide_eq_true_eq]; omega
end Fl
end Go.Proofs.YthjlnafmpcppfaaGreatDoor
/- TOML's floats as lists: JSON's numbers, and a mark put in (lists alone). -/
namespace Go.Proofs.YthjlnafmpcppfaaGreatDoor
namespace Fl

theorem shp_inf : shp INF = false := by decide
theorem shp_nan : shp NAN = false := by decide
theorem mks_no95 : ∀ (l : List UInt8) (p : Bool), (95 : UInt8) ∉ l → mks p l = true
  | [], _, _ => rfl
  | c :: r, p, h => by
    rw [mks, if_neg (fun e => h (by simp [e]))]
    exact mks_no95 r _ (fun e => h (by simp [e]))
theorem st_no95 {l : List UInt8} (h : (95 : UInt8) ∉ l) : st l = l := by
  unfold st
  rw [List.filter_eq_self]
  intro c hc
  have : c ≠ 95 := fun e => h (e ▸ hc)
  simpa using this
theorem mn_drop {l : List UInt8} (h : bt l 0 ≠ 43) : mn l ++ l.drop (sg0 l) = l := by
  unfold mn sg0
  by_cases h45 : bt l 0 = 45
  · rw [if_pos h45, if_pos (.inr h45)]
    cases l with
    | nil => revert h45; decide
    | cons c r =>
      rw [bt_cons] at h45
      obtain rfl : c = 45 := UInt8.toNat_inj.1 (show c.toNat = 45 by omega)
      rfl
  · rw [if_neg h45, if_neg (by omega)]; rfl
theorem drop_sub {l : List UInt8} {k : Nat} {c : UInt8} (h : c ∉ l) : c ∉ l.drop k := fun e => h (List.mem_of_mem_drop e)
/-- A number's text as JSON has it: no mark, no plus ahead, each part of its form, none of the special ones. -/
theorem isB_what {l : List UInt8} (h : isB l = true) : (95 : UInt8) ∉ l ∧ bt l 0 ≠ 43 ∧ snd (cw (l.drop (sg0 l))).1 (cw (l.drop (sg0 l))).2.1 (cw (l.drop (sg0 l))).2.2 = true ∧ l.drop (sg0 l) ≠ INF ∧ l.drop (sg0 l) ≠ NAN := by
  have h95 := isB_no95 h
  have h43 : bt l 0 ≠ 43 := fun e => by rw [isB_43 e] at h; cases h
  have hs := isB_snd h95 h43
  rw [h] at hs
  refine ⟨h95, h43, hs.symm, fun e => ?_, fun e => ?_⟩
  · rw [e] at hs; revert hs; decide
  · rw [e] at hs; revert hs; decide
theorem rd_isB (l : List UInt8) : isB l = true ↔ (rd l).2 ≠ 3 := by
  constructor
  · intro h
    unfold rd
    rw [if_neg (by rw [h]; simp)]
    split
    · decide
    split
    · decide
    split
    · decide
    · show (0 : Int) ≠ 3
      decide
  · intro h
    cases hb : isB l
    · rw [rd_syntax hb] at h; exact absurd rfl h
    · rfl
/-- What is read of a text that is no number of JSON's has a sign, or a mark, or is special. -/
theorem json_no {l : List UInt8} (h : (rd l).2 = 3) (h2 : (rdF l).2 = 0) : (95 : UInt8) ∈ l ∨ (43 : UInt8) ∈ l ∨ l.drop (sg0 l) = INF ∨ l.drop (sg0 l) = NAN := by
  by_cases h95 : (95 : UInt8) ∈ l
  · exact .inl h95
  by_cases h43 : (43 : UInt8) ∈ l
  · exact .inr (.inl h43)
  by_cases hi : l.drop (sg0 l) = INF
  · exact .inr (.inr (.inl hi))
  by_cases hn : l.drop (sg0 l) = NAN
  · exact .inr (.inr (.inr hn))
  exfalso
  unfold rdF at h2
  rw [if_neg hi, if_neg hn] at h2
  split at h2
  · rw [st_no95 (drop_sub h95), mn_drop] at h2
    · omega
    · intro e
      cases l with
      | nil => revert e; decide
      | cons c r =>
        rw [bt_cons] at e
        obtain rfl : c = 43 := UInt8.toNat_inj.1 (show c.toNat = 43 by omega)
        exact h43 (by simp)
  · cases h2
theorem cw_none : ∀ t : List UInt8, (cw t).2.1 = [] → (cw t).2.2 = [] → ∀ c ∈ t, c ≠ 46 ∧ isE c = false := by
  intro t h1 h2
  have := cw_app t
  rw [h1, h2] at this
  simp only [List.append_nil] at this
  intro c hc
  rw [← this] at hc
  exact cw_w t c hc
theorem cw_plain : ∀ t : List UInt8, (∀ c ∈ t, c ≠ 46 ∧ isE c = false) → cw t = (t, [], [])
  | [], _ => rfl
  | c :: t, h => by
    have hc := h c (by simp)
    rw [cw, if_neg hc.1, if_neg (by rw [hc.2]; simp), cw_plain t (fun d hd => h d (by simp [hd]))]
/-- Where the bytes are that make it no integer's. -/
def more (l : List UInt8) : Bool := l.any (fun c => c == 46 || isE c)
theorem more_t {l : List UInt8} (h : bt l 0 ≠ 43) : more l = more (l.drop (sg0 l)) := by
  have e := mn_drop h
  conv => lhs; rw [← e]
  unfold more mn
  split <;> simp [isE]
theorem more_cw (t : List UInt8) : (decide ((cw t).2.1 ≠ []) || decide ((cw t).2.2 ≠ [])) = more t := by
  cases hm : more t
  · have hall : ∀ c ∈ t, c ≠ 46 ∧ isE c = false := by
      intro c hc
      unfold more at hm
      rw [List.any_eq_false] at hm
      simpa using hm c hc
    rw [cw_plain t hall]; simp
  · unfold more at hm
    obtain ⟨c, hc, h2⟩ := List.any_eq_true.1 hm
    by_cases h1 : (cw t).2.1 = []
    · by_cases h3 : (cw t).2.2 = []
      · have := cw_none t h1 h3 c hc
        simp [this.1, this.2] at h2
      · simp [h3]
    · simp [h1]
/-- JSON's numbers with a point or an exponent are floats, of the same normal form. -/
theorem json_yes {l : List UInt8} (h : isB l = true) (hm : more l = true) : rdF l = rd l := by
  obtain ⟨h95, h43, hs, hi, hn⟩ := isB_what h
  have hsh := shp_is (l.drop (sg0 l))
  rw [hs, more_cw, ← more_t h43, hm] at hsh
  unfold rdF
  rw [if_neg hi, if_neg hn, if_pos (by rw [← hsh]; rfl), st_no95 (drop_sub h95), mn_drop h43]
theorem json_int {l : List UInt8} (h : isB l = true) (hm : more l = false) : rdF l = ([], 3) := by
  obtain ⟨h95, h43, hs, hi, hn⟩ := isB_what h
  have hsh := shp_is (l.drop (sg0 l))
  rw [more_cw, ← more_t h43, hm] at hsh
  unfold rdF
  rw [if_neg hi, if_neg hn, if_neg (by rw [← hsh]; simp)]
theorem json_whole {l : List UInt8} (h : isB l = true) (hm : more l = false) : II.In.rd l ≠ .syn := by
  obtain ⟨h95, h43, hs, hi, hn⟩ := isB_what h
  have hmt := hm
  rw [more_t h43] at hmt
  have hall : ∀ c ∈ l.drop (sg0 l), c ≠ 46 ∧ isE c = false := by
    intro c hc
    unfold more at hmt
    rw [List.any_eq_false] at hmt
    simpa using hmt c hc
  rw [cw_plain _ hall] at hs
  have hg : II.In.good 10 (l.drop (sg0 l)) = true := by
    unfold snd at hs
    simp only [Bool.and_eq_true] at hs
    exact hs.1.1
  have hrdx : II.rdx l = false := by
    apply decide_eq_false
    rintro ⟨g1, g2, g3⟩
    obtain ⟨c, hc, hb⟩ := bt_mem (x := l) (k := 1) (by omega)
    rw [hb] at g3
    have hbs := isB_bytes h c hc
    rcases hbs with hbs | rfl | rfl | rfl | rfl | rfl
    · have := nb_range hbs; omega
    all_goals revert g3; decide
  have hbody : ∀ m, II.In.body 10 m (l.drop (sg0 l)) ≠ .syn := fun m => by
    obtain ⟨v, _, hv, _⟩ := II.In.body_good (m := m) hg
    rw [hv, II.In.fin_some]
    split <;> simp
  unfold II.In.rd
  rw [II.pre_sgn hrdx, if_neg (fun e => h43 e.2)]
  by_cases h45 : bt l 0 = 45
  · have h0 : sg0 l = 1 := by unfold sg0; rw [if_pos (.inr h45)]
    have hl : 0 < l.length := by
      rcases Nat.eq_zero_or_pos l.length with e | e
      · rw [bt_far (by omega)] at h45; omega
      · exact e
    rw [if_pos ⟨hl, h45⟩]
    rw [h0] at hbody
    exact hbody true
  · have h0 : sg0 l = 0 := by unfold sg0; rw [if_neg (by omega)]
    rw [if_neg (fun e => h45 e.2)]
    rw [h0] at hbody
    exact hbody false
theorem plus_drop (l : List UInt8) : (43 :: l).drop (sg0 (43 :: l)) = l ∧ mn (43 :: l) = [] := ⟨rfl, rfl⟩
theorem json_plus {l : List UInt8} (h : isB l = true) (h45 : bt l 0 ≠ 45) : rdF (43 :: l) = rdF l := by
  obtain ⟨h95, h43, hs, hi, hn⟩ := isB_what h
  have h0 : sg0 l = 0 := by unfold sg0; rw [if_neg (by omega)]
  have hm : mn l = [] := by unfold mn; rw [if_neg h45]
  unfold rdF
  rw [(plus_drop l).1, (plus_drop l).2, h0, hm]; rfl
theorem json_minus {l : List UInt8} (h45 : bt l 0 = 45) : rdF (43 :: l) = ([], 3) := by
  cases l with
  | nil => revert h45; decide
  | cons c r =>
    rw [bt_cons] at h45
    obtain rfl : c = 45 := UInt8.toNat_inj.1 (show c.toNat = 45 by omega)
    unfold rdF
    rw [(plus_drop _).1, if_neg (by simp), if_neg (by simp), if_neg]
    have hd : snd0 (cw (45 :: st r)).1 (cw (45 :: st r)).2.1 (cw (45 :: st r)).2.2 = false := by
      rw [cw, if_neg (by decide), if_neg (by decide)]
      unfold snd0 num digs
      have : nb 45 = false := by decide
      simp [this]
    rw [st_cons (by decide), shp, hd]; simp
/-- A mark put in. -/
def ld : Bool → List UInt8 → Bool
  | p, [] => p
  | _, c :: r => ld (nb c) r
theorem hdd_app' {a : List UInt8} (h : a ≠ []) (b : List UInt8) : hdd (a ++ b) = hdd a := by
  cases a with
  | nil => exact absurd rfl h
  | cons => rfl
theorem mks_ins (b : List UInt8) : ∀ (a : List UInt8) (p : Bool), mks p (a ++ 95 :: b) = (mks p (a ++ b) && ld p a && hdd b)
  | [], p => by
    show mks p (95 :: b) = (mks p b && p && hdd b)
    rw [mks, if_pos rfl]
    cases hb : hdd b
    · simp
    · cases b with
      | nil => cases hb
      | cons c r =>
        have hc : c ≠ 95 := nb_ne95 hb
        rw [mks, mks, if_neg hc, if_neg hc]
        cases p <;> simp
  | c :: a, p => by
    rw [List.cons_append, List.cons_append, mks, mks]
    by_cases hc : c = 95
    · subst hc
      rw [if_pos rfl, if_pos rfl, mks_ins b a false, ld, nb95]
      by_cases ha : a = []
      · subst ha; simp [ld]
      · rw [hdd_app' ha, hdd_app' ha]; simp only [Bool.and_assoc]
    · rw [if_neg hc, if_neg hc, mks_ins b a _, ld]
theorem ld_bt : ∀ (a : List UInt8) (p : Bool), a ≠ [] → ld p a = nmr (bt a (a.length - 1))
  | [], _, h => absurd rfl h
  | [c], p, _ => by rw [ld, ld]; rfl
  | c :: d :: r, p, _ => by
    rw [ld, ld_bt (d :: r) _ (by simp)]
    simp [bt]
theorem hdd_bt (b : List UInt8) : hdd b = nmr (bt b 0) := by
  cases b with
  | nil => rfl
  | cons c r => rw [bt_cons]; rfl
/-- Does a place stand between two digits? -/
def btw (l : List UInt8) (i : Nat) : Bool := decide (0 < i) && nmr (bt l (i - 1)) && nmr (bt l i)
def ins (l : List UInt8) (i : Nat) : List UInt8 := l.take i ++ 95 :: l.drop i
theorem mks_at {t : List UInt8} {j : Nat} (hj : j ≤ t.length) : mks false (ins t j) = (mks false t && btw t j) := by
  unfold ins btw
  rw [mks_ins, List.take_append_drop, hdd_bt, bt_drop, Nat.add_zero]
  by_cases h : j = 0
  · subst h; simp [ld]
  · have hne : t.take j ≠ [] := by
      intro e
      have := congrArg List.length e
      rw [List.length_take, List.length_nil] at this
      omega
    have hl : (t.take j).length = j := by simp; omega
    rw [ld_bt _ _ hne, hl, bt_take t (by omega), Bool.and_assoc]
    simp [Nat.pos_of_ne_zero h]
theorem st_ins (t : List UInt8) (j : Nat) : st (ins t j) = st t := by
  unfold ins
  rw [st_app, st_95, ← st_app, List.take_append_drop]
theorem ins_ne {t x : List UInt8} (j : Nat) (h : (95 : UInt8) ∉ x) : ins t j ≠ x := by
  rintro rfl
  exact h (by simp [ins])
theorem btw_at {t : List UInt8} {j : Nat} (h : btw t j = true) : ∃ c ∈ t, nb c = true := by
  unfold btw at h
  simp only [Bool.and_eq_true] at h
  have hj : j < t.length := by
    rcases Nat.lt_or_ge j t.length with e | e
    · exact e
    · rw [bt_far e] at h; cases h.2
  obtain ⟨c, hc, e⟩ := bt_mem hj
  exact ⟨c, hc, by unfold nb; rw [← e]; exact h.2⟩
theorem nb_inf : ∀ c ∈ INF, nb c = false := by decide
theorem nb_nan : ∀ c ∈ NAN, nb c = false := by decide
theorem rdF_ins {l : List UInt8} {i : Nat} (hi : i ≤ l.length) : rdF (ins l i) = if btw l i = true then rdF l else ([], 3) := by
  have core : ∀ (t : List UInt8) (j : Nat), j ≤ t.length → ∀ m : List UInt8, (if ins t j = INF then (m ++ INF, 0) else if ins t j = NAN then (NAN, 0) else if (mks false (ins t j) && shp (st (ins t j))) = true then rd (m ++ st (ins t j)) else ([], 3)) =
      if btw t j = true then (if t = INF then (m ++ INF, (0 : Int)) else if t = NAN then (NAN, 0) else if (mks false t && shp (st t)) = true then rd (m ++ st t) else ([], 3)) else ([], 3) := by
    intro t j hj m
    rw [if_neg (ins_ne j (by decide)), if_neg (ins_ne j (by decide)), mks_at hj, st_ins]
    cases hb : btw t j
    · simp
    · obtain ⟨c, hc, hn⟩ := btw_at hb
      have hI : t ≠ INF := fun e => by rw [e] at hc; rw [nb_inf c hc] at hn; cases hn
      have hN : t ≠ NAN := fun e => by rw [e] at hc; rw [nb_nan c hc] at hn; cases hn
      rw [if_pos rfl, if_neg hI, if_neg hN, Bool.and_true]
  by_cases h0 : i = 0
  · subst h0
    have hb : btw l 0 = false := by simp [btw]
    have e : ins l 0 = 95 :: l := rfl
    have e1 : sg0 (95 :: l) = 0 := rfl
    rw [hb, e]
    unfold rdF
    rw [e1, List.drop_zero, if_neg (by simp), if_neg (by simp), mks, if_pos rfl]
    simp
  · have hl : 0 < l.length := by omega
    have hbt : bt (ins l i) 0 = bt l 0 := by
      unfold ins
      rw [bt_app_lt _ (by simp; omega), bt_take l (by omega)]
    have es : sg0 (ins l i) = sg0 l := by unfold sg0; rw [hbt]
    have em : mn (ins l i) = mn l := by unfold mn; rw [hbt]
    have hs1 : sg0 l ≤ 1 := by unfold sg0; split <;> omega
    have hle := sg0_le l
    have ed : (ins l i).drop (sg0 l) = ins (l.drop (sg0 l)) (i - sg0 l) := by
      unfold ins
      rw [List.drop_append_of_le_length (by simp; omega), List.drop_take, List.drop_drop, show sg0 l + (i - sg0 l) = i by omega]
    have eb : btw l i = btw (l.drop (sg0 l)) (i - sg0 l) := by
      unfold btw
      rw [bt_drop, bt_drop]
      by_cases hz : i - sg0 l = 0
      · have hs : sg0 l = 1 ∧ i = 1 := by omega
        have h43 : bt l 0 = 43 ∨ bt l 0 = 45 := by
          have := hs.1
          unfold sg0 at this
          split at this
          · assumption
          · omega
        rw [hz, hs.2]
        have : nmr (bt l (1 - 1)) = false := nmr_no (by show bt l 0 < 48 ∨ _; omega)
        rw [this]; simp
      · rw [show sg0 l + (i - sg0 l - 1) = i - 1 by omega, show sg0 l + (i - sg0 l) = i by omega, decide_eq_true (by omega : 0 < i), decide_eq_true (by omega : 0 < i - sg0 l)]
    unfold rdF
    rw [es, em, ed, eb]
    exact core (l.drop (sg0 l)) (i - sg0 l) (by rw [List.length_drop]; omega) (mn l)
end Fl
end Go.Proofs.YthjlnafmpcppfaaGreatDoor
