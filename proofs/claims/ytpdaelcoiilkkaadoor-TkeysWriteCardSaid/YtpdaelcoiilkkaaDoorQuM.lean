/- Strings of JSON as lists of bytes: the reading, the writing, and what follows of them (lists alone, no program). -/
import Derived.Test.YtpdaelcoiilkkaaDoorProg
namespace Go.Proofs.YtpdaelcoiilkkaaDoor

namespace Qu
/-- A rune's bytes. -/
def pt (n : Nat) : List UInt8 :=
  if n < 128 then [UInt8.ofNat n]
  else if n < 2048 then [UInt8.ofNat (192 + n / 64), UInt8.ofNat (128 + n % 64)]
  else if n < 65536 then [UInt8.ofNat (224 + n / 4096), UInt8.ofNat (128 + n / 64 % 64), UInt8.ofNat (128 + n % 64)]
  else [UInt8.ofNat (240 + n / 262144), UInt8.ofNat (128 + n / 4096 % 64), UInt8.ofNat (128 + n / 64 % 64), UInt8.ofNat (128 + n % 64)]
/-- A digit of base 16. -/
def dig (c : UInt8) : Option Nat :=
  if 48 ≤ c.toNat ∧ c.toNat ≤ 57 then some (c.toNat - 48)
  else if 97 ≤ c.toNat ∧ c.toNat ≤ 102 then some (c.toNat - 97 + 10)
  else if 65 ≤ c.toNat ∧ c.toNat ≤ 70 then some (c.toNat - 65 + 10) else none
/-- A short escape's byte. -/
def short (c : UInt8) : Option UInt8 :=
  if c = 34 then some 34 else if c = 92 then some 92 else if c = 47 then some 47 else if c = 98 then some 8
  else if c = 102 then some 12 else if c = 110 then some 10 else if c = 114 then some 13 else if c = 116 then some 9 else none
/-- k digits: the number and the rest, or where it fails. -/
def hx : Nat → Nat → List UInt8 → Nat ⊕ (Nat × List UInt8)
  | 0, n, r => .inr (n, r)
  | _ + 1, _, [] => .inl 0
  | k + 1, n, c :: r => match dig c with
    | none => .inl 0
    | some d => match hx k (16 * n + d) r with
      | .inl j => .inl (j + 1)
      | .inr x => .inr x
inductive Un where
  | byte (b : UInt8)
  | rune (n : Nat)
inductive Step where
  | done (rest : List UInt8)
  | unit (k : Nat) (u : Un) (rest : List UInt8)
  | bad (k : Nat)
/-- The next unit. -/
def un : List UInt8 → Step
  | [] => .bad 0
  | c :: r =>
    if c = 34 then .done r
    else if c = 92 then
      match r with
      | [] => .bad 1
      | d :: r' => match short d with
        | some b => .unit 2 (.byte b) r'
        | none => if d = 117 then (match hx 4 0 r' with | .inl j => .bad (2 + j) | .inr x => .unit 6 (.rune x.1) x.2) else .bad 1
    else if c.toNat < 32 then .bad 0 else .unit 1 (.byte c) r
/-- The rune of a pair. -/
@[irreducible] def pair (n m : Nat) : Nat := 65536 + 1024 * (n - 55296) + (m - 56320)
def high (n : Nat) : Bool := decide (55296 ≤ n ∧ n ≤ 56319)
def low (n : Nat) : Bool := decide (56320 ≤ n ∧ n ≤ 57343)
/-- A text, or what is wrong (a half of a pair: true) and where. -/
inductive Res where
  | ok (t : List UInt8)
  | bad (half : Bool) (place : Nat)
def Res.pre (k : Nat) (t : List UInt8) : Res → Res
  | ok x => ok (t ++ x)
  | bad h a => bad h (k + a)
inductive Tok where
  | stop (r : Res)
  | go (k : Nat) (t : List UInt8) (rest : List UInt8)
/-- A unit, or a pair of them. -/
def tok (l : List UInt8) : Tok := match un l with
  | .bad k => .stop (.bad false k)
  | .done [] => .stop (.ok [])
  | .done (_ :: _) => .stop (.bad false 1)
  | .unit k (.byte b) r => .go k [b] r
  | .unit k (.rune n) r =>
    if high n then
      match un r with
      | .unit k2 (.rune m) r2 => if low m then .go (k + k2) (pt (pair n m)) r2 else .stop (.bad true 0)
      | _ => .stop (.bad true 0)
    else if low n then .stop (.bad true 0)
    else .go k (pt n) r

theorem hx_inr : ∀ (k n : Nat) (l : List UInt8) {x : Nat × List UInt8}, hx k n l = .inr x → l.length = k + x.2.length
  | 0, n, r, x, h => by simp [hx] at h; subst h; simp
  | k + 1, n, [], x, h => by simp [hx] at h
  | k + 1, n, c :: r, x, h => by
    simp only [hx] at h
    split at h
    · cases h
    · split at h
      · cases h
      · rename_i d hd y hy
        cases h
        have := hx_inr k _ r hy
        simp; omega
theorem hx_inl : ∀ (k n : Nat) (l : List UInt8) {j : Nat}, hx k n l = .inl j → j ≤ l.length ∧ j < k
  | 0, n, r, x, h => by simp [hx] at h
  | k + 1, n, [], x, h => by simp [hx] at h; omega
  | k + 1, n, c :: r, x, h => by
    simp only [hx] at h
    split at h
    · cases h; simp
    · split at h
      · rename_i d hd y hy
        cases h
        have := hx_inl k _ r hy
        simp; omega
      · cases h
/-- What stands behind makes no difference. -/
theorem hx_more : ∀ (k n : Nat) (l m : List UInt8), (∀ x, hx k n l = .inr x → hx k n (l ++ m) = .inr (x.1, x.2 ++ m)) ∧ (∀ j, hx k n l = .inl j → j < l.length → hx k n (l ++ m) = .inl j)
  | 0, n, r, m => by simp [hx]
  | k + 1, n, [], m => by simp [hx]
  | k + 1, n, c :: r, m => by
    have ih := fun d => hx_more k (16 * n + d) r m
    simp only [hx, List.cons_append]
    cases hd : dig c with
    | none => simp
    | some d =>
      simp only
      cases hh : hx k (16 * n + d) r with
      | inl j =>
        refine ⟨by simp, fun j' e hj => ?_⟩
        cases e
        simp at hj
        rw [(ih d).2 j hh hj]
      | inr y =>
        refine ⟨fun x e => ?_, by simp⟩
        cases e
        rw [(ih d).1 y hh]
/-- Cut within the digits, it fails at its end. -/
theorem hx_cut : ∀ (k n : Nat) (l : List UInt8) {x : Nat × List UInt8} (i : Nat), hx k n l = .inr x → i < k → hx k n (l.take i) = .inl i
  | 0, n, r, x, i, h, hi => by omega
  | k + 1, n, [], x, i, h, hi => by simp [hx] at h
  | k + 1, n, c :: r, x, 0, h, hi => by simp [hx]
  | k + 1, n, c :: r, x, i + 1, h, hi => by
    simp only [hx, List.take_succ_cons] at h ⊢
    split at h
    · cases h
    · rename_i d hd
      split at h
      · cases h
      · rename_i y hy
        rw [hx_cut k _ r i hy (by omega)]
theorem un_unit {l r : List UInt8} {k : Nat} {u : Un} (h : un l = .unit k u r) : l.length = k + r.length ∧ 1 ≤ k ∧ k ≤ 6 := by
  unfold un at h
  repeat' split at h
  all_goals first
    | cases h
    | skip
  all_goals first
    | (rename_i x hh; have := hx_inr _ _ _ hh; simp; omega)
    | (simp; try omega)
/-- A unit or a pair that is read: what it is. -/
theorem tok_go_is {l r t : List UInt8} {k : Nat} (h : tok l = .go k t r) :
    (∃ b, un l = .unit k (.byte b) r ∧ t = [b]) ∨ (∃ n, un l = .unit k (.rune n) r ∧ high n = false ∧ low n = false ∧ t = pt n) ∨
    (∃ n k1 k2 r1 m, un l = .unit k1 (.rune n) r1 ∧ high n = true ∧ un r1 = .unit k2 (.rune m) r ∧ low m = true ∧ k = k1 + k2 ∧ t = pt (pair n m)) := by
  unfold tok at h
  cases hu : un l with
  | bad k' => rw [hu] at h; cases h
  | done x => rw [hu] at h; cases x <;> cases h
  | unit k1 u r1 =>
    rw [hu] at h
    cases u with
    | byte b => cases h; exact .inl ⟨b, rfl, rfl⟩
    | rune n =>
      simp only at h
      cases hn : high n with
      | true =>
        rw [hn, if_pos rfl] at h
        cases hu2 : un r1 with
        | bad _ => rw [hu2] at h; cases h
        | done _ => rw [hu2] at h; cases h
        | unit k2 u2 r2 =>
          rw [hu2] at h
          cases u2 with
          | byte _ => cases h
          | rune m =>
            simp only at h
            cases hm : low m with
            | false => rw [hm] at h; cases h
            | true => rw [hm, if_pos rfl] at h; cases h; exact .inr (.inr ⟨n, k1, k2, r1, m, rfl, hn, hu2, hm, rfl, rfl⟩)
      | false =>
        rw [hn] at h
        cases hl : low n with
        | true => rw [hl] at h; cases h
        | false => rw [hl] at h; cases h; exact .inr (.inl ⟨n, rfl, hn, hl, rfl⟩)
theorem tok_go {l r t : List UInt8} {k : Nat} (h : tok l = .go k t r) : l.length = k + r.length ∧ 1 ≤ k ∧ k ≤ 12 := by
  rcases tok_go_is h with ⟨b, hb, _⟩ | ⟨n, hn, _⟩ | ⟨n, k1, k2, r1, m, h1, _, h2, _, e, _⟩
  · have := un_unit hb; omega
  · have := un_unit hn; omega
  · have := un_unit h1; have := un_unit h2; omega
def body (l : List UInt8) : Res :=
  match _h : tok l with
  | .stop r => r
  | .go k t r => (body r).pre k t
termination_by l.length
decreasing_by have := tok_go ‹_›; omega
theorem body_stop {l : List UInt8} {r : Res} (h : tok l = .stop r) : body l = r := by
  rw [body]; split <;> rename_i h2
  · rw [h] at h2; cases h2; rfl
  · rw [h] at h2; cases h2
theorem body_go {l r t : List UInt8} {k : Nat} (h : tok l = .go k t r) : body l = (body r).pre k t := by
  rw [body]; split <;> rename_i h2
  · rw [h] at h2; cases h2
  · rw [h] at h2; cases h2; rfl
/-- The reading of a string. -/
def rdq : List UInt8 → Res
  | 34 :: r => (body r).pre 1 []
  | _ => .bad false 0
/-- A byte as it is written. -/
def hxd (n : Nat) : UInt8 := if n < 10 then UInt8.ofNat (48 + n) else UInt8.ofNat (87 + n)
def esc (c : UInt8) : List UInt8 :=
  if c = 34 then [92, 34] else if c = 92 then [92, 92] else if c = 8 then [92, 98] else if c = 12 then [92, 102]
  else if c = 10 then [92, 110] else if c = 13 then [92, 114] else if c = 9 then [92, 116]
  else if c.toNat < 32 then [92, 117, 48, 48, hxd (c.toNat / 16), hxd (c.toNat % 16)] else [c]
def escs (t : List UInt8) : List UInt8 := t.flatMap esc
def wrq (t : List UInt8) : List UInt8 := 34 :: (escs t ++ [34])
end Qu
end Go.Proofs.YtpdaelcoiilkkaaDoor
