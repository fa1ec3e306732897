/- Strings of TOML as lists of bytes: the reading of all four kinds, the writing (lists alone, no program). -/
import Derived.Test.YtpdaelcoiilkkaaDoorQuB
namespace Go.Proofs.YtpdaelcoiilkkaaDoor

namespace Tq
/-- A line's end in front: how many bytes it has (0: none is there); none: a byte 13 without a 10. -/
def fd : List UInt8 → Option Nat
  | 10 :: _ => some 1
  | 13 :: 10 :: _ => some 2
  | 13 :: _ => none
  | _ => some 0
def blk (c : UInt8) : Bool := c == 9 || c == 32
def pl (c : UInt8) : Bool := c == 9 || (decide (32 ≤ c.toNat) && decide (c.toNat ≤ 126)) || decide (128 ≤ c.toNat)
/-- How many of a byte stand in front. -/
def rnl (q : UInt8) : List UInt8 → Nat
  | [] => 0
  | c :: r => if c = q then rnl q r + 1 else 0
def sh (c : UInt8) : Option UInt8 :=
  if c = 98 then some 8 else if c = 116 then some 9 else if c = 110 then some 10 else if c = 102 then some 12 else if c = 114 then some 13 else if c = 34 then some 34 else if c = 92 then some 92 else none
/-- An escape: what it tells and how long it is, or where it is wrong. -/
inductive E where
  | ok (t : List UInt8) (k : Nat)
  | bad (k : Nat)
def sur (n : Nat) : Bool := decide (1114111 < n ∨ 55296 ≤ n ∧ n ≤ 57343)
def num (many : Nat) (r : List UInt8) : E := match Qu.hx many 0 r with
  | .inl j => .bad (2 + j)
  | .inr x => if sur x.1 = true then .bad 2 else .ok (Qu.pt x.1) (2 + many)
/-- Behind the byte 92. -/
def es : List UInt8 → E
  | [] => .bad 1
  | d :: r => match sh d with
    | some b => .ok [b] 2
    | none => if d = 117 then num 4 r else if d = 85 then num 8 r else .bad 1
/-- All blanks and line's ends in front: how many bytes; whether half of a line's end follows. -/
def skip : List UInt8 → Nat × Bool
  | [] => (0, false)
  | 10 :: r => ((skip r).1 + 1, (skip r).2)
  | 13 :: 10 :: r => ((skip r).1 + 2, (skip r).2)
  | 13 :: _ => (0, true)
  | c :: r => if blk c = true then ((skip r).1 + 1, (skip r).2) else (0, false)
/-- How many blanks stand in front. -/
def bls : List UInt8 → Nat
  | [] => 0
  | c :: r => if blk c = true then bls r + 1 else 0
inductive Fo where
  | no
  | yes (k : Nat)
  | bad (k : Nat)
/-- A fold, behind the byte 92. -/
def fo (r : List UInt8) : Fo :=
  let b := bls r
  let m := r.drop b
  if m = [] then .bad (1 + b)
  else match fd m with
    | none => .bad (1 + b + 1)
    | some 0 => if b = 0 then .no else .bad (1 + b)
    | some _ => if (skip m).2 = true then .bad (1 + b + (skip m).1 + 1) else .yes (1 + b + (skip m).1)
/-- A text and how many bytes it took, or where it is wrong. -/
inductive R where
  | ok (t : List UInt8) (k : Nat)
  | bad (k : Nat)
def R.pre (k : Nat) (t : List UInt8) : R → R
  | ok x j => ok (t ++ x) (k + j)
  | bad j => bad (k + j)
/-- One step: what is told and how far on; or the end. -/
inductive St where
  | go (k : Nat) (t : List UInt8)
  | stop (r : R)
def esS (r : List UInt8) : St := match es r with
  | .ok t k => .go k t
  | .bad k => .stop (.bad k)
def st (q : UInt8) (long : Bool) : List UInt8 → St
  | [] => .stop (.bad 0)
  | c :: r =>
    if c = q then
      (if long = true then
        (if 3 ≤ rnl q (c :: r) then .stop (.ok (List.replicate (min (rnl q (c :: r) - 3) 2) q) (min (rnl q (c :: r) - 3) 2 + 3)) else .go (rnl q (c :: r)) (List.replicate (rnl q (c :: r)) q))
      else .stop (.ok [] 1))
    else if c = 92 ∧ q = 34 then
      (if long = true then (match fo r with | .bad k => .stop (.bad k) | .yes k => .go k [] | .no => esS r) else esS r)
    else if long = true ∧ fd (c :: r) ≠ some 0 then (match fd (c :: r) with | none => .stop (.bad 1) | some n => .go n ((c :: r).take n))
    else if pl c = true then .go 1 [c] else .stop (.bad 0)
def rs (q : UInt8) (long : Bool) (m : List UInt8) : R :=
  match st q long m with
  | .stop r => r
  | .go k t => if 0 < k ∧ k ≤ m.length then (rs q long (m.drop k)).pre k t else .bad 0
termination_by m.length
decreasing_by simp; omega
theorem rs_stop {q : UInt8} {long : Bool} {m : List UInt8} {r : R} (h : st q long m = .stop r) : rs q long m = r := by
  rw [rs, h]
theorem rs_go {q : UInt8} {long : Bool} {m t : List UInt8} {k : Nat} (h : st q long m = .go k t) (h1 : 0 < k) (h2 : k ≤ m.length) : rs q long m = (rs q long (m.drop k)).pre k t := by
  rw [rs, h]; simp [h1, h2]
/-- The string that begins in front. -/
def rd (m : List UInt8) : R := match m with
  | [] => .bad 0
  | q :: r =>
    if q = 34 ∨ q = 39 then
      (if 3 ≤ rnl q (q :: r) then (match fd (r.drop 2) with | none => .bad 4 | some n => (rs q true (r.drop (2 + n))).pre (3 + n) []) else (rs q false r).pre 1 [])
    else .bad 0
/-- What is told from a place on: text, end, and where it is wrong. -/
inductive A where
  | ok (t : List UInt8) (e : Nat)
  | bad (k : Nat)
def rdA (l : List UInt8) (at_ : Int) : A :=
  if at_ < 0 ∨ (l.length : Int) < at_ then .bad 0
  else match rd (l.drop at_.toNat) with
    | .ok t k => .ok t (at_.toNat + k)
    | .bad k => .bad (at_.toNat + k)
/-- The writing. -/
def hxU (n : Nat) : UInt8 := if n < 10 then UInt8.ofNat (48 + n) else UInt8.ofNat (55 + n)
def we (c : UInt8) : List UInt8 :=
  if c = 8 then [92, 98] else if c = 9 then [92, 116] else if c = 10 then [92, 110] else if c = 12 then [92, 102] else if c = 13 then [92, 114] else if c = 34 then [92, 34] else if c = 92 then [92, 92]
  else if pl c = true then [c] else [92, 117, 48, 48, hxU (c.toNat / 16), hxU (c.toNat % 16)]
def wes (t : List UInt8) : List UInt8 := t.flatMap we
def wr (t : List UInt8) : List UInt8 := 34 :: (wes t ++ [34])
theorem wes_app (s t : List UInt8) : wes (s ++ t) = wes s ++ wes t := by simp [wes]
theorem wr_app (a b : List UInt8) : wr (a ++ b) = (wr a).take ((wr a).length - 1) ++ (wr b).drop 1 := by
  simp [wr, wes_app]
theorem esS_we : ∀ c : UInt8, ∃ k t, (match we c with | 92 :: r => esS r | _ => .go 1 [c]) = .go k t ∧ t = [c] ∧ k = (we c).length := by
  intro c
  have := Qu.byte_all (p := fun c => match (match we c with | 92 :: r => esS r | _ => .go 1 [c]) with | .go k t => k == (we c).length && t == [c] | _ => false) (by decide +kernel) c
  revert this
  generalize (match we c with | 92 :: r => esS r | _ => .go 1 [c]) = x
  intro h
  match x, h with
  | .go k t, h =>
    simp only [Bool.and_eq_true, beq_iff_eq] at h
    exact ⟨k, t, rfl, h.2, h.1⟩
/-- The chapter's examples. -/
def isA (a : A) (t : List UInt8) (e : Nat) : Bool := match a with | .ok x k => x == t && k == e | .bad _ => false
def isBad (a : A) (k : Nat) : Bool := match a with | .bad j => j == k | .ok _ _ => false
theorem ex1 : isA (rdA [34, 97, 92, 116, 98, 34, 32, 35, 32, 99] 0) [97, 9, 98] 6 = true := by decide +kernel
theorem ex2 : isA (rdA [34, 34, 34, 97, 34, 34, 34, 34, 34] 0) [97, 34, 34] 9 = true := by decide +kernel
theorem ex3 : isA (rdA [39, 67, 58, 92, 120, 39] 0) [67, 58, 92, 120] 6 = true := by decide +kernel
theorem ex4 : isBad (rdA [34, 97] 0) 2 = true := by decide +kernel
theorem ex5 : isBad (rdA [34, 92, 117, 100, 56, 48, 48, 34] 0) 3 = true := by decide +kernel
end Tq
end Go.Proofs.YtpdaelcoiilkkaaDoor
