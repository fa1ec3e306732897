/- JSON documents as lists: token by token, with a stack; what the parser by recursion answers is what this one answers. -/
import Derived.Test.YtggeiajbcehkjaaGreatDoorGaa
import Derived.Test.YtggeiajbcehkjaaGreatDoorProg
import Derived.OneCell
import Derived.LoopTactic
import Derived.Outline
import Derived.Deep.DeepCutAuto
import Derived.Deep.CutBlock
import Derived.Deep.CutRange
import Derived.Deep.QuietTactic
import Derived.Laws.BytesArg
import Derived.Lib.Strings
import Derived.OwnWalk
import Derived.Maps.AppendAt
namespace Go.Proofs.YtggeiajbcehkjaaGreatDoor
open Go.RowKit
namespace Jt

/-- What is known between two tokens: what may come, what is open (the innermost one first; is it a map?), the nodes. -/
structure St where
  wd : Nat
  sk : List (Nat × Bool)
  nd : List Nd
inductive SR where
  | ok (s : St)
  | bad (c a : Nat)
def Nd.addSub (n : Nat) (x : Nd) : Nd := { x with subs := x.subs ++ [n] }
def Nd.addKey (k : Bs) (sp : Nat × Nat) (x : Nd) : Nd := { x with keys := x.keys ++ [k], spots := x.spots ++ [sp] }
def Nd.setTo (e : Nat) (x : Nd) : Nd := { x with span := (x.span.1, e) }
def goW : List (Nat × Bool) → Nat
  | [] => 0
  | _ :: _ => 24
def topSub (S : List (Nat × Bool)) (X : List Nd) : List Nd :=
  match S with
  | [] => X
  | (a, _) :: _ => X.modify a (Nd.addSub X.length)
def St.add (s : St) (t : Tok) (k : Nat) (x : Bs) : St := { s with nd := topSub s.sk s.nd ++ [⟨k, x, [], [], [], t.2⟩] }
def St.leaf (s : St) (t : Tok) (k : Nat) (x : Bs) : St := { s.add t k x with wd := goW s.sk }
def kdM (m : Bool) : Nat := if m = true then 8 else 7
def firstM (m : Bool) : Nat := if m = true then 2 else 1
def keysAt (X : List Nd) (a : Nat) : List Bs := match X[a]? with | some x => x.keys | none => []
def St.begin_ (s : St) (t : Tok) (m : Bool) : SR :=
  if s.wd &&& 1 = 0 then .bad 3 t.2.1
  else if s.sk.length = 256 then .bad 4 t.2.1
  else .ok { wd := firstM m + 16, sk := (s.nd.length, m) :: s.sk, nd := (s.add t (kdM m) []).nd }
def St.end_ (E : Env) (s : St) (t : Tok) : SR :=
  if s.wd &&& 16 = 0 then .bad 3 t.2.1
  else match s.sk with
    | [] => .bad 3 t.2.1
    | (a, m) :: S => if E.mk? t (enM m) = true then .ok { wd := goW S, sk := S, nd := s.nd.modify a (Nd.setTo t.2.2) } else .bad 3 t.2.1
def St.key (s : St) (t : Tok) (k : Bs) : SR :=
  match s.sk with
  | [] => .bad 3 t.2.1
  | (a, _) :: _ => if k ∈ keysAt s.nd a then .bad 5 t.2.1 else .ok { s with wd := 4, nd := s.nd.modify a (Nd.addKey k t.2) }
def firstTop : List (Nat × Bool) → Nat
  | [] => 0
  | (_, m) :: _ => firstM m
def step (E : Env) (s : St) (t : Tok) : SR :=
  if t.1 = 2 then
    if s.wd &&& 1 = 0 then .bad 3 t.2.1
    else if E.by t = null then .ok (s.leaf t 0 []) else .ok (s.leaf t 1 (E.by t))
  else if t.1 = 3 then
    if s.wd &&& 1 = 0 then .bad 3 t.2.1
    else match E.rn (E.by t) with
      | .error c => .bad c t.2.1
      | .ok x => .ok (s.leaf t 2 x)
  else if t.1 = 4 then
    if s.wd &&& 3 = 0 then .bad 3 t.2.1
    else match E.rq (E.by t) with
      | .error (c, a) => .bad c (t.2.1 + a)
      | .ok x => if s.wd &&& 2 = 0 then .ok (s.leaf t 3 x) else s.key t x
  else if t.1 = 1 then
    if E.mk? t 91 = true then s.begin_ t false
    else if E.mk? t 123 = true then s.begin_ t true
    else if E.mk? t 58 = true then (if s.wd &&& 4 = 0 then .bad 3 t.2.1 else .ok { s with wd := 1 })
    else if E.mk? t 44 = true then (if s.wd &&& 8 = 0 then .bad 3 t.2.1 else .ok { s with wd := firstTop s.sk })
    else s.end_ E t
  else .ok s
def run (E : Env) : St → List Tok → SR
  | s, [] => .ok s
  | s, t :: r => match step E s t with
    | .ok s' => run E s' r
    | .bad c a => .bad c a
inductive NR where
  | ok (nd : List Nd)
  | bad (c a : Nat)
/-- A whole document: its nodes, or the first fault. -/
def docP (E : Env) (fault : Option Nat) (T : List Tok) : NR :=
  match run E ⟨1, [], []⟩ T with
  | .bad c a => .bad c a
  | .ok s => match fault with
    | some a => .bad 3 a
    | none => if s.wd = 0 then .ok s.nd else .bad 3 E.l.length
/-! ### A run of solid tokens -/
def St.val (s : St) (v : JV) : St := { wd := goW s.sk, sk := s.sk, nd := topSub s.sk s.nd ++ v.nds s.nd.length }
def Fails (E : Env) (s : St) (T : List Tok) (c a : Nat) : Prop :=
  run E s T = .bad c a ∨ ∃ s', run E s T = .ok s' ∧ s'.wd ≠ 0 ∧ (c, a) = E.en
def Sol (T : List Tok) : Prop := ∀ t ∈ T, 1 ≤ t.1 ∧ t.1 ≤ 4
theorem Sol.tail {t : Tok} {T : List Tok} (h : Sol (t :: T)) : Sol T := fun u hu => h u (List.mem_cons_of_mem _ hu)
theorem topSub_len (S : List (Nat × Bool)) (X : List Nd) : (topSub S X).length = X.length := by
  unfold topSub
  split
  · rfl
  · rw [List.length_modify]
theorem run_cons {E : Env} {s s' : St} {t : Tok} {r : List Tok} (h : step E s t = .ok s') : run E s (t :: r) = run E s' r := by
  rw [run, h]
theorem run_bad {E : Env} {s : St} {t : Tok} {r : List Tok} {c a : Nat} (h : step E s t = .bad c a) : run E s (t :: r) = .bad c a := by
  rw [run, h]
theorem Fails.cons {E : Env} {s s' : St} {t : Tok} {r : List Tok} {c a : Nat} (h : step E s t = .ok s') (hf : Fails E s' r c a) : Fails E s (t :: r) c a := by
  unfold Fails; rw [run_cons h]; exact hf
/-- What may begin here. -/
def CanV (E : Env) (s : St) (T : List Tok) : Prop :=
  s.wd = 1 ∨ (s.wd = 17 ∧ (∃ a S, s.sk = (a, false) :: S) ∧ ∀ t r, T = t :: r → E.mk? t 93 = false)
theorem CanV.bits {E : Env} {s : St} {T : List Tok} (h : CanV E s T) : s.wd &&& 1 ≠ 0 ∧ s.wd &&& 2 = 0 ∧ s.wd &&& 3 ≠ 0 ∧ s.wd &&& 4 = 0 ∧ s.wd &&& 8 = 0 ∧ s.wd ≠ 0 := by
  rcases h with h | ⟨h, _⟩ <;> (rw [h]; decide)
end Jt
end Go.Proofs.YtggeiajbcehkjaaGreatDoor
/- The document's fault of a place; its two answers' blocks. -/
namespace Go.Proofs.YtggeiajbcehkjaaGreatDoor
open Go.RowKit
namespace Jk

theorem below_tr {a b c : World} (h1 : Below a.heap.size a b) (h2 : Below b.heap.size b c) : Below a.heap.size a c :=
  h1.trans (h2.mono h1.size)
abbrev fvV (c a : Int) : Value := .agg #[.int .i64 c, .int .i64 a]
abbrev fvO (c a : Int) : Obj := .cells #[.int .i64 c, .int .i64 a] 63
theorem lt_blk {wx : World} {k : Nat} {o : Obj} (h : wx.heap[k]? = some o) : k < wx.heap.size := by
  rcases Nat.lt_or_ge k wx.heap.size with q | q
  · exact q
  · rw [Array.getElem?_eq_none q] at h; cases h
section
variable {w wx wy : World} {k i j c a k' i' j' c' a' : Int}
end
end Jk
end Go.Proofs.YtggeiajbcehkjaaGreatDoor
/- The document's next token: a number. -/
namespace Go.Proofs.YtggeiajbcehkjaaGreatDoor
open Go.RowKit
namespace Jk
theorem intE_drop (l : List UInt8) (i j : Nat) : i + intE (l.drop i) j = intE l (i + j) := by
  unfold intE
  rw [bt_drop, List.drop_drop]
  split <;> omega
theorem frE_drop (l : List UInt8) (i k : Nat) : i + frE (l.drop i) k = frE l (i + k) := by
  unfold frE
  rw [bt_drop, bt_drop, List.drop_drop, ← Nat.add_assoc]
  split <;> omega
theorem sgE_drop (l : List UInt8) (i k : Nat) : i + sgE (l.drop i) k = sgE l (i + k) := by
  unfold sgE
  rw [bt_drop]
  split <;> omega
theorem exE_drop (l : List UInt8) (i k : Nat) : i + exE (l.drop i) k = exE l (i + k) := by
  have h := sgE_drop l i (k + 1)
  rw [← Nat.add_assoc] at h
  unfold exE
  rw [bt_drop, bt_drop, List.drop_drop, h]
  split <;> omega
section
variable {l : List UInt8} {A : Option Addr}
end
end Jk
end Go.Proofs.YtggeiajbcehkjaaGreatDoor
/- The document's next token: a string, place by place. -/
namespace Go.Proofs.YtggeiajbcehkjaaGreatDoor
open Go.RowKit
namespace Jk
/-- A string's end, as many places later. -/
def SR.up (i : Nat) : SR → SR
  | .ok n => .ok (i + n)
  | .bad n => .bad (i + n)
theorem h4_drop (l : List UInt8) (i k : Nat) : h4 l (i + k) = (h4 (l.drop i) k).map (i + ·) := by
  unfold h4
  simp only [bt_drop, Nat.add_assoc]
  split
  · rfl
  · split
    · rfl
    · split
      · rfl
      · split <;> rfl
theorem strE_drop {l : List UInt8} {i : Nat} (hi : i ≤ l.length) : ∀ (m k : Nat), l.length - (i + k) ≤ m → (strE (l.drop i) k).up i = strE l (i + k) ∨ l.length < i + k
  | m, k, hm => by
    by_cases hk : i + k < l.length
    · left
      rw [strE.eq_def (l.drop i) k, strE.eq_def l (i + k), dif_pos (by rw [List.length_drop]; omega), dif_pos hk, bt_drop, bt_drop, List.length_drop, ← Nat.add_assoc i k 1]
      have go : ∀ j, 0 < j → i + (k + j) ≤ l.length → (strE (l.drop i) (k + j)).up i = strE l (i + k + j) := fun j hj hl => by
        cases m with
        | zero => omega
        | succ m =>
          rw [Nat.add_assoc]
          exact (strE_drop hi m (k + j) (by omega)).resolve_right (by omega)
      split
      · simp only [SR.up]; rfl
      · split
        · rfl
        · split
          · exact go 1 (by omega) (by omega)
          · by_cases h1 : i + k + 1 = l.length
            · rw [if_pos (by omega), if_pos h1]; simp only [SR.up]; rfl
            · rw [if_neg (by omega), if_neg h1]
              split
              · have e := h4_drop l i (k + 1)
                rw [← Nat.add_assoc] at e
                rw [e]
                cases hq : h4 (l.drop i) (k + 1) with
                | some a => rfl
                | none =>
                  have hx := hx_in (h4_none hq).2.2.2
                  rw [List.length_drop] at hx
                  exact go 6 (by omega) (by omega)
              · split
                · exact go 2 (by omega) (by omega)
                · simp only [SR.up]; rfl
    · by_cases h2 : l.length < i + k
      · exact .inr h2
      · left
        rw [strE.eq_def (l.drop i) k, strE.eq_def l (i + k), dif_neg (by rw [List.length_drop]; omega), dif_neg hk]
        simp only [SR.up, List.length_drop]
        rw [show i + (l.length - i) = l.length by omega]
end Jk
end Go.Proofs.YtggeiajbcehkjaaGreatDoor
/- What landed: whether one of some bytes stands at a place; how many of them stand there. -/
namespace Go.Proofs.YtggeiajbcehkjaaGreatDoor
open Go.RowKit
namespace Jk

/-- A text of bytes, as a test of a byte. -/
structure FP (F : ByteArray) (p : Int → Bool) : Prop where
  zero : p 0 = false
  at_ : ∀ c : Int, 0 ≤ c → c ≤ 255 → ∃ y : Int, decide (0 ≤ y) = p c ∧ -1 ≤ y ∧ y ≤ 1000 ∧ ∀ w, Calls Tryz.prog 136 #[.string F, .int .u8 c] w fun e w' => e = .returned (.int .i64 y) ∧ w = w'
section
variable {l : List UInt8} {B : Nat} {A : Option Addr} {F : ByteArray} {p : Int → Bool}
theorem FP.in_ (hF : FP F p) {k : Nat} (h : p (bt l k) = true) : k < l.length := bt_in (fun e => by rw [e, hF.zero] at h; cases h)
theorem stands_is (n c k : Nat) {x : Int} {v : Bool} (w : World) (hF : FP F p) (hn : n = l.length) (hA : Byt w B A l) (_hm : n ≤ 1000000) (hx : x = k) (hv : v = p (bt l k)) :
    Calls Tryz.prog 118 #[.slice A n c, .int .i64 x, .string F] w fun e w' => e = .returned (.bool v) ∧ w = w' := by
  subst hx
  by_cases h : k < n
  · obtain ⟨b, off, rfl, _, hc⟩ := hA.at_ (k := k) (by omega)
    have c1 := hc k (by omega)
    obtain ⟨d, hd⟩ : ∃ d, d = bt l k := ⟨_, rfl⟩
    have d0 := bt_lo l k
    have d1 := bt_hi l k
    rw [← hd] at hv c1 d0 d1
    obtain ⟨y, e1, e2, e3, hC⟩ := hF.at_ d d0 d1
    have CI := Lib.hid hC
    rw [← e1] at hv
    have E := Lib.hid hv
    clear hc hv hn hC e1 hd
    go_enter Tryz.func118, Tryz.ntmps118
    go_wp2_with (go_at_call 136; refine (CI.out _).mono ?_; rintro e w' ⟨rfl, rfl⟩)
    go_ret
    exact ⟨ret_bool E.out.symm, rfl⟩
  · have E := Lib.hid (show v = false by rw [hv, bt_far (by omega)]; exact hF.zero)
    clear hv hn
    go_enter Tryz.func118, Tryz.ntmps118
    go_wp2_with fail
    go_ret
    exact ⟨ret_bool E.out.symm, rfl⟩
theorem behind_is (n c k : Nat) {x v : Int} (w : World) (hF : FP F p) (hn : n = l.length) (hA : Byt w B A l) (hm : n ≤ 1000000) (hx : x = k) (hk : k ≤ 1000100) (hv : v = ((k + rw p (l.drop k) : Nat) : Int)) :
    Calls Tryz.prog 172 #[.slice A n c, .int .i64 x, .string F] w fun e w' => e = .returned (.int .i64 v) ∧ w = w' := by
  subst hx
  have Hn := Lib.hid hn
  have Hv := Lib.hid hv
  have HF := Lib.hid hF
  clear hn hv hF
  go_enter Tryz.func172, Tryz.ntmps172
  go_wp2
  go_loop [1] (fun i => ∃ j : Nat, i = .int .i64 j ∧ j ≤ 1000100 ∧ v = ((j + rw p (l.drop j) : Nat) : Int)) (fun i => n - (intOf i).toNat)
  case atStart => exact ⟨k, rfl, hk, Hv.out⟩
  case round =>
    obtain ⟨j, rfl, hj, hs⟩ := hrel
    have HS := Lib.hid hs
    clear hs
    have G := Lib.hid (rw_at (p := p) HF.out.zero (l := l) (k := j))
    cases hd : p (bt l j)
    · have E := Lib.hid (show rw p (l.drop j) = 0 by rw [G.out, hd]; rfl)
      have D := Lib.hid hd.symm
      clear hd G
      go_wp2_with (go_at_call 118; refine (stands_is n c j (v := false) _ HF.out Hn.out hA hm rfl D.out).mono ?_; rintro e w' ⟨rfl, rfl⟩)
      go_ret
      exact ⟨ret_int (by rw [HS.out, E.out]; rfl), rfl⟩
    · have E := Lib.hid (show rw p (l.drop j) = rw p (l.drop (j + 1)) + 1 by rw [G.out, hd, if_pos rfl])
      have hlt : j < n := by have := HF.out.in_ hd; have := Hn.out; omega
      have D := Lib.hid hd.symm
      clear hd G
      go_wp2_with (go_at_call 118; refine (stands_is n c j (v := true) _ HF.out Hn.out hA hm rfl D.out).mono ?_; rintro e w' ⟨rfl, rfl⟩)
      go_round
      case rel => exact ⟨j + 1, by go_num, by omega, by rw [HS.out, E.out]; congr 1; omega⟩
      case measure => simp [intOf]; omega
end
/-- The texts that tell tokens apart, by their tests. -/
structure Forms : Prop where
  blanks : FP ⟨#[32, 9, 10, 13]⟩ spc
  marks : FP ⟨#[123, 125, 91, 93, 44, 58]⟩ mrk
  letters : FP ⟨#[97, 98, 99, 100, 101, 102, 103, 104, 105, 106, 107, 108, 109, 110, 111, 112, 113, 114, 115, 116, 117, 118, 119, 120, 121, 122]⟩ ltr
  nums : FP ⟨#[45, 48, 49, 50, 51, 52, 53, 54, 55, 56, 57]⟩ (fun c => decide (c = 45) || dg c)
  digits : FP ⟨#[48, 49, 50, 51, 52, 53, 54, 55, 56, 57]⟩ dg
  quote : FP ⟨#[34]⟩ (fun c => decide (c = 34))
  minus : FP ⟨#[45]⟩ (fun c => decide (c = 45))
  nought : FP ⟨#[48]⟩ (fun c => decide (c = 48))
  point : FP ⟨#[46]⟩ (fun c => decide (c = 46))
  exps : FP ⟨#[101, 69]⟩ (fun c => decide (c = 101 ∨ c = 69))
  signs : FP ⟨#[43, 45]⟩ (fun c => decide (c = 43 ∨ c = 45))
  escs : FP ⟨#[34, 92, 47, 98, 102, 110, 114, 116]⟩ esc
  u : FP ⟨#[117]⟩ (fun c => decide (c = 117))
  figs : FP ⟨#[48, 49, 50, 51, 52, 53, 54, 55, 56, 57, 97, 98, 99, 100, 101, 102, 65, 66, 67, 68, 69, 70]⟩ hx
end Jk
end Go.Proofs.YtggeiajbcehkjaaGreatDoor
/- What landed: where an escape, a string end. -/
namespace Go.Proofs.YtggeiajbcehkjaaGreatDoor
open Go.RowKit
namespace Jk

/-- Where an escape ends, or where it is wrong. -/
def escE (l : List UInt8) (i : Nat) : SR :=
  if esc (bt l (i + 1)) = true then .ok (i + 2)
  else if bt l (i + 1) = 117 then (match h4 l (i + 1) with | some a => .bad a | none => .ok (i + 6))
  else .bad (i + 1)
def srV : SR → Value
  | .ok n => .tuple #[.int .i64 (n : Nat), .bool true]
  | .bad n => .tuple #[.int .i64 (n : Nat), .bool false]
/-- How far the digits of base 16 go on from a place. -/
def hxE (l : List UInt8) : Nat → Nat → SR
  | 0, k => .ok k
  | m + 1, k => if hx (bt l k) = true then hxE l m (k + 1) else .bad k
theorem hxE_h4 (l : List UInt8) (i : Nat) : hxE l 4 (i + 1) = match h4 l i with | some a => .bad a | none => .ok (i + 5) := by
  unfold h4
  cases h1 : hx (bt l (i + 1))
  · simp [hxE, h1]
  cases h2 : hx (bt l (i + 2))
  · simp [hxE, h1, h2]
  cases h3 : hx (bt l (i + 3))
  · simp [hxE, h1, h2, h3]
  cases h4 : hx (bt l (i + 4))
  · simp [hxE, h1, h2, h3, h4]
  · simp [hxE, h1, h2, h3, h4]
section
variable {l : List UInt8} {B : Nat} {A : Option Addr}
set_option maxHeartbeats 4000000 in
theorem escapeEnd_is (n c i : Nat) {x : Int} (w : World) (hF : Forms) (hn : n = l.length) (hA : Byt w B A l) (hm : n ≤ 1000000) (hx : x = i) (hi : i ≤ 1000000) :
    Calls Tryz.prog 173 #[.slice A n c, .int .i64 x] w fun e w' => e = .returned (srV (escE l i)) ∧ w = w' := by
  subst hx
  have hw1 : wrap64 ((i : Int) + 1) = ((i + 1 : Nat) : Int) := by unfold wrap64; omega
  have hw2 : wrap64 (((i + 1 : Nat) : Int) + 1) = ((i + 2 : Nat) : Int) := by unfold wrap64; omega
  have HF := Lib.hid hF
  have Hn := Lib.hid hn
  have HA := Lib.hid hA
  obtain ⟨e1, HE1⟩ : ∃ b, Hid (b = esc (bt l (i + 1))) := ⟨_, rfl⟩
  obtain ⟨e2, HE2⟩ : ∃ b, Hid (b = decide (bt l (i + 1) = 117)) := ⟨_, rfl⟩
  clear hF hn hA
  cases e1
  · cases e2
    · have E := Lib.hid (show escE l i = .bad (i + 1) by
        rw [escE, if_neg (by rw [← HE1.out]; simp), if_neg (of_decide_eq_false HE2.out.symm)])
      go_enter Tryz.func173, Tryz.ntmps173
      go_wp2_with fail
      refine (stands_is n c (i + 1) (v := false) _ HF.out.escs Hn.out HA.out hm rfl HE1.out).mono ?_
      rintro e w' ⟨rfl, rfl⟩
      go_wp2_with fail
      refine (stands_is n c (i + 1) (v := false) _ HF.out.u Hn.out HA.out hm rfl HE2.out).mono ?_
      rintro e w' ⟨rfl, rfl⟩
      go_wp2_with fail
      refine bodyPost_ret (v := .tuple #[.int .i64 ((i + 1 : Nat) : Int), .bool false]) (by simp [results, Tryz.results173, go_sem, *]) rfl ?_
      exact ⟨by rw [E.out]; rfl, rfl⟩
    · have E := Lib.hid (show escE l i = hxE l 4 (i + 2) by
        rw [escE, if_neg (by rw [← HE1.out]; simp), if_pos (of_decide_eq_true HE2.out.symm), hxE_h4 l (i + 1)])
      go_enter Tryz.func173, Tryz.ntmps173
      go_wp2_with fail
      refine (stands_is n c (i + 1) (v := false) _ HF.out.escs Hn.out HA.out hm rfl HE1.out).mono ?_
      rintro e w' ⟨rfl, rfl⟩
      go_wp2_with fail
      refine (stands_is n c (i + 1) (v := true) _ HF.out.u Hn.out HA.out hm rfl HE2.out).mono ?_
      rintro e w' ⟨rfl, rfl⟩
      go_wp2_with fail
      go_loop [4, 20] (fun s t => ∃ j m : Nat, m ≤ 4 ∧ s = .int .i64 ((i + 2 + m : Nat) : Int) ∧ t = .int .i64 m ∧ j + m = 4 ∧ Hid (escE l i = hxE l j (i + 2 + m))) (fun _ t => 4 - (intOf t).toNat)
      case atStart => exact ⟨4, 0, by omega, rfl, rfl, rfl, E⟩
      case round =>
        obtain ⟨j, m, hm4, rfl, rfl, hj, HS⟩ := hrel
        have hw3 : wrap64 (((i + 2 + m : Nat) : Int) + 1) = ((i + 2 + (m + 1) : Nat) : Int) := by unfold wrap64; omega
        have hw4 : wrap64 ((m : Int) + 1) = ((m + 1 : Nat) : Int) := by unfold wrap64; omega
        by_cases h4 : m < 4
        · obtain ⟨j, rfl⟩ : ∃ j', j = j' + 1 := ⟨j - 1, by omega⟩
          cases hd : hx (bt l (i + 2 + m))
          · have D := Lib.hid hd.symm
            have R := Lib.hid (show escE l i = .bad (i + 2 + m) by rw [HS.out, hxE, hd]; rfl)
            clear hd HS
            go_wp2_with fail
            refine (stands_is n c (i + 2 + m) (v := false) _ HF.out.figs Hn.out HA.out hm rfl D.out).mono ?_
            rintro e w' ⟨rfl, rfl⟩
            go_wp2_with fail
            refine bodyPost_ret (v := .tuple #[.int .i64 ((i + 2 + m : Nat) : Int), .bool false]) (by simp [results, Tryz.results173, go_sem, *]) rfl ?_
            exact ⟨by rw [R.out]; rfl, rfl⟩
          · have D := Lib.hid hd.symm
            have R := Lib.hid (show escE l i = hxE l j (i + 2 + (m + 1)) by rw [HS.out, hxE, hd, if_pos rfl]; rfl)
            clear hd HS
            go_wp2_with fail
            refine (stands_is n c (i + 2 + m) (v := true) _ HF.out.figs Hn.out HA.out hm rfl D.out).mono ?_
            rintro e w' ⟨rfl, rfl⟩
            go_wp2_with fail
            go_round
            case rel => exact ⟨j, m + 1, by omega, rfl, rfl, by omega, R⟩
            case measure => simp [intOf]; omega
        · obtain rfl : m = 4 := by omega
          obtain rfl : j = 0 := by omega
          have R := Lib.hid (show escE l i = .ok (i + 6) by rw [HS.out]; rfl)
          clear HS
          go_wp2_with fail
          refine bodyPost_ret (v := .tuple #[.int .i64 ((i + 2 + 4 : Nat) : Int), .bool true]) (by simp [results, Tryz.results173, go_sem, *]) rfl ?_
          exact ⟨by rw [R.out]; rfl, rfl⟩
  · have E := Lib.hid (show escE l i = .ok (i + 2) by rw [escE, if_pos HE1.out.symm])
    go_enter Tryz.func173, Tryz.ntmps173
    go_wp2_with fail
    refine (stands_is n c (i + 1) (v := true) _ HF.out.escs Hn.out HA.out hm rfl HE1.out).mono ?_
    rintro e w' ⟨rfl, rfl⟩
    go_wp2_with fail
    refine bodyPost_ret (v := .tuple #[.int .i64 ((i + 2 : Nat) : Int), .bool true]) (by simp [results, Tryz.results173, go_sem, *] <;> omega) rfl ?_
    exact ⟨by rw [E.out]; rfl, rfl⟩
end
end Jk
end Go.Proofs.YtggeiajbcehkjaaGreatDoor
/- Bytes as a text. -/
namespace Go.Proofs.YtggeiajbcehkjaaGreatDoor
open Go.RowKit

theorem bytesOf_bt (l : List UInt8) : ((List.range l.length).map (bt l)).map (fun n => UInt8.ofNat n.toNat) = l := by
  apply List.ext_getElem
  · simp
  · intro i h1 h2
    simp [bt, h2]
theorem strOf_bt (l : List UInt8) : strOfNums ((List.range l.length).map (bt l)) = txt l := by
  unfold strOfNums txt
  rw [bytesOf_bt]
theorem conv_bytes {l : List UInt8} {B : Nat} {A : Option Addr} (n c : Nat) {w : World} (hn : n = l.length) (hA : Byt w B A l) : (convert 41 9 (.slice A n c)).run Tryz.prog w = .ok (.string (txt l)) w := by
  subst hn
  by_cases h : 0 < l.length
  · obtain ⟨b, off, rfl, _, hc⟩ := hA.at_ h
    have := run_convert_bytes_arg (P := Tryz.prog) w 41 5 Tryz.underlying41 Tryz.underlying5 b off l.length c ((List.range l.length).map (bt l)) (by simp) (fun i hi => by rw [hc i hi]; simp [hi]) 9 Tryz.underlying9
    rw [strOf_bt] at this
    exact this
  · obtain rfl : l = [] := List.eq_nil_of_length_eq_zero (by omega)
    show (convert 41 9 (.slice A 0 c)).run Tryz.prog w = _
    rw [run_convert_bytes_string w 41 9 5 _ 0 c Tryz.underlying41 Tryz.underlying5 Tryz.underlying9]
    cases A <;> simp [Conv.bytesToString, loadCells]
    all_goals rfl
end Go.Proofs.YtggeiajbcehkjaaGreatDoor
/- The document's next token: letters, up to where the word is cut out. -/
namespace Go.Proofs.YtggeiajbcehkjaaGreatDoor
open Go.RowKit
namespace Jk

/-- The letters of a place, as a text. -/
theorem word_cut {l : List UInt8} {i : Nat} : (l.drop i).take (rw ltr (l.drop i)) = (l.take (i + rw ltr (l.drop i))).drop i := by
  rw [List.drop_take, Nat.add_sub_cancel_left]
theorem cut_two {w : World} {B : Nat} {b off : Nat} {l : List UInt8} (hA : Byt w B (some ⟨b, off, none⟩) l) {i j : Nat} (hi : i ≤ j) (hj : j ≤ l.length) : Byt w B (some ⟨b, off + i, none⟩) ((l.take j).drop i) :=
  (hA.take j).cutAt (by rw [List.length_take]; omega)
section
variable {l : List UInt8} {A : Option Addr}
end
end Jk
end Go.Proofs.YtggeiajbcehkjaaGreatDoor
/- Rows of tokens; a fault's block; the document's next token at any place. -/
namespace Go.Proofs.YtggeiajbcehkjaaGreatDoor
open Go.RowKit
namespace Jk

abbrev Tok := Nat × Nat × Nat
/-- Tokens' cells. -/
def tkC (kd : IntKind) (t : Tok) : List Value := [.int kd (t.1 : Int), .int .i64 (t.2.1 : Int), .int .i64 (t.2.2 : Int)]
def tkL (kd : IntKind) (ts : List Tok) : List Value := ts.flatMap (tkC kd)
theorem tkL_app (kd : IntKind) (a b : List Tok) : tkL kd (a ++ b) = tkL kd a ++ tkL kd b := by simp [tkL]
theorem tkL_cons (kd : IntKind) (t : Tok) (b : List Tok) : tkL kd (t :: b) = tkC kd t ++ tkL kd b := by simp [tkL]
theorem tkL_at (kd : IntKind) : ∀ (ts : List Tok) (k : Nat) (t : Tok), ts[k]? = some t →
    (tkL kd ts)[k * 3]? = some (.int kd (t.1 : Int)) ∧ (tkL kd ts)[k * 3 + 1]? = some (.int .i64 (t.2.1 : Int)) ∧ (tkL kd ts)[k * 3 + 2]? = some (.int .i64 (t.2.2 : Int))
  | [], k, t, h => by simp at h
  | t0 :: ts, 0, t, h => by
    obtain rfl : t0 = t := by simpa using h
    rw [tkL_cons]; simp [tkC]
  | t0 :: ts, k + 1, t, h => by
    have ih := tkL_at kd ts k t (by simpa using h)
    rw [tkL_cons]
    have e : ∀ r, (tkC kd t0 ++ tkL kd ts)[(k + 1) * 3 + r]? = (tkL kd ts)[k * 3 + r]? := fun r => by
      rw [List.getElem?_append_right (by simp [tkC]; omega)]
      simp only [tkC, List.length_cons, List.length_nil]
      congr 1; omega
    have e0 := e 0
    simp only [Nat.add_zero] at e0
    rw [e0, e 1, e 2]; exact ih
/-- A fault's block in the world's next place; nothing that was there has turned. -/
structure FB (w wx : World) (c a : Int) : Prop where
  below : Below w.heap.size w wx
  v : wx.heap[w.heap.size]? = some (fvO c a)
section
variable {w wx wy : World} {c a c' a' : Int}
theorem FB.start : FB w (w.alloc (fvO c a)) c a := ⟨(Below.refl _ _).alloc (Nat.le_refl _) _, by show (w.heap.push _)[w.heap.size]? = _; simp⟩
theorem FB.lt (H : FB w wx c a) : w.heap.size < wx.heap.size := lt_blk H.v
theorem FB.on (H : FB w wx c a) (hb : Below wx.heap.size wx wy) : FB w wy c a := ⟨below_tr H.below hb, by rw [hb.block _ (lt_blk H.v)]; exact H.v⟩
theorem FB.alloc (H : FB w wx c a) (o : Obj) : FB w (wx.alloc o) c a := H.on ((Below.refl _ _).alloc (Nat.le_refl _) _)
theorem FB.grown (H : FB w wx c a) {row : Option Nat} (hg : wx.grownBy wy row) (hr : ∀ k, row = some k → w.heap.size + 1 ≤ k) : FB w wy c a :=
  ⟨H.below.grown hg H.below.size (fun k e => by have := hr k e; omega), by
    rw [hg.block _ (lt_blk H.v) (fun e => by have := hr _ e.symm; omega)]; exact H.v⟩
theorem FB.cells (H : FB w wx c a) : (wx.cell? ⟨w.heap.size, 0, none⟩ = some (.int .i64 c) ∧ wx.cell? ⟨w.heap.size, 1, none⟩ = some (.int .i64 a)) ∧ wx.frozen? ⟨w.heap.size, 0, none⟩ = false ∧ wx.frozen? ⟨w.heap.size, 1, none⟩ = false := by
  simp [World.cell?, World.frozen?, H.v]
theorem FB.set (H : FB w wx c a) : FB w ((wx.setCell ⟨w.heap.size, 0, none⟩ (.int .i64 c')).setCell ⟨w.heap.size, 1, none⟩ (.int .i64 a')) c' a' := by
  have h1 := heap_setCell_same wx w.heap.size 0 _ _ (.int .i64 c') H.v
  have h2 := heap_setCell_same _ w.heap.size 1 _ _ (.int .i64 a') h1
  exact ⟨(H.below.setCell (by simp) _).setCell (by simp) _, h2⟩
end
section
variable {w w' : World} {base : Nat} {e : TypeId} {size : Nat} {v : Value} {n : Nat} {xs : List Value}
end
/-- Two blocks more: a token's, a fault's. -/
structure W2 (W W' : World) (o : Obj) (c a : Int) : Prop where
  below : Below W.heap.size W W'
  size : W'.heap.size = W.heap.size + 2
  r : W'.heap[W.heap.size]? = some o
  v : W'.heap[W.heap.size + 1]? = some (fvO c a)
theorem W2.start {W : World} {o : Obj} {c a : Int} : W2 W ((W.alloc o).alloc (fvO c a)) o c a :=
  ⟨((Below.refl _ _).alloc (Nat.le_refl _) _).alloc (by simp) _, by show ((W.heap.push _).push _).size = _; simp, by
    show ((W.heap.push _).push _)[W.heap.size]? = _
    rw [Array.getElem?_push, if_neg (by simp), Array.getElem?_push, if_pos rfl], by
    show ((W.heap.push _).push _)[W.heap.size + 1]? = _
    rw [Array.getElem?_push, if_pos (by simp)]⟩
theorem cells_new {w : World} {t : TypeId} (cs : Array Value) (xs : List Value) (h : cs.toList = xs) : ∀ j u, xs[j]? = some u → (w.alloc (.cells cs t)).cell? ((⟨w.heap.size, 0, none⟩ : Addr).add j) = some u := fun j u hu => by
  rw [addAt, World.cell?_alloc_at _ _ _ _ rfl, ← Array.getElem?_toList, h, Nat.zero_add, hu]
end Jk
end Go.Proofs.YtggeiajbcehkjaaGreatDoor
