/- Tokens of a part of a text, from a token's begin to a token's end: the same ones, by their places. -/
import Derived.Test.YtdclhepjoifpiaaGreatDoorAt
namespace Go.Proofs.YtdclhepjoifpiaaGreatDoor
open Go.RowKit
namespace Jk

/-- A token is the same in a text that is cut anywhere behind it. -/
theorem tk_cut {l : List UInt8} {k m n : Nat} (h : TK l k m) (hn : m ≤ n) : TK (l.take n) k m := by
  have hm := tk_len h
  have b0 : bt (l.take n) 0 = bt l 0 := bt_take l (by omega)
  cases h with
  | space h =>
    have e : rw spc (l.take n) = rw spc l := by rw [rw_take]; omega
    have := TK.space (l := l.take n) (by rw [b0]; exact h)
    rwa [e] at this
  | mark h => exact .mark (by rw [b0]; exact h)
  | word h h2 =>
    have e : rw ltr (l.take n) = rw ltr l := by rw [rw_take]; omega
    have := TK.word (l := l.take n) (by rw [b0]; exact h) (by rw [e, List.take_take, Nat.min_eq_left hn]; exact h2)
    rwa [e] at this
  | num h h2 =>
    have g1 := nmE_gt h2
    have i1 := intE_gt h2
    have i2 := frE_ge i1.2
    have i3 := exE_ge i2.2
    have hnx : exE l (frE l (intE l (mnE l))) = nmE l := rfl
    generalize hnn : nmE l = m at *
    have m1 : mnE (l.take n) = mnE l := by unfold mnE; rw [b0]
    have bj : bt (l.take n) (mnE l) = bt l (mnE l) := bt_take l (by omega)
    have e1 : intE (l.take n) (mnE l) = intE l (mnE l) := by
      have q := i1
      have q2 := i2.1
      have q3 := i3.1
      rw [hnx] at q3
      have q4 : intE l (mnE l) ≤ n := by omega
      unfold intE at q4 ⊢
      rw [bj]
      split
      · rfl
      · rename_i g
        rw [if_neg g] at q4
        rw [rw_drop_take]
        omega
    generalize hi : intE l (mnE l) = i at *
    have e2 : frE (l.take n) i = frE l i := by
      have q3 := i3.1
      rw [hnx] at q3
      unfold frE at q3 i2 ⊢
      by_cases g : bt l i = 46 ∧ dg (bt l (i + 1)) = true
      · rw [if_pos g] at q3 i2 ⊢
        have r1 := rw_dg g.2
        rw [if_pos ⟨by rw [bt_take l (by omega)]; exact g.1, by rw [bt_take l (by omega)]; exact g.2⟩, rw_drop_take]
        omega
      · rw [if_neg g, if_neg]
        rintro ⟨q1, q2⟩
        rw [bt_tk] at q1 q2
        split at q1
        · split at q2
          · exact g ⟨q1, q2⟩
          · cases q2
        · cases q1
    generalize hf : frE l i = f at *
    have e3 : exE (l.take n) f = m := by
      unfold exE at hnx ⊢
      by_cases g : (bt l f = 101 ∨ bt l f = 69) ∧ dg (bt l (sgE l (f + 1))) = true
      · rw [if_pos g] at hnx
        have r1 := rw_dg g.2
        have r2 := sgE_ge l (f + 1)
        have s1 : sgE (l.take n) (f + 1) = sgE l (f + 1) := by
          unfold sgE
          rw [bt_take l (by omega)]
        rw [s1, bt_take l (by omega), bt_take l (by omega), if_pos g, rw_drop_take]
        omega
      · rw [if_neg g] at hnx
        rw [if_neg]
        · exact hnx
        · rintro ⟨q1, q2⟩
          have hfn : f < n := by
            have := bt_in (l := l.take n) (k := f) (by omega)
            rw [List.length_take] at this; omega
          have hsn := dg_in q2
          rw [List.length_take] at hsn
          have r2 := sgE_ge (l.take n) (f + 1)
          have s1 : sgE (l.take n) (f + 1) = sgE l (f + 1) := by
            unfold sgE
            rw [bt_take l (by omega)]
          rw [s1] at q2 hsn
          rw [bt_take l (by omega)] at q1 q2
          exact g ⟨q1, q2⟩
    have := TK.num (l := l.take n) (by rw [b0]; exact h) (by rw [m1, bj]; exact h2)
    have e : nmE (l.take n) = m := by unfold nmE; rw [m1, e1, e2, e3]
    rwa [e] at this
  | str m h h2 =>
    exact .str m (by rw [b0]; exact h) (strE_same _ 1 m (Nat.le_refl _) h2 (fun k hk => bt_take l (by omega)) (by rw [List.length_take]; omega))
/-- The tokens from p on up to q, and what stands behind. -/
theorem tks_cut {l : List UInt8} : ∀ (seg rest : List (Nat × Nat × Nat)) (p q : Nat), (tks l p).1 = seg ++ rest → (seg = [] → q = p) → (∀ t, seg.getLast? = some t → t.2.2 = q) → q ≤ l.length → tks (l.take q) p = (seg, none)
  | [], rest, p, q, h, h0, h1, hq => by
    obtain rfl := h0 rfl
    rw [tks_end (by rw [List.length_take]; omega)]
  | t :: seg, rest, p, q, h, h0, h1, hq => by
    by_cases hp : p < l.length
    · cases hx : nx (l.drop p) with
      | bad n => rw [tks_bad hp hx] at h; cases h
      | tok k m =>
        have ht := tk_of hx
        have hm := tk_len ht
        rw [List.length_drop] at hm
        rw [tks_tok ht] at h
        injection h with e1 e2
        subst e1
        have hle : p + m ≤ q := by
          cases seg with
          | nil => have := h1 _ rfl; simp at this; omega
          | cons t2 seg2 =>
            -- each token of it ends at q at most
            have key : ∀ (s : List (Nat × Nat × Nat)) (i : Nat) (r : List (Nat × Nat × Nat)), (tks l i).1 = s ++ r → ∀ t, s.getLast? = some t → i ≤ t.2.2 := by
              intro s
              induction s with
              | nil => intro i r _ t ht; cases ht
              | cons a s ih =>
                intro i r hr t ht
                by_cases hi : i < l.length
                · cases hx2 : nx (l.drop i) with
                  | bad n => rw [tks_bad hi hx2] at hr; cases hr
                  | tok k2 m2 =>
                    rw [tks_tok (tk_of hx2)] at hr
                    injection hr with f1 f2
                    subst f1
                    cases s with
                    | nil => simp at ht; subst ht; simp
                    | cons b s =>
                      have := ih (i + m2) r f2 t (by simpa using ht)
                      omega
                · rw [tks_end (by omega)] at hr; cases hr
            obtain ⟨z, hz⟩ : ∃ z, (t2 :: seg2).getLast? = some z := ⟨_, List.getLast?_cons⟩
            have := key (t2 :: seg2) (p + m) rest e2 z hz
            have h2 := h1 z (by rw [List.getLast?_cons_cons]; exact hz)
            omega
        have ht2 : TK ((l.take q).drop p) k m := by
          rw [List.drop_take]
          exact tk_cut ht (by omega)
        rw [tks_tok ht2, tks_cut seg rest (p + m) q e2 (fun e => by subst e; have := h1 _ rfl; simpa using this.symm) (fun t ht => by
          cases seg with
          | nil => cases ht
          | cons b s => exact h1 t (by rw [List.getLast?_cons_cons]; exact ht)) hq]
    · rw [tks_end (by omega)] at h; cases h
/-- The tokens of that part of the text alone. -/
theorem tks_seg {l : List UInt8} {seg rest : List (Nat × Nat × Nat)} {p q : Nat} (h : (tks l p).1 = seg ++ rest) (h0 : seg = [] → q = p) (h1 : ∀ t, seg.getLast? = some t → t.2.2 = q) (hpq : p ≤ q) (hq : q ≤ l.length) :
    (tks ((l.take q).drop p) 0).2 = none ∧ (tks ((l.take q).drop p) 0).1.map (sh p) = seg := by
  have e1 := tks_cut seg rest p q h h0 h1 hq
  have e2 := tks_shift ((l.take q).take p) ((l.take q).drop p) _ 0 (Nat.le_refl _)
  rw [List.take_append_drop, List.length_take, List.length_take, Nat.add_zero, show min p (min q l.length) = p by omega, e1] at e2
  injection e2 with f1 f2
  refine ⟨?_, f1.symm⟩
  cases hz : (tks ((l.take q).drop p) 0).2 with
  | none => rfl
  | some a => rw [hz] at f2; cases f2
end Jk
end Go.Proofs.YtdclhepjoifpiaaGreatDoor
/- JSON documents as lists: the parser of tokens, by recursion; its trees. -/
namespace Go.Proofs.YtdclhepjoifpiaaGreatDoor
open Go.RowKit
namespace Jt
open Jk (sh)
abbrev Bs := List UInt8
abbrev Tok := Nat × Nat × Nat

mutual
/-- A value: a scalar, a list, a map; and what stands in one (of a list: keys and spots of nothing). -/
inductive JV where
  | sc (kind : Nat) (text : Bs) (span : Nat × Nat)
  | box (map : Bool) (span : Nat × Nat) (items : JI)
inductive JI where
  | nil
  | cons (key : Bs) (spot : Nat × Nat) (v : JV) (rest : JI)
end
/-- What the parser asks of a text: a string's runes, a number's normal form; what is told at the end of the tokens. -/
structure Env where
  l : Bs
  rq : Bs → Except (Nat × Nat) Bs
  rn : Bs → Except Nat Bs
  en : Nat × Nat
def Env.by (E : Env) (t : Tok) : Bs := (E.l.take t.2.2).drop t.2.1
def Env.mk? (E : Env) (t : Tok) (c : Int) : Bool := decide (t.1 = 1 ∧ bt (E.by t) 0 = c)
/-- What a step answers: done, with the tokens that are left; a fault; or no more steps. -/
inductive PR (α : Type) where
  | ok (a : α) (rest : List Tok)
  | bad (c a : Nat)
  | out
def null : Bs := [110, 117, 108, 108]
def comma (E : Env) (first : Bool) (T : List Tok) : PR Unit :=
  if first = true then .ok () T
  else match T with
    | [] => .bad E.en.1 E.en.2
    | t :: r => if E.mk? t 44 = true then .ok () r else .bad 3 t.2.1
def entry (E : Env) (m : Bool) (ks : List Bs) (T : List Tok) : PR (Bs × (Nat × Nat)) :=
  if m = false then .ok ([], (0, 0)) T
  else match T with
    | [] => .bad E.en.1 E.en.2
    | t :: r =>
      if t.1 = 4 then
        match E.rq (E.by t) with
        | .error (c, a) => .bad c (t.2.1 + a)
        | .ok s =>
          if s ∈ ks then .bad 5 t.2.1
          else match r with
            | [] => .bad E.en.1 E.en.2
            | u :: r2 => if E.mk? u 58 = true then .ok (s, t.2) r2 else .bad 3 u.2.1
      else .bad 3 t.2.1
/-- The mark at which it ends. -/
def enM (m : Bool) : Int := if m = true then 125 else 93
mutual
def pv (E : Env) : Nat → Nat → List Tok → PR JV
  | 0, _, _ => .out
  | _ + 1, _, [] => .bad E.en.1 E.en.2
  | f + 1, d, t :: r =>
    if t.1 = 2 then (if E.by t = null then .ok (.sc 0 [] t.2) r else .ok (.sc 1 (E.by t) t.2) r)
    else if t.1 = 3 then (match E.rn (E.by t) with | .error c => .bad c t.2.1 | .ok s => .ok (.sc 2 s t.2) r)
    else if t.1 = 4 then (match E.rq (E.by t) with | .error (c, a) => .bad c (t.2.1 + a) | .ok s => .ok (.sc 3 s t.2) r)
    else if E.mk? t 91 = true ∨ E.mk? t 123 = true then
      if d = 256 then .bad 4 t.2.1
      else match pl E f d (E.mk? t 123) true [] r with
        | .ok (is, e) r2 => .ok (.box (E.mk? t 123) (t.2.1, e) is) r2
        | .bad c a => .bad c a
        | .out => .out
    else .bad 3 t.2.1
def pl (E : Env) : Nat → Nat → Bool → Bool → List Bs → List Tok → PR (JI × Nat)
  | 0, _, _, _, _, _ => .out
  | _ + 1, _, _, _, _, [] => .bad E.en.1 E.en.2
  | f + 1, d, m, first, ks, t :: r =>
    if E.mk? t (enM m) = true then .ok (.nil, t.2.2) r
    else match comma E first (t :: r) with
      | .bad c a => .bad c a
      | .out => .out
      | .ok _ T1 =>
        match entry E m ks T1 with
        | .bad c a => .bad c a
        | .out => .out
        | .ok (k, sp) T2 =>
          match pv E f (d + 1) T2 with
          | .bad c a => .bad c a
          | .out => .out
          | .ok v T3 =>
            match pl E f d m false (ks ++ [k]) T3 with
            | .bad c a => .bad c a
            | .out => .out
            | .ok (is, e) T4 => .ok (.cons k sp v is, e) T4
end
/-- A tree's nodes, from a number on. -/
structure Nd where
  kind : Nat
  text : Bs
  keys : List Bs
  spots : List (Nat × Nat)
  subs : List Nat
  span : Nat × Nat
mutual
def JV.size : JV → Nat
  | .sc _ _ _ => 1
  | .box _ _ is => is.size + 1
def JI.size : JI → Nat
  | .nil => 0
  | .cons _ _ v r => v.size + r.size
end
def JI.keys : JI → List Bs
  | .nil => []
  | .cons k _ _ r => k :: r.keys
def JI.spots : JI → List (Nat × Nat)
  | .nil => []
  | .cons _ s _ r => s :: r.spots
def JI.subs : Nat → JI → List Nat
  | _, .nil => []
  | n, .cons _ _ v r => n :: r.subs (n + v.size)
mutual
def JV.nds : Nat → JV → List Nd
  | _, .sc k t sp => [⟨k, t, [], [], [], sp⟩]
  | n, .box m sp is => ⟨if m = true then 8 else 7, [], if m = true then is.keys else [], if m = true then is.spots else [], is.subs (n + 1), sp⟩ :: is.nds (n + 1)
def JI.nds : Nat → JI → List Nd
  | _, .nil => []
  | n, .cons _ _ v r => v.nds n ++ r.nds (n + v.size)
end
/-- Where a whole document's fault is, or its tree. -/
inductive DR where
  | ok (v : JV)
  | bad (c a : Nat)
def doc (E : Env) (fault : Option Nat) (T : List Tok) : DR :=
  match pv E (2 * T.length + 2) 0 T with
  | .ok v [] => (match fault with | none => .ok v | some a => .bad 3 a)
  | .ok _ (t :: _) => .bad 3 t.2.1
  | .bad c a => .bad c a
  | .out => .bad 0 0
/-! ### Steps suffice; what is left is less -/
theorem comma_less {E : Env} {first : Bool} {T T1 : List Tok} {a : Unit} (h : comma E first T = .ok a T1) : T1.length ≤ T.length := by
  unfold comma at h
  split at h
  · injection h with _ h; rw [h]; exact Nat.le_refl _
  · cases T with
    | nil => cases h
    | cons t r =>
      simp only at h
      split at h
      · injection h with _ h; rw [← h]; simp
      · cases h
theorem comma_out {E : Env} {first : Bool} {T : List Tok} : comma E first T ≠ .out := by
  unfold comma
  split
  · simp
  · cases T with
    | nil => simp
    | cons t r => simp only; split <;> simp
theorem entry_less {E : Env} {m : Bool} {ks : List Bs} {T T1 : List Tok} {a : Bs × (Nat × Nat)} (h : entry E m ks T = .ok a T1) : T1.length ≤ T.length := by
  unfold entry at h
  split at h
  · injection h with _ h; rw [h]; exact Nat.le_refl _
  · cases T with
    | nil => cases h
    | cons t r =>
      simp only at h
      split at h
      · split at h
        · cases h
        · split at h
          · cases h
          · cases r with
            | nil => cases h
            | cons u r2 =>
              simp only at h
              split at h
              · injection h with _ h; rw [← h]; simp; omega
              · cases h
      · cases h
theorem entry_out {E : Env} {m : Bool} {ks : List Bs} {T : List Tok} : entry E m ks T ≠ .out := by
  unfold entry
  split
  · simp
  · cases T with
    | nil => simp
    | cons t r =>
      simp only
      split
      · split
        · simp
        · split
          · simp
          · cases r with
            | nil => simp
            | cons u r2 => simp only; split <;> simp
      · simp
mutual
theorem pv_less {E : Env} : ∀ (f d : Nat) (T r : List Tok) (v : JV), pv E f d T = .ok v r → r.length < T.length
  | 0, _, _, _, _, h => by rw [pv] at h; cases h
  | _ + 1, _, [], _, _, h => by rw [pv] at h; cases h
  | f + 1, d, t :: T, r, v, h => by
    rw [pv] at h
    split at h
    · split at h <;> (injection h with _ h; rw [← h]; simp)
    · split at h
      · split at h
        · cases h
        · injection h with _ h; rw [← h]; simp
      · split at h
        · split at h
          · cases h
          · injection h with _ h; rw [← h]; simp
        · split at h
          · split at h
            · cases h
            · cases hp : pl E f d (E.mk? t 123) true [] T with
              | ok a r2 =>
                obtain ⟨is, e⟩ := a
                rw [hp] at h
                injection h with _ h
                have := pl_less f d _ _ _ T r2 _ hp
                rw [← h, List.length_cons]; omega
              | bad c a => rw [hp] at h; cases h
              | out => rw [hp] at h; cases h
          · cases h
theorem pl_less {E : Env} : ∀ (f d : Nat) (m first : Bool) (ks : List Bs) (T r : List Tok) (a : JI × Nat), pl E f d m first ks T = .ok a r → r.length < T.length
  | 0, _, _, _, _, _, _, _, h => by rw [pl] at h; cases h
  | _ + 1, _, _, _, _, [], _, _, h => by rw [pl] at h; cases h
  | f + 1, d, m, first, ks, t :: T, r, a, h => by
    rw [pl] at h
    split at h
    · injection h with _ h; rw [← h]; simp
    · cases hc : comma E first (t :: T) with
      | bad c a => rw [hc] at h; cases h
      | out => rw [hc] at h; cases h
      | ok u T1 =>
        rw [hc] at h
        simp only at h
        have l1 := comma_less hc
        cases he : entry E m ks T1 with
        | bad c a => rw [he] at h; cases h
        | out => rw [he] at h; cases h
        | ok ks2 T2 =>
          rw [he] at h
          simp only at h
          have l2 := entry_less he
          cases hv : pv E f (d + 1) T2 with
          | bad c a => rw [hv] at h; cases h
          | out => rw [hv] at h; cases h
          | ok v T3 =>
            rw [hv] at h
            simp only at h
            have l3 := pv_less f (d + 1) T2 T3 v hv
            cases hl : pl E f d m false (ks ++ [ks2.1]) T3 with
            | bad c a => rw [hl] at h; cases h
            | out => rw [hl] at h; cases h
            | ok b T4 =>
              rw [hl] at h
              have l4 := pl_less f d m false _ T3 T4 b hl
              injection h with _ h
              rw [← h]; omega
end
mutual
theorem pv_in {E : Env} : ∀ (f d : Nat) (T : List Tok), 2 * T.length + 1 ≤ f → pv E f d T ≠ .out
  | 0, _, T, h => by omega
  | _ + 1, _, [], _ => by rw [pv]; simp
  | f + 1, d, t :: T, h => by
    rw [pv]
    rw [List.length_cons] at h
    have := pl_in (E := E) f d (E.mk? t 123) true [] T (by omega)
    split
    · split <;> simp
    · split
      · split <;> simp
      · split
        · split <;> simp
        · split
          · split
            · simp
            · cases hp : pl E f d (E.mk? t 123) true [] T with
              | ok a r2 => simp
              | bad c a => simp
              | out => exact absurd hp this
          · simp
theorem pl_in {E : Env} : ∀ (f d : Nat) (m first : Bool) (ks : List Bs) (T : List Tok), 2 * T.length + 2 ≤ f → pl E f d m first ks T ≠ .out
  | 0, _, _, _, _, T, h => by omega
  | _ + 1, _, _, _, _, [], _ => by rw [pl]; simp
  | f + 1, d, m, first, ks, t :: T, h => by
    rw [pl]
    split
    · simp
    · cases hc : comma E first (t :: T) with
      | bad c a => simp
      | out => exact absurd hc comma_out
      | ok u T1 =>
        simp only
        have l1 := comma_less hc
        cases he : entry E m ks T1 with
        | bad c a => simp
        | out => exact absurd he entry_out
        | ok ks2 T2 =>
          simp only
          have l2 := entry_less he
          have i3 := pv_in (E := E) f (d + 1) T2 (by omega)
          cases hv : pv E f (d + 1) T2 with
          | bad c a => simp
          | out => exact absurd hv i3
          | ok v T3 =>
            simp only
            have l3 := pv_less f (d + 1) T2 T3 v hv
            have i4 := pl_in (E := E) f d m false (ks ++ [ks2.1]) T3 (by omega)
            cases hl : pl E f d m false (ks ++ [ks2.1]) T3 with
            | bad c a => simp
            | out => exact absurd hl i4
            | ok b T4 => simp
end
end Jt
end Go.Proofs.YtdclhepjoifpiaaGreatDoor
/- JSON documents as lists: a value's tokens alone, wherever they stand, and whatever stands behind, are that value, by its places. -/
namespace Go.Proofs.YtdclhepjoifpiaaGreatDoor
open Go.RowKit
namespace Jt
open Jk (sh)

def up2 (p : Nat) (s : Nat × Nat) : Nat × Nat := (s.1 + p, s.2 + p)
mutual
/-- A value's places, so much later. -/
def JV.up (p : Nat) : JV → JV
  | .sc k t sp => .sc k t (up2 p sp)
  | .box m sp is => .box m (up2 p sp) (is.up p m)
def JI.up (p : Nat) (m : Bool) : JI → JI
  | .nil => .nil
  | .cons k s v r => .cons k (if m = true then up2 p s else s) (v.up p) (r.up p m)
end
/-- What two parsers have in common, of tokens that stand p later in the second one's text. -/
structure Alike (E E' : Env) (p : Nat) (seg' : List Tok) : Prop where
  rq : E'.rq = E.rq
  rn : E'.rn = E.rn
  by_ : ∀ t ∈ seg', E'.by t = E.by (sh p t)
section
variable {E E' : Env} {p : Nat} {a b : List Tok}
theorem Alike.left (h : Alike E E' p (a ++ b)) : Alike E E' p a := ⟨h.rq, h.rn, fun t ht => h.by_ t (List.mem_append_left _ ht)⟩
theorem Alike.right (h : Alike E E' p (a ++ b)) : Alike E E' p b := ⟨h.rq, h.rn, fun t ht => h.by_ t (List.mem_append_right _ ht)⟩
theorem Alike.tail {t : Tok} (h : Alike E E' p (t :: b)) : Alike E E' p b := ⟨h.rq, h.rn, fun u hu => h.by_ u (List.mem_cons_of_mem _ hu)⟩
theorem Alike.head {t : Tok} (h : Alike E E' p (t :: b)) : E'.by t = E.by (sh p t) := h.by_ t (List.mem_cons_self ..)
theorem Alike.mark {t : Tok} (h : Alike E E' p (t :: b)) (c : Int) : E'.mk? t c = E.mk? (sh p t) c := by
  unfold Env.mk?
  rw [h.head]; rfl
end
/-- A step that takes some tokens, whatever they stand ahead of. -/
theorem comma_seg {E : Env} {first : Bool} {T T1 : List Tok} (h : comma E first T = .ok () T1) : ∃ seg, T = seg ++ T1 ∧
    ∀ (E' : Env) (p : Nat) (seg' r' : List Tok), seg'.map (sh p) = seg → Alike E E' p seg' → comma E' first (seg' ++ r') = .ok () r' := by
  unfold comma at h
  split at h
  · rename_i hf
    injection h with _ h
    refine ⟨[], by rw [h]; rfl, fun E' p seg' r' hs _ => ?_⟩
    obtain rfl : seg' = [] := by simpa using hs
    unfold comma; rw [if_pos hf]; rfl
  · rename_i hf
    cases T with
    | nil => cases h
    | cons t r =>
      simp only at h
      split at h
      · rename_i hm
        injection h with _ h
        refine ⟨[t], by rw [← h]; rfl, fun E' p seg' r' hs ha => ?_⟩
        cases seg' with
        | nil => cases hs
        | cons t' s =>
          rw [List.map_cons] at hs
          injection hs with h1 h2
          obtain rfl : s = [] := by simpa using h2
          unfold comma
          rw [if_neg hf]
          show (if E'.mk? t' 44 = true then _ else _) = _
          rw [ha.mark, h1, if_pos hm]; rfl
      · cases h
theorem entry_seg {E : Env} {m : Bool} {ks : List Bs} {T T1 : List Tok} {k : Bs} {s : Nat × Nat} (h : entry E m ks T = .ok (k, s) T1) : ∃ seg, T = seg ++ T1 ∧
    ∀ (E' : Env) (p : Nat) (seg' r' : List Tok), seg'.map (sh p) = seg → Alike E E' p seg' → ∃ s', entry E' m ks (seg' ++ r') = .ok (k, s') r' ∧ (if m = true then up2 p s' else s') = s := by
  unfold entry at h
  split at h
  · rename_i hf
    injection h with h0 h
    injection h0 with h1 h2
    refine ⟨[], by rw [h]; rfl, fun E' p seg' r' hs _ => ⟨(0, 0), ?_, ?_⟩⟩
    · obtain rfl : seg' = [] := by simpa using hs
      unfold entry; rw [if_pos hf, ← h1]; rfl
    · rw [if_neg (by rw [hf]; simp)]; exact h2
  · rename_i hf
    cases T with
    | nil => cases h
    | cons t r =>
      simp only at h
      split at h
      · rename_i ht
        split at h
        · cases h
        · rename_i z hz
          split at h
          · cases h
          · rename_i hks
            cases r with
            | nil => cases h
            | cons u r2 =>
              simp only at h
              split at h
              · rename_i hm
                injection h with h0 h
                injection h0 with h1 h2
                refine ⟨[t, u], by rw [← h]; rfl, fun E' p seg' r' hs ha => ?_⟩
                cases seg' with
                | nil => cases hs
                | cons t' s1 =>
                  rw [List.map_cons] at hs
                  injection hs with g1 g2
                  cases s1 with
                  | nil => cases g2
                  | cons u' s2 =>
                    rw [List.map_cons] at g2
                    injection g2 with g3 g4
                    obtain rfl : s2 = [] := by simpa using g4
                    refine ⟨t'.2, ?_, ?_⟩
                    · unfold entry
                      rw [if_neg hf]
                      show (if t'.1 = 4 then _ else _) = _
                      have e1 : t'.1 = 4 := by rw [← ht, ← g1]; rfl
                      rw [if_pos e1, ha.rq, ha.head, g1, hz]
                      show (if z ∈ ks then _ else _) = _
                      rw [if_neg hks]
                      show (if E'.mk? u' 58 = true then _ else _) = _
                      rw [ha.tail.mark, g3, if_pos hm, h1]; rfl
                    · have hmt : m = true := by cases m with
                        | true => rfl
                        | false => exact absurd rfl hf
                      rw [if_pos hmt, ← h2, ← g1]; rfl
              · cases h
      · cases h
theorem map_app {p : Nat} {seg' a b : List Tok} (h : seg'.map (sh p) = a ++ b) : ∃ a' b', seg' = a' ++ b' ∧ a'.map (sh p) = a ∧ b'.map (sh p) = b := by
  obtain ⟨a', b', h1, h2, h3⟩ := List.map_eq_append_iff.1 h
  exact ⟨a', b', h1, h2, h3⟩
mutual
theorem pv_seg {E : Env} : ∀ (f d : Nat) (T r : List Tok) (v : JV), pv E f d T = .ok v r → d ≤ 256 → ∃ seg, T = seg ++ r ∧ seg ≠ [] ∧
    ∀ (E' : Env) (f' d' p : Nat) (seg' r' : List Tok), seg'.map (sh p) = seg → Alike E E' p seg' → d' ≤ d → 2 * seg'.length + 1 ≤ f' → ∃ v', pv E' f' d' (seg' ++ r') = .ok v' r' ∧ v'.up p = v
  | 0, _, _, _, _, h, _ => by rw [pv] at h; cases h
  | _ + 1, _, [], _, _, h, _ => by rw [pv] at h; cases h
  | f + 1, d, t :: T, r, v, h, hd => by
    have one : ∀ (v0 : JV), v = v0 → r = T → (∀ (E' : Env) (f' d' p : Nat) (t' : Tok) (r' : List Tok), sh p t' = t → Alike E E' p [t'] → ∃ v', pv E' (f' + 1) d' (t' :: r') = .ok v' r' ∧ v'.up p = v0) → ∃ seg, t :: T = seg ++ r ∧ seg ≠ [] ∧
        ∀ (E' : Env) (f' d' p : Nat) (seg' r' : List Tok), seg'.map (sh p) = seg → Alike E E' p seg' → d' ≤ d → 2 * seg'.length + 1 ≤ f' → ∃ v', pv E' f' d' (seg' ++ r') = .ok v' r' ∧ v'.up p = v := by
      intro v0 hv hr key
      refine ⟨[t], by rw [hr]; rfl, by simp, fun E' f' d' p seg' r' hs ha _ hf => ?_⟩
      cases seg' with
      | nil => cases hs
      | cons t' s =>
        rw [List.map_cons] at hs
        injection hs with h1 h2
        obtain rfl : s = [] := by simpa using h2
        obtain ⟨f0, rfl⟩ : ∃ f0, f' = f0 + 1 := ⟨f' - 1, by simp at hf; omega⟩
        rw [hv]
        exact key E' f0 d' p t' r' h1 ha
    rw [pv] at h
    split at h
    · rename_i ht
      have e1 : ∀ (p : Nat) (t' : Tok), sh p t' = t → t'.1 = 2 := fun p t' e => by rw [← ht, ← e]; rfl
      split at h
      · rename_i hb
        injection h with h1 h2
        refine one _ h1.symm h2.symm fun E' f' d' p t' r' e ha => ⟨.sc 0 [] t'.2, ?_, ?_⟩
        · rw [pv, if_pos (e1 p t' e), ha.head, e, if_pos hb]
        · rw [JV.up, ← e]; rfl
      · rename_i hb
        injection h with h1 h2
        refine one _ h1.symm h2.symm fun E' f' d' p t' r' e ha => ⟨.sc 1 (E.by t) t'.2, ?_, ?_⟩
        · rw [pv, if_pos (e1 p t' e), ha.head, e, if_neg hb]
        · rw [JV.up, ← e]; rfl
    · rename_i ht
      split at h
      · rename_i ht3
        have e2 : ∀ (p : Nat) (t' : Tok), sh p t' = t → ¬ t'.1 = 2 := fun p t' e q => ht (by rw [← e]; exact q)
        have e1 : ∀ (p : Nat) (t' : Tok), sh p t' = t → t'.1 = 3 := fun p t' e => by rw [← ht3, ← e]; rfl
        split at h
        · cases h
        · rename_i s hs
          injection h with h1 h2
          refine one _ h1.symm h2.symm fun E' f' d' p t' r' e ha => ⟨.sc 2 s t'.2, ?_, ?_⟩
          · rw [pv, if_neg (e2 p t' e), if_pos (e1 p t' e), ha.rn, ha.head, e, hs]
          · rw [JV.up, ← e]; rfl
      · rename_i ht3
        have e2 : ∀ (p : Nat) (t' : Tok), sh p t' = t → ¬ t'.1 = 2 := fun p t' e q => ht (by rw [← e]; exact q)
        have e3 : ∀ (p : Nat) (t' : Tok), sh p t' = t → ¬ t'.1 = 3 := fun p t' e q => ht3 (by rw [← e]; exact q)
        split at h
        · rename_i ht4
          have e1 : ∀ (p : Nat) (t' : Tok), sh p t' = t → t'.1 = 4 := fun p t' e => by rw [← ht4, ← e]; rfl
          split at h
          · cases h
          · rename_i s hs
            injection h with h1 h2
            refine one _ h1.symm h2.symm fun E' f' d' p t' r' e ha => ⟨.sc 3 s t'.2, ?_, ?_⟩
            · rw [pv, if_neg (e2 p t' e), if_neg (e3 p t' e), if_pos (e1 p t' e), ha.rq, ha.head, e, hs]
            · rw [JV.up, ← e]; rfl
        · rename_i ht4
          have e4 : ∀ (p : Nat) (t' : Tok), sh p t' = t → ¬ t'.1 = 4 := fun p t' e q => ht4 (by rw [← e]; exact q)
          split at h
          · rename_i hmk
            split at h
            · cases h
            · rename_i hdp
              cases hp : pl E f d (E.mk? t 123) true [] T with
              | bad c a => rw [hp] at h; cases h
              | out => rw [hp] at h; cases h
              | ok a r2 =>
                obtain ⟨is, e⟩ := a
                rw [hp] at h
                injection h with h1 h2
                subst h2
                obtain ⟨seg, hT, key⟩ := pl_seg f d _ _ _ T r2 is e hp (by omega)
                refine ⟨t :: seg, by rw [hT]; rfl, by simp, fun E' f' d' p seg' r' hs ha hd' hf => ?_⟩
                cases seg' with
                | nil => cases hs
                | cons t' s =>
                  rw [List.map_cons] at hs
                  injection hs with g1 g2
                  rw [List.length_cons] at hf
                  obtain ⟨f0, rfl⟩ : ∃ f0, f' = f0 + 1 := ⟨f' - 1, by omega⟩
                  obtain ⟨is', e', q1, q2, q3⟩ := key E' f0 d' p s r' g2 ha.tail hd' (by omega)
                  have m1 := ha.mark 123
                  have m2 := ha.mark 91
                  rw [g1] at m1 m2
                  refine ⟨.box (E.mk? t 123) (t'.2.1, e') is', ?_, ?_⟩
                  · rw [List.cons_append, pv, if_neg (e2 p t' g1), if_neg (e3 p t' g1), if_neg (e4 p t' g1), m1, m2, if_pos hmk, if_neg (by omega), q1]
                  · rw [← h1, JV.up, q2, up2, ← q3, ← g1]; rfl
          · cases h
theorem pl_seg {E : Env} : ∀ (f d : Nat) (m first : Bool) (ks : List Bs) (T r : List Tok) (is : JI) (e : Nat), pl E f d m first ks T = .ok (is, e) r → d < 256 → ∃ seg, T = seg ++ r ∧
    ∀ (E' : Env) (f' d' p : Nat) (seg' r' : List Tok), seg'.map (sh p) = seg → Alike E E' p seg' → d' ≤ d → 2 * seg'.length + 2 ≤ f' → ∃ is' e', pl E' f' d' m first ks (seg' ++ r') = .ok (is', e') r' ∧ is'.up p m = is ∧ e' + p = e
  | 0, _, _, _, _, _, _, _, _, h, _ => by rw [pl] at h; cases h
  | _ + 1, _, _, _, _, [], _, _, _, h, _ => by rw [pl] at h; cases h
  | f + 1, d, m, first, ks, t :: T, r, is, e, h, hd => by
    rw [pl] at h
    split at h
    · rename_i hm
      injection h with h0 h
      injection h0 with h1 h2
      refine ⟨[t], by rw [h]; rfl, fun E' f' d' p seg' r' hs ha _ hf => ?_⟩
      cases seg' with
      | nil => cases hs
      | cons t' s =>
        rw [List.map_cons] at hs
        injection hs with g1 g2
        obtain rfl : s = [] := by simpa using g2
        obtain ⟨f0, rfl⟩ : ∃ f0, f' = f0 + 1 := ⟨f' - 1, by omega⟩
        refine ⟨.nil, t'.2.2, ?_, by rw [← h1]; rfl, by rw [← h2, ← g1]; rfl⟩
        show pl E' (f0 + 1) d' m first ks (t' :: r') = _
        rw [pl, ha.mark, g1, if_pos hm]
    · rename_i hm
      cases hc : comma E first (t :: T) with
      | bad c a => rw [hc] at h; cases h
      | out => rw [hc] at h; cases h
      | ok u T1 =>
        rw [hc] at h
        simp only at h
        obtain ⟨s1, w1, k1⟩ := comma_seg hc
        cases he : entry E m ks T1 with
        | bad c a => rw [he] at h; cases h
        | out => rw [he] at h; cases h
        | ok ksp T2 =>
          obtain ⟨k, sp⟩ := ksp
          rw [he] at h
          simp only at h
          obtain ⟨s2, w2, k2⟩ := entry_seg he
          cases hv : pv E f (d + 1) T2 with
          | bad c a => rw [hv] at h; cases h
          | out => rw [hv] at h; cases h
          | ok v T3 =>
            rw [hv] at h
            simp only at h
            obtain ⟨s3, w3, n3, k3⟩ := pv_seg f (d + 1) T2 T3 v hv (by omega)
            cases hl : pl E f d m false (ks ++ [k]) T3 with
            | bad c a => rw [hl] at h; cases h
            | out => rw [hl] at h; cases h
            | ok b T4 =>
              obtain ⟨is2, e2⟩ := b
              rw [hl] at h
              simp only at h
              obtain ⟨s4, w4, k4⟩ := pl_seg f d m false _ T3 T4 is2 e2 hl hd
              injection h with h0 h
              injection h0 with h1 h2
              subst h
              refine ⟨s1 ++ (s2 ++ (s3 ++ s4)), by rw [w1, w2, w3, w4]; simp, fun E' f' d' p seg' r' hs ha hd' hf => ?_⟩
              obtain ⟨a1, b1, rfl, x1, hs⟩ := map_app hs
              obtain ⟨a2, b2, rfl, x2, hs⟩ := map_app hs
              obtain ⟨a3, a4, rfl, x3, x4⟩ := map_app hs
              have l3 : 0 < a3.length := by
                have : a3 ≠ [] := by rintro rfl; exact n3 x3.symm
                exact List.length_pos_iff.2 this
              simp only [List.length_append] at hf
              obtain ⟨f0, rfl⟩ : ∃ f0, f' = f0 + 1 := ⟨f' - 1, by omega⟩
              have y1 := k1 E' p a1 (a2 ++ (a3 ++ (a4 ++ r'))) x1 ha.left
              obtain ⟨sp', y2, y2b⟩ := k2 E' p a2 (a3 ++ (a4 ++ r')) x2 ha.right.left
              obtain ⟨v', y3, y3b⟩ := k3 E' f0 (d' + 1) p a3 (a4 ++ r') x3 ha.right.right.left (by omega) (by omega)
              obtain ⟨is', e', y4, y4b, y4c⟩ := k4 E' f0 d' p a4 r' x4 ha.right.right.right hd' (by omega)
              refine ⟨.cons k sp' v' is', e', ?_, by rw [JI.up, y2b, y3b, y4b, h1], by rw [y4c, h2]⟩
              have eT : a1 ++ (a2 ++ (a3 ++ a4)) ++ r' = a1 ++ (a2 ++ (a3 ++ (a4 ++ r'))) := by simp
              rw [eT]
              -- the first token of it is no end
              have hfirst : ∃ t' T', a1 ++ (a2 ++ (a3 ++ (a4 ++ r'))) = t' :: T' ∧ E'.mk? t' (enM m) = false := by
                cases hL : a1 ++ (a2 ++ (a3 ++ a4)) with
                | nil =>
                  have := congrArg List.length hL
                  simp only [List.length_append, List.length_nil] at this
                  omega
                | cons t' S =>
                  have hseg : (a1 ++ (a2 ++ (a3 ++ a4))).map (sh p) = s1 ++ (s2 ++ (s3 ++ s4)) := by simp [x1, x2, x3, x4]
                  rw [hL, List.map_cons] at hseg
                  have hw : t :: T = s1 ++ (s2 ++ (s3 ++ s4)) ++ T4 := by rw [w1, w2, w3, w4]; simp
                  rw [← hseg, List.cons_append] at hw
                  injection hw with g1 _
                  rw [hL] at ha
                  refine ⟨t', S ++ r', by rw [← List.cons_append, ← hL]; simp, ?_⟩
                  rw [ha.mark, ← g1]
                  simpa using hm
              obtain ⟨t', T', z1, z2⟩ := hfirst
              rw [z1, pl, if_neg (by rw [z2]; simp), ← z1, y1]
              simp only
              rw [y2]
              simp only
              rw [y3]
              simp only
              rw [y4]
end
end Jt
end Go.Proofs.YtdclhepjoifpiaaGreatDoor
/- JSON documents as lists: each node's value; where it begins and ends; its own tokens. -/
namespace Go.Proofs.YtdclhepjoifpiaaGreatDoor
open Go.RowKit
namespace Jt
open Jk (sh)

mutual
/-- The value that is node n of a value's nodes. -/
def JV.at_ : Nat → JV → Option JV
  | 0, v => some v
  | _ + 1, .sc _ _ _ => none
  | n + 1, .box _ _ is => is.at_ n
def JI.at_ : Nat → JI → Option JV
  | _, .nil => none
  | n, .cons _ _ v r => if n < v.size then v.at_ n else r.at_ (n - v.size)
end
theorem JV.size_pos : ∀ v : JV, 0 < v.size
  | .sc _ _ _ => by rw [JV.size]; omega
  | .box _ _ _ => by rw [JV.size]; omega
mutual
theorem JV.nds_len : ∀ (v : JV) (s : Nat), (v.nds s).length = v.size
  | .sc _ _ _, _ => by rw [JV.nds, JV.size]; rfl
  | .box _ _ is, s => by rw [JV.nds, JV.size, List.length_cons, JI.nds_len is]
theorem JI.nds_len : ∀ (is : JI) (s : Nat), (is.nds s).length = is.size
  | .nil, _ => by rw [JI.nds, JI.size]; rfl
  | .cons _ _ v r, s => by rw [JI.nds, JI.size, List.length_append, JV.nds_len v, JI.nds_len r]
end
mutual
/-- There is one of each number. -/
theorem JV.at_in : ∀ (v : JV) (n : Nat), n < v.size → ∃ u, v.at_ n = some u
  | v, 0, _ => ⟨v, by cases v <;> rw [JV.at_]⟩
  | .sc _ _ _, n + 1, h => by rw [JV.size] at h; omega
  | .box _ _ is, n + 1, h => by
    rw [JV.size] at h
    rw [JV.at_]
    exact JI.at_in is n (by omega)
theorem JI.at_in : ∀ (is : JI) (n : Nat), n < is.size → ∃ u, is.at_ n = some u
  | .nil, _, h => by rw [JI.size] at h; omega
  | .cons _ _ v r, n, h => by
    rw [JI.size] at h
    rw [JI.at_]
    by_cases hn : n < v.size
    · rw [if_pos hn]; exact JV.at_in v n hn
    · rw [if_neg hn]; exact JI.at_in r _ (by omega)
end
mutual
/-- Its nodes stand one behind the other. -/
theorem JV.at_nds : ∀ (v : JV) (n s : Nat) (u : JV), v.at_ n = some u → n + u.size ≤ v.size ∧ ∃ rest, (v.nds s).drop n = u.nds (s + n) ++ rest
  | v, 0, s, u, h => by
    have e : v = u := by cases v <;> (rw [JV.at_] at h; injection h)
    subst e
    exact ⟨by omega, [], by simp⟩
  | .sc _ _ _, n + 1, s, u, h => by rw [JV.at_] at h; cases h
  | .box _ _ is, n + 1, s, u, h => by
    rw [JV.at_] at h
    obtain ⟨h1, rest, h2⟩ := JI.at_nds is n (s + 1) u h
    refine ⟨by rw [JV.size]; omega, rest, ?_⟩
    rw [JV.nds, List.drop_succ_cons, h2, show s + 1 + n = s + (n + 1) by omega]
theorem JI.at_nds : ∀ (is : JI) (n s : Nat) (u : JV), is.at_ n = some u → n + u.size ≤ is.size ∧ ∃ rest, (is.nds s).drop n = u.nds (s + n) ++ rest
  | .nil, _, _, _, h => by rw [JI.at_] at h; cases h
  | .cons _ _ v r, n, s, u, h => by
    rw [JI.at_] at h
    by_cases hn : n < v.size
    · rw [if_pos hn] at h
      obtain ⟨h1, rest, h2⟩ := JV.at_nds v n s u h
      refine ⟨by rw [JI.size]; omega, rest ++ r.nds (s + v.size), ?_⟩
      rw [JI.nds, List.drop_append_of_le_length (by rw [JV.nds_len]; omega), h2, List.append_assoc]
    · rw [if_neg hn] at h
      obtain ⟨h1, rest, h2⟩ := JI.at_nds r (n - v.size) (s + v.size) u h
      refine ⟨by rw [JI.size]; omega, rest, ?_⟩
      rw [JI.nds, List.drop_append, JV.nds_len, List.drop_eq_nil_of_le (by rw [JV.nds_len]; omega), List.nil_append, h2, show s + v.size + (n - v.size) = s + n by omega]
end
mutual
/-- Each of them is parsed where it stands. -/
theorem pv_at {E : Env} : ∀ (f d : Nat) (T r : List Tok) (v : JV) (n : Nat) (u : JV), pv E f d T = .ok v r → d ≤ 256 → v.at_ n = some u → ∃ f' d' pre T' r', pv E f' d' T' = .ok u r' ∧ d' ≤ 256 ∧ T = pre ++ T'
  | f, d, T, r, v, 0, u, h, hd, ha => by
    have e : v = u := by cases v <;> (rw [JV.at_] at ha; injection ha)
    subst e
    exact ⟨f, d, [], T, r, h, hd, rfl⟩
  | f, d, T, r, .sc _ _ _, n + 1, u, h, hd, ha => by rw [JV.at_] at ha; cases ha
  | 0, d, T, r, .box _ _ is, n + 1, u, h, hd, ha => by rw [pv] at h; cases h
  | f + 1, d, [], r, .box _ _ is, n + 1, u, h, hd, ha => by rw [pv] at h; cases h
  | f + 1, d, t :: T, r, .box m sp is, n + 1, u, h, hd, ha => by
    rw [JV.at_] at ha
    rw [pv] at h
    split at h
    · split at h <;> (injection h with h1 _; cases h1)
    · split at h
      · split at h
        · cases h
        · injection h with h1 _; cases h1
      · split at h
        · split at h
          · cases h
          · injection h with h1 _; cases h1
        · split at h
          · split at h
            · cases h
            · rename_i hdp
              cases hp : pl E f d (E.mk? t 123) true [] T with
              | bad c a => rw [hp] at h; cases h
              | out => rw [hp] at h; cases h
              | ok a r2 =>
                obtain ⟨is2, e⟩ := a
                rw [hp] at h
                injection h with h1 h2
                injection h1 with _ _ h3
                subst h3
                obtain ⟨f', d', pre, T', r', q1, q2, q3⟩ := pl_at f d _ _ _ T r2 is2 e n u hp (by omega) ha
                exact ⟨f', d', t :: pre, T', r', q1, q2, by rw [q3]; rfl⟩
          · cases h
theorem pl_at {E : Env} : ∀ (f d : Nat) (m first : Bool) (ks : List Bs) (T r : List Tok) (is : JI) (e n : Nat) (u : JV), pl E f d m first ks T = .ok (is, e) r → d < 256 → is.at_ n = some u → ∃ f' d' pre T' r', pv E f' d' T' = .ok u r' ∧ d' ≤ 256 ∧ T = pre ++ T'
  | 0, _, _, _, _, _, _, _, _, _, _, h, _, _ => by rw [pl] at h; cases h
  | _ + 1, _, _, _, _, [], _, _, _, _, _, h, _, _ => by rw [pl] at h; cases h
  | f + 1, d, m, first, ks, t :: T, r, is, e, n, u, h, hd, ha => by
    rw [pl] at h
    split at h
    · injection h with h0 h
      injection h0 with h1 h2
      subst h1
      rw [JI.at_] at ha; cases ha
    · cases hc : comma E first (t :: T) with
      | bad c a => rw [hc] at h; cases h
      | out => rw [hc] at h; cases h
      | ok u0 T1 =>
        rw [hc] at h
        simp only at h
        obtain ⟨s1, w1, _⟩ := comma_seg hc
        cases he : entry E m ks T1 with
        | bad c a => rw [he] at h; cases h
        | out => rw [he] at h; cases h
        | ok ksp T2 =>
          obtain ⟨k, sp⟩ := ksp
          rw [he] at h
          simp only at h
          obtain ⟨s2, w2, _⟩ := entry_seg he
          cases hv : pv E f (d + 1) T2 with
          | bad c a => rw [hv] at h; cases h
          | out => rw [hv] at h; cases h
          | ok v T3 =>
            rw [hv] at h
            simp only at h
            obtain ⟨s3, w3, _⟩ := pv_seg f (d + 1) T2 T3 v hv (by omega)
            cases hl : pl E f d m false (ks ++ [k]) T3 with
            | bad c a => rw [hl] at h; cases h
            | out => rw [hl] at h; cases h
            | ok b T4 =>
              obtain ⟨is2, e2⟩ := b
              rw [hl] at h
              injection h with h0 h
              injection h0 with h1 h2
              subst h1
              rw [JI.at_] at ha
              by_cases hn : n < v.size
              · rw [if_pos hn] at ha
                obtain ⟨f', d', pre, T', r', q1, q2, q3⟩ := pv_at f (d + 1) T2 T3 v n u hv (by omega) ha
                exact ⟨f', d', s1 ++ (s2 ++ pre), T', r', q1, q2, by rw [w1, w2, q3]; simp⟩
              · rw [if_neg hn] at ha
                obtain ⟨f', d', pre, T', r', q1, q2, q3⟩ := pl_at f d m false _ T3 T4 is2 e2 _ u hl hd ha
                exact ⟨f', d', s1 ++ (s2 ++ (s3 ++ pre)), T', r', q1, q2, by rw [w1, w2, w3, q3]; simp⟩
end
def JV.span : JV → Nat × Nat
  | .sc _ _ sp => sp
  | .box _ sp _ => sp
/-- What is taken up to what is left: its last token's end. -/
theorem pl_end {E : Env} : ∀ (f d : Nat) (m first : Bool) (ks : List Bs) (T r : List Tok) (is : JI) (e : Nat), pl E f d m first ks T = .ok (is, e) r → d < 256 → ∃ seg z, T = seg ++ z :: r ∧ z.2.2 = e
  | 0, _, _, _, _, _, _, _, _, h, _ => by rw [pl] at h; cases h
  | _ + 1, _, _, _, _, [], _, _, _, h, _ => by rw [pl] at h; cases h
  | f + 1, d, m, first, ks, t :: T, r, is, e, h, hd => by
    rw [pl] at h
    split at h
    · injection h with h0 h
      injection h0 with h1 h2
      exact ⟨[], t, by rw [h]; rfl, h2⟩
    · cases hc : comma E first (t :: T) with
      | bad c a => rw [hc] at h; cases h
      | out => rw [hc] at h; cases h
      | ok u0 T1 =>
        rw [hc] at h
        simp only at h
        obtain ⟨s1, w1, _⟩ := comma_seg hc
        cases he : entry E m ks T1 with
        | bad c a => rw [he] at h; cases h
        | out => rw [he] at h; cases h
        | ok ksp T2 =>
          obtain ⟨k, sp⟩ := ksp
          rw [he] at h
          simp only at h
          obtain ⟨s2, w2, _⟩ := entry_seg he
          cases hv : pv E f (d + 1) T2 with
          | bad c a => rw [hv] at h; cases h
          | out => rw [hv] at h; cases h
          | ok v T3 =>
            rw [hv] at h
            simp only at h
            obtain ⟨s3, w3, _⟩ := pv_seg f (d + 1) T2 T3 v hv (by omega)
            cases hl : pl E f d m false (ks ++ [k]) T3 with
            | bad c a => rw [hl] at h; cases h
            | out => rw [hl] at h; cases h
            | ok b T4 =>
              obtain ⟨is2, e2⟩ := b
              rw [hl] at h
              injection h with h0 h
              injection h0 with h1 h2
              subst h
              obtain ⟨s4, z, w4, hz⟩ := pl_end f d m false _ T3 T4 is2 e2 hl hd
              exact ⟨s1 ++ (s2 ++ (s3 ++ s4)), z, by rw [w1, w2, w3, w4]; simp, by rw [hz, h2]⟩
/-- A value's span: from its first token's first byte to its last one's end. -/
theorem pv_span {E : Env} {f d : Nat} {T r : List Tok} {v : JV} (h : pv E f d T = .ok v r) (hd : d ≤ 256) : ∃ t z seg, (t :: seg = [z] ∨ ∃ s, t :: seg = t :: s ++ [z]) ∧ T = t :: seg ++ r ∧ v.span = (t.2.1, z.2.2) := by
  match f, T, h with
  | 0, _, h => rw [pv] at h; cases h
  | _ + 1, [], h => rw [pv] at h; cases h
  | f + 1, t :: T, h =>
    rw [pv] at h
    have one : ∀ v0 : JV, v = v0 → r = T → v0.span = t.2 → ∃ t' z seg, (t' :: seg = [z] ∨ ∃ s, t' :: seg = t' :: s ++ [z]) ∧ t :: T = t' :: seg ++ r ∧ v.span = (t'.2.1, z.2.2) := fun v0 hv hr hs =>
      ⟨t, t, [], .inl rfl, by rw [hr]; rfl, by rw [hv, hs]⟩
    split at h
    · split at h <;> (injection h with h1 h2; exact one _ h1.symm h2.symm rfl)
    · split at h
      · split at h
        · cases h
        · injection h with h1 h2; exact one _ h1.symm h2.symm rfl
      · split at h
        · split at h
          · cases h
          · injection h with h1 h2; exact one _ h1.symm h2.symm rfl
        · split at h
          · split at h
            · cases h
            · rename_i hdp
              cases hp : pl E f d (E.mk? t 123) true [] T with
              | bad c a => rw [hp] at h; cases h
              | out => rw [hp] at h; cases h
              | ok a r2 =>
                obtain ⟨is2, e⟩ := a
                rw [hp] at h
                injection h with h1 h2
                subst h2
                obtain ⟨seg, z, w, hz⟩ := pl_end f d _ _ _ T r2 is2 e hp (by omega)
                exact ⟨t, z, seg ++ [z], .inr ⟨seg, rfl⟩, by rw [w]; simp, by rw [← h1, ← hz]; rfl⟩
          · cases h
end Jt
end Go.Proofs.YtdclhepjoifpiaaGreatDoor
/- JSON documents as lists: a value's span alone is a document, of just that value. -/
namespace Go.Proofs.YtdclhepjoifpiaaGreatDoor
open Go.RowKit
namespace Jt
open Jk (sh tks nx TK tk_of tk_len tks_tok tks_bad tks_end tks_seg)

/-- No blanks. -/
def solid (t : Tok) : Bool := decide (t.1 ≠ 0)
/-- The tokens that are parsed. -/
def sol (l : Bs) : List Tok := (tks l 0).1.filter solid
theorem tks_at {l : Bs} {t : Tok} {rest : List Tok} : ∀ (A : List Tok) (i : Nat), (tks l i).1 = A ++ t :: rest → (tks l t.2.1).1 = t :: rest ∧ (tks l t.2.1).2 = (tks l i).2 ∧ t.2.1 < t.2.2 ∧ t.2.2 ≤ l.length
  | A, i, h => by
    by_cases hi : i < l.length
    · cases hx : nx (l.drop i) with
      | bad n => rw [tks_bad hi hx] at h; cases A <;> cases h
      | tok k m =>
        have ht := tk_of hx
        have hm := tk_len ht
        rw [List.length_drop] at hm
        have h0 := h
        rw [tks_tok ht] at h
        cases A with
        | nil =>
          injection h with h1 h2
          subst h1
          exact ⟨h0, rfl, by simp only; omega, by simp only; omega⟩
        | cons a A =>
          injection h with h1 h2
          obtain ⟨q1, q2, q3, q4⟩ := tks_at A (i + m) h2
          exact ⟨q1, by rw [q2, tks_tok ht], q3, q4⟩
    · rw [tks_end (by omega)] at h; cases A <;> cases h
theorem tks_mem {l : Bs} {i : Nat} {t : Tok} (h : t ∈ (tks l i).1) : t.2.1 < t.2.2 ∧ t.2.2 ≤ l.length := by
  obtain ⟨A, rest, e⟩ := List.append_of_mem h
  exact ⟨(tks_at A i e).2.2.1, (tks_at A i e).2.2.2⟩
/-- A run of the solid tokens is a run of all tokens, from its first one to its last one. -/
theorem filt_run {P : Tok → Bool} : ∀ (L pre seg r : List Tok) (t z : Tok), L.filter P = pre ++ (seg ++ r) → seg.head? = some t → seg.getLast? = some z → ∃ A F C, L = A ++ (F ++ C) ∧ F.filter P = seg ∧ F.head? = some t ∧ F.getLast? = some z := by
  intro L pre seg r t z h hh hl
  obtain ⟨L1, L2, rfl, _, h2⟩ := List.filter_eq_append_iff.1 h
  obtain ⟨L3, L4, rfl, h3, _⟩ := List.filter_eq_append_iff.1 h2
  -- ahead: blanks go away
  cases seg with
  | nil => cases hh
  | cons t0 seg =>
    obtain rfl : t0 = t := by simpa using hh
    obtain ⟨B, L5, rfl, hB, ht, h5⟩ := List.filter_eq_cons_iff.1 h3
    -- behind: blanks go away
    rcases List.eq_nil_or_concat seg with rfl | ⟨s0, z0, hs⟩
    · have hz : t0 = z := by simpa using hl
      subst hz
      refine ⟨L1 ++ B, [t0], L5 ++ L4, by simp, by simp [ht], rfl, rfl⟩
    · rw [List.concat_eq_append] at hs
      subst hs
      have hz : z0 = z := by
        rw [← List.cons_append, List.getLast?_append] at hl
        simpa using hl
      subst hz
      obtain ⟨M1, M2, rfl, m1, m2⟩ := List.filter_eq_append_iff.1 h5
      obtain ⟨N1, N2, rfl, n1, n2, n3⟩ := List.filter_eq_cons_iff.1 m2
      refine ⟨L1 ++ B, t0 :: (M1 ++ (N1 ++ [z0])), N2 ++ L4, by simp, ?_, rfl, ?_⟩
      · have e1 : N1.filter P = [] := List.filter_eq_nil_iff.2 n1
        simp [List.filter_append, ht, m1, e1, n2]
      · rw [List.getLast?_cons, List.getLast?_append, List.getLast?_append]; rfl
theorem cut_cut {l : Bs} {p q a b : Nat} (h : b + p ≤ q) : (((l.take q).drop p).take b).drop a = (l.take (b + p)).drop (a + p) := by
  rw [List.take_drop, List.take_take, show min (p + b) q = b + p by omega, List.drop_drop, Nat.add_comm p a]
theorem filt_map {p : Nat} : ∀ L : List Tok, (L.map (sh p)).filter solid = (L.filter solid).map (sh p)
  | [] => rfl
  | t :: L => by
    have e : solid (sh p t) = solid t := rfl
    rw [List.map_cons, List.filter_cons, List.filter_cons, e, filt_map L]
    split <;> rfl
/-- What stands between two places alone. -/
def part (l : Bs) (s : Nat × Nat) : Bs := (l.take s.2).drop s.1
theorem span_alone {E E' : Env} {f d : Nat} {pre T r : List Tok} {u : JV} (hT : sol E.l = pre ++ T) (h : pv E f d T = .ok u r) (hd : d ≤ 256) (hl : E'.l = part E.l u.span) (hq : E'.rq = E.rq) (hn : E'.rn = E.rn) :
    u.span.1 < u.span.2 ∧ u.span.2 ≤ E.l.length ∧ (tks E'.l 0).2 = none ∧ ∃ u', doc E' none (sol E'.l) = .ok u' ∧ u'.up u.span.1 = u := by
  obtain ⟨t, z, seg, hz, hT2, hsp⟩ := pv_span h hd
  obtain ⟨seg2, hT3, hne, key⟩ := pv_seg f d T r u h hd
  have es : seg2 = t :: seg := by
    rw [hT2] at hT3
    exact (List.append_cancel_right hT3).symm
  subst es
  have hlast : (t :: seg).getLast? = some z := by
    rcases hz with h1 | ⟨s, h1⟩
    · rw [h1]; rfl
    · rw [h1, List.getLast?_append]; rfl
  unfold sol at hT
  rw [hT2] at hT
  obtain ⟨A, F, C, hL, hF, hF1, hF2⟩ := filt_run _ pre (t :: seg) r t z hT rfl hlast
  cases F with
  | nil => cases hF1
  | cons t0 F =>
    obtain rfl : t0 = t := by simpa using hF1
    rw [List.cons_append] at hL
    obtain ⟨a1, a2, a3, a4⟩ := tks_at A 0 hL
    have hzF : z ∈ (tks E.l 0).1 := by
      rw [hL]
      have : z ∈ t0 :: F := List.mem_of_getLast? hF2
      rw [← List.cons_append]
      exact List.mem_append_right _ (List.mem_append_left _ this)
    have hz2 := tks_mem hzF
    -- the last one ends behind the first one's begin
    have hpq : t0.2.1 < z.2.2 := by
      have hmem : z ∈ (tks E.l t0.2.1).1 := by
        rw [a1, ← List.cons_append]
        exact List.mem_append_left _ (List.mem_of_getLast? hF2)
      obtain ⟨B, rest, e⟩ := List.append_of_mem hmem
      have := tks_at B t0.2.1 e
      have key2 : ∀ (B : List Tok) (i : Nat), (tks E.l i).1 = B ++ z :: rest → i ≤ z.2.1 := by
        intro B
        induction B with
        | nil =>
          intro i hi
          by_cases hlt : i < E.l.length
          · cases hx : nx (E.l.drop i) with
            | bad n => rw [tks_bad hlt hx] at hi; cases hi
            | tok k m => rw [tks_tok (tk_of hx)] at hi; injection hi with h1 _; rw [← h1]; exact Nat.le_refl _
          · rw [tks_end (by omega)] at hi; cases hi
        | cons b B ih =>
          intro i hi
          by_cases hlt : i < E.l.length
          · cases hx : nx (E.l.drop i) with
            | bad n => rw [tks_bad hlt hx] at hi; cases hi
            | tok k m => rw [tks_tok (tk_of hx)] at hi; injection hi with _ h2; have := ih _ h2; omega
          · rw [tks_end (by omega)] at hi; cases hi
      have := key2 B _ e
      omega
    have hsegs := tks_seg (l := E.l) (seg := t0 :: F) (rest := C) (p := t0.2.1) (q := z.2.2) (by rw [a1]; rfl) (fun e => by cases e) (fun x hx => by
      rw [hF2] at hx; injection hx with hx; rw [← hx]) (by omega) hz2.2
    have hlp : E'.l = (E.l.take z.2.2).drop t0.2.1 := by rw [hl, hsp]; rfl
    rw [← hlp] at hsegs
    obtain ⟨s1, s2⟩ := hsegs
    have hsol : (sol E'.l).map (sh t0.2.1) = t0 :: seg := by
      unfold sol
      rw [← filt_map, s2, hF]
    have hal : Alike E E' t0.2.1 (sol E'.l) := ⟨hq, hn, fun x hx => by
      have hm := tks_mem (List.mem_filter.1 hx).1
      rw [hlp, List.length_drop, List.length_take] at hm
      unfold Env.by
      rw [hlp]
      exact cut_cut (by omega)⟩
    obtain ⟨u', q1, q2⟩ := key E' (2 * (sol E'.l).length + 2) 0 t0.2.1 (sol E'.l) [] hsol hal (Nat.zero_le _) (by omega)
    rw [List.append_nil] at q1
    refine ⟨by rw [hsp]; exact hpq, by rw [hsp]; exact hz2.2, s1, u', ?_, by rw [hsp]; exact q2⟩
    unfold doc
    rw [q1]
end Jt
end Go.Proofs.YtdclhepjoifpiaaGreatDoor
/- JSON documents as lists: nodes are told in the order in which they begin; one that stands in another one lies within it. -/
namespace Go.Proofs.YtdclhepjoifpiaaGreatDoor
open Go.RowKit
namespace Jt

/-- Where nodes begin. -/
def frs (T : List Tok) : List Nat := T.map fun t => t.2.1
mutual
theorem pv_frs {E : Env} : ∀ (f d : Nat) (T r : List Tok) (v : JV) (s : Nat), pv E f d T = .ok v r → d ≤ 256 → ∃ seg, T = seg ++ r ∧ ((v.nds s).map fun n => n.span.1).Sublist (frs seg)
  | 0, _, _, _, _, _, h, _ => by rw [pv] at h; cases h
  | _ + 1, _, [], _, _, _, h, _ => by rw [pv] at h; cases h
  | f + 1, d, t :: T, r, v, s, h, hd => by
    have one : ∀ (k : Nat) (x : Bs), JV.sc k x t.2 = v → T = r → ∃ seg, t :: T = seg ++ r ∧ ((v.nds s).map fun n => n.span.1).Sublist (frs seg) := by
      intro k x h1 h2
      refine ⟨[t], by rw [h2]; rfl, ?_⟩
      rw [← h1, JV.nds]
      exact List.Sublist.refl _
    rw [pv] at h
    split at h
    · split at h <;> (injection h with h1 h2; exact one _ _ h1 h2)
    · split at h
      · split at h
        · cases h
        · injection h with h1 h2; exact one _ _ h1 h2
      · split at h
        · split at h
          · cases h
          · injection h with h1 h2; exact one _ _ h1 h2
        · split at h
          · split at h
            · cases h
            · cases hp : pl E f d (E.mk? t 123) true [] T with
              | bad c a => rw [hp] at h; cases h
              | out => rw [hp] at h; cases h
              | ok a r2 =>
                obtain ⟨is, e⟩ := a
                rw [hp] at h
                injection h with h1 h2
                subst h2
                obtain ⟨seg, w, hs⟩ := pl_frs f d _ _ _ T r2 is e (s + 1) hp (by omega)
                refine ⟨t :: seg, by rw [w]; rfl, ?_⟩
                rw [← h1, JV.nds, List.map_cons]
                exact List.Sublist.cons_cons _ hs
          · cases h
theorem pl_frs {E : Env} : ∀ (f d : Nat) (m first : Bool) (ks : List Bs) (T r : List Tok) (is : JI) (e s : Nat), pl E f d m first ks T = .ok (is, e) r → d < 256 → ∃ seg, T = seg ++ r ∧ ((is.nds s).map fun n => n.span.1).Sublist (frs seg)
  | 0, _, _, _, _, _, _, _, _, _, h, _ => by rw [pl] at h; cases h
  | _ + 1, _, _, _, _, [], _, _, _, _, h, _ => by rw [pl] at h; cases h
  | f + 1, d, m, first, ks, t :: T, r, is, e, s, h, hd => by
    rw [pl] at h
    split at h
    · injection h with h0 h
      injection h0 with h1 h2
      refine ⟨[t], by rw [h]; rfl, ?_⟩
      rw [← h1, JI.nds]
      exact List.nil_sublist _
    · cases hc : comma E first (t :: T) with
      | bad c a => rw [hc] at h; cases h
      | out => rw [hc] at h; cases h
      | ok u0 T1 =>
        rw [hc] at h
        simp only at h
        obtain ⟨s1, w1, _⟩ := comma_seg hc
        cases he : entry E m ks T1 with
        | bad c a => rw [he] at h; cases h
        | out => rw [he] at h; cases h
        | ok ksp T2 =>
          obtain ⟨k, sp⟩ := ksp
          rw [he] at h
          simp only at h
          obtain ⟨s2, w2, _⟩ := entry_seg he
          cases hv : pv E f (d + 1) T2 with
          | bad c a => rw [hv] at h; cases h
          | out => rw [hv] at h; cases h
          | ok v T3 =>
            rw [hv] at h
            simp only at h
            obtain ⟨s3, w3, q3⟩ := pv_frs f (d + 1) T2 T3 v s hv (by omega)
            cases hl : pl E f d m false (ks ++ [k]) T3 with
            | bad c a => rw [hl] at h; cases h
            | out => rw [hl] at h; cases h
            | ok b T4 =>
              obtain ⟨is2, e2⟩ := b
              rw [hl] at h
              injection h with h0 h
              injection h0 with h1 h2
              subst h
              obtain ⟨s4, w4, q4⟩ := pl_frs f d m false _ T3 T4 is2 e2 (s + v.size) hl hd
              refine ⟨s1 ++ (s2 ++ (s3 ++ s4)), by rw [w1, w2, w3, w4]; simp, ?_⟩
              rw [← h1, JI.nds, List.map_append]
              unfold frs at q3 q4 ⊢
              rw [List.map_append, List.map_append, List.map_append]
              exact (List.Sublist.append q3 q4).trans ((List.sublist_append_right _ _).trans (List.sublist_append_right _ _))
end
/-- Tokens stand one behind the other. -/
def Ord (T : List Tok) : Prop := (∀ t ∈ T, t.2.1 < t.2.2) ∧ T.Pairwise fun a b => a.2.2 ≤ b.2.1
theorem Ord.right {a b : List Tok} (h : Ord (a ++ b)) : Ord b := ⟨fun t ht => h.1 t (List.mem_append_right _ ht), (List.pairwise_append.1 h.2).2.1⟩
theorem Ord.left {a b : List Tok} (h : Ord (a ++ b)) : Ord a := ⟨fun t ht => h.1 t (List.mem_append_left _ ht), (List.pairwise_append.1 h.2).1⟩
theorem Ord.frs {T : List Tok} (h : Ord T) : (frs T).Pairwise (· < ·) := by
  unfold Jt.frs
  rw [List.pairwise_map]
  exact h.2.imp_of_mem fun {a b} ha _ hab => by have := h.1 a ha; omega
theorem ord_nil : Ord [] := ⟨fun _ h => (by cases h), List.Pairwise.nil⟩
theorem ord_tks {l : Bs} : ∀ (m i : Nat), l.length - i ≤ m → Ord (Jk.tks l i).1 ∧ ∀ t ∈ (Jk.tks l i).1, i ≤ t.2.1 := by
  intro m
  induction m with
  | zero => intro i hi; rw [Jk.tks_end (by omega)]; exact ⟨ord_nil, fun _ h => (by cases h)⟩
  | succ m ih =>
    intro i hi
    by_cases hl : i < l.length
    · cases hx : Jk.nx (l.drop i) with
      | bad n => rw [Jk.tks_bad hl hx]; exact ⟨ord_nil, fun _ h => (by cases h)⟩
      | tok k n =>
        have ht := Jk.tk_of hx
        have hn := Jk.tk_len ht
        rw [List.length_drop] at hn
        obtain ⟨⟨o1, o2⟩, o3⟩ := ih (i + n) (by omega)
        rw [Jk.tks_tok ht]
        refine ⟨⟨fun t h => ?_, List.pairwise_cons.2 ⟨fun t h => o3 t h, o2⟩⟩, fun t h => ?_⟩
        · rcases List.mem_cons.1 h with rfl | h
          · simp only; omega
          · exact o1 t h
        · rcases List.mem_cons.1 h with rfl | h
          · exact Nat.le_refl _
          · have := o3 t h; omega
    · rw [Jk.tks_end (by omega)]; exact ⟨ord_nil, fun _ h => (by cases h)⟩
theorem ord_sol (l : Bs) : Ord (sol l) := by
  obtain ⟨h1, h2⟩ := (ord_tks (l := l) _ 0 (Nat.le_refl _)).1
  exact ⟨fun t ht => h1 t (List.mem_filter.1 ht).1, h2.sublist List.filter_sublist⟩
def JI.vals : JI → List JV
  | .nil => []
  | .cons _ _ v r => v :: r.vals
/-- What stands in one lies within it. -/
theorem pl_within {E : Env} : ∀ (f d : Nat) (m first : Bool) (ks : List Bs) (T r : List Tok) (is : JI) (e : Nat), pl E f d m first ks T = .ok (is, e) r → d < 256 → Ord T → ∀ w ∈ is.vals, (∃ t ∈ T, w.span.1 = t.2.1) ∧ w.span.2 < e
  | 0, _, _, _, _, _, _, _, _, h, _, _, _, _ => by rw [pl] at h; cases h
  | _ + 1, _, _, _, _, [], _, _, _, h, _, _, _, _ => by rw [pl] at h; cases h
  | f + 1, d, m, first, ks, t :: T, r, is, e, h, hd, ho, w, hw => by
    rw [pl] at h
    split at h
    · injection h with h0 h
      injection h0 with h1 h2
      subst h1
      cases hw
    · cases hc : comma E first (t :: T) with
      | bad c a => rw [hc] at h; cases h
      | out => rw [hc] at h; cases h
      | ok u0 T1 =>
        rw [hc] at h
        simp only at h
        obtain ⟨s1, w1, _⟩ := comma_seg hc
        cases he : entry E m ks T1 with
        | bad c a => rw [he] at h; cases h
        | out => rw [he] at h; cases h
        | ok ksp T2 =>
          obtain ⟨k, sp⟩ := ksp
          rw [he] at h
          simp only at h
          obtain ⟨s2, w2, _⟩ := entry_seg he
          cases hv : pv E f (d + 1) T2 with
          | bad c a => rw [hv] at h; cases h
          | out => rw [hv] at h; cases h
          | ok v T3 =>
            rw [hv] at h
            simp only at h
            cases hl : pl E f d m false (ks ++ [k]) T3 with
            | bad c a => rw [hl] at h; cases h
            | out => rw [hl] at h; cases h
            | ok b T4 =>
              obtain ⟨is2, e2⟩ := b
              rw [hl] at h
              injection h with h0 h
              injection h0 with h1 h2
              subst h1
              subst h2
              have o2 : Ord T2 := by rw [w1, w2] at ho; exact ho.right.right
              obtain ⟨t3, z3, s3, hz3, w3, hsp⟩ := pv_span hv (by omega)
              have o3 : Ord T3 := by rw [w3] at o2; exact o2.right
              have hin : ∀ x ∈ T2, x ∈ t :: T := fun x hx => by rw [w1, w2]; exact List.mem_append_right _ (List.mem_append_right _ hx)
              rcases List.mem_cons.1 hw with rfl | hw
              · refine ⟨⟨t3, hin _ (by rw [w3]; simp), by rw [hsp]⟩, ?_⟩
                obtain ⟨s4, z4, w4, hz4⟩ := pl_end f d m false _ T3 T4 is2 e2 hl hd
                have hzin : z3 ∈ t3 :: s3 := by
                  rcases hz3 with q | ⟨s, q⟩
                  · rw [q]; simp
                  · rw [q]; simp
                have h4 : z4 ∈ T3 := by rw [w4]; simp
                have h5 := (List.pairwise_append.1 (by rw [w3] at o2; exact o2.2)).2.2 z3 hzin z4 h4
                have h6 := o3.1 z4 h4
                rw [hsp, ← hz4]
                simp only
                omega
              · obtain ⟨⟨x, hx, q1⟩, q2⟩ := pl_within f d m false _ T3 T4 is2 e2 hl hd o3 w hw
                exact ⟨⟨x, hin x (by rw [w3]; exact List.mem_append_right _ hx), q1⟩, q2⟩
theorem box_within {E : Env} {f d : Nat} {T r : List Tok} {m : Bool} {sp : Nat × Nat} {is : JI} (h : pv E f d T = .ok (.box m sp is) r) (hd : d ≤ 256) (ho : Ord T) : ∀ w ∈ is.vals, sp.1 < w.span.1 ∧ w.span.2 < sp.2 := by
  intro w hw
  match f, T, h with
  | 0, _, h => rw [pv] at h; cases h
  | _ + 1, [], h => rw [pv] at h; cases h
  | f + 1, t :: T, h =>
    rw [pv] at h
    split at h
    · split at h <;> (injection h with h1 _; cases h1)
    · split at h
      · split at h
        · cases h
        · injection h with h1 _; cases h1
      · split at h
        · split at h
          · cases h
          · injection h with h1 _; cases h1
        · split at h
          · split at h
            · cases h
            · rename_i hdp
              cases hp : pl E f d (E.mk? t 123) true [] T with
              | bad c a => rw [hp] at h; cases h
              | out => rw [hp] at h; cases h
              | ok a r2 =>
                obtain ⟨is2, e⟩ := a
                rw [hp] at h
                injection h with h1 h2
                injection h1 with _ h3 h4
                subst h4
                have ot : Ord T := Ord.right (a := [t]) ho
                obtain ⟨⟨x, hx, q1⟩, q2⟩ := pl_within f d _ _ _ T r2 is2 e hp (by omega) ot w hw
                have hlt := (List.pairwise_cons.1 ho.2).1 x hx
                have h5 := ho.1 t (by simp)
                rw [← h3]
                simp only
                rw [q1]
                exact ⟨by omega, q2⟩
          · cases h
end Jt
end Go.Proofs.YtdclhepjoifpiaaGreatDoor
/- JSON documents as lists: token by token, with a stack; what the parser by recursion answers is what this one answers. -/
namespace Go.Proofs.YtdclhepjoifpiaaGreatDoor
open Go.RowKit
namespace Jt

/-- What is known between two tokens: what may come, what is open (the innermost one first; is it a map?), the nodes. -/
structure St where
  wd : Nat
  sk : List (Nat × Bool)
  nd : List Nd
inductive SR where
  | ok (s : St)
  | bad (c a : Nat)
def Nd.addSub (n : Nat) (x : Nd) : Nd := { x with subs := x.subs ++ [n] }
def Nd.addKey (k : Bs) (sp : Nat × Nat) (x : Nd) : Nd := { x with keys := x.keys ++ [k], spots := x.spots ++ [sp] }
def Nd.setTo (e : Nat) (x : Nd) : Nd := { x with span := (x.span.1, e) }
def goW : List (Nat × Bool) → Nat
  | [] => 0
  | _ :: _ => 24
def topSub (S : List (Nat × Bool)) (X : List Nd) : List Nd :=
  match S with
  | [] => X
  | (a, _) :: _ => X.modify a (Nd.addSub X.length)
def St.add (s : St) (t : Tok) (k : Nat) (x : Bs) : St := { s with nd := topSub s.sk s.nd ++ [⟨k, x, [], [], [], t.2⟩] }
def St.leaf (s : St) (t : Tok) (k : Nat) (x : Bs) : St := { s.add t k x with wd := goW s.sk }
def kdM (m : Bool) : Nat := if m = true then 8 else 7
def firstM (m : Bool) : Nat := if m = true then 2 else 1
def keysAt (X : List Nd) (a : Nat) : List Bs := match X[a]? with | some x => x.keys | none => []
def St.begin_ (s : St) (t : Tok) (m : Bool) : SR :=
  if s.wd &&& 1 = 0 then .bad 3 t.2.1
  else if s.sk.length = 256 then .bad 4 t.2.1
  else .ok { wd := firstM m + 16, sk := (s.nd.length, m) :: s.sk, nd := (s.add t (kdM m) []).nd }
def St.end_ (E : Env) (s : St) (t : Tok) : SR :=
  if s.wd &&& 16 = 0 then .bad 3 t.2.1
  else match s.sk with
    | [] => .bad 3 t.2.1
    | (a, m) :: S => if E.mk? t (enM m) = true then .ok { wd := goW S, sk := S, nd := s.nd.modify a (Nd.setTo t.2.2) } else .bad 3 t.2.1
def St.key (s : St) (t : Tok) (k : Bs) : SR :=
  match s.sk with
  | [] => .bad 3 t.2.1
  | (a, _) :: _ => if k ∈ keysAt s.nd a then .bad 5 t.2.1 else .ok { s with wd := 4, nd := s.nd.modify a (Nd.addKey k t.2) }
def firstTop : List (Nat × Bool) → Nat
  | [] => 0
  | (_, m) :: _ => firstM m
def step (E : Env) (s : St) (t : Tok) : SR :=
  if t.1 = 2 then
    if s.wd &&& 1 = 0 then .bad 3 t.2.1
    else if E.by t = null then .ok (s.leaf t 0 []) else .ok (s.leaf t 1 (E.by t))
  else if t.1 = 3 then
    if s.wd &&& 1 = 0 then .bad 3 t.2.1
    else match E.rn (E.by t) with
      | .error c => .bad c t.2.1
      | .ok x => .ok (s.leaf t 2 x)
  else if t.1 = 4 then
    if s.wd &&& 3 = 0 then .bad 3 t.2.1
    else match E.rq (E.by t) with
      | .error (c, a) => .bad c (t.2.1 + a)
      | .ok x => if s.wd &&& 2 = 0 then .ok (s.leaf t 3 x) else s.key t x
  else if t.1 = 1 then
    if E.mk? t 91 = true then s.begin_ t false
    else if E.mk? t 123 = true then s.begin_ t true
    else if E.mk? t 58 = true then (if s.wd &&& 4 = 0 then .bad 3 t.2.1 else .ok { s with wd := 1 })
    else if E.mk? t 44 = true then (if s.wd &&& 8 = 0 then .bad 3 t.2.1 else .ok { s with wd := firstTop s.sk })
    else s.end_ E t
  else .ok s
def run (E : Env) : St → List Tok → SR
  | s, [] => .ok s
  | s, t :: r => match step E s t with
    | .ok s' => run E s' r
    | .bad c a => .bad c a
inductive NR where
  | ok (nd : List Nd)
  | bad (c a : Nat)
/-- A whole document: its nodes, or the first fault. -/
def docP (E : Env) (fault : Option Nat) (T : List Tok) : NR :=
  match run E ⟨1, [], []⟩ T with
  | .bad c a => .bad c a
  | .ok s => match fault with
    | some a => .bad 3 a
    | none => if s.wd = 0 then .ok s.nd else .bad 3 E.l.length
/-! ### A run of solid tokens -/
def St.val (s : St) (v : JV) : St := { wd := goW s.sk, sk := s.sk, nd := topSub s.sk s.nd ++ v.nds s.nd.length }
def Nd.fill (m : Bool) (is : JI) (e n : Nat) (x : Nd) : Nd :=
  { x with keys := x.keys ++ (if m = true then is.keys else []), spots := x.spots ++ (if m = true then is.spots else []), subs := x.subs ++ is.subs n, span := (x.span.1, e) }
def St.close (s : St) (a : Nat) (m : Bool) (S : List (Nat × Bool)) (is : JI) (e : Nat) : St :=
  { wd := goW S, sk := S, nd := s.nd.modify a (Nd.fill m is e s.nd.length) ++ is.nds s.nd.length }
def Fails (E : Env) (s : St) (T : List Tok) (c a : Nat) : Prop :=
  run E s T = .bad c a ∨ ∃ s', run E s T = .ok s' ∧ s'.wd ≠ 0 ∧ (c, a) = E.en
def Sol (T : List Tok) : Prop := ∀ t ∈ T, 1 ≤ t.1 ∧ t.1 ≤ 4
theorem Sol.tail {t : Tok} {T : List Tok} (h : Sol (t :: T)) : Sol T := fun u hu => h u (List.mem_cons_of_mem _ hu)
theorem modify_left {X Y : List Nd} {a : Nat} {f : Nd → Nd} (h : a < X.length) : (X ++ Y).modify a f = X.modify a f ++ Y := by
  apply List.ext_getElem?
  intro i
  rw [List.getElem?_modify]
  by_cases hi : i < X.length
  · rw [List.getElem?_append_left hi, List.getElem?_append_left (by rw [List.length_modify]; exact hi), List.getElem?_modify]
  · rw [List.getElem?_append_right (by omega), List.getElem?_append_right (by rw [List.length_modify]; omega), List.length_modify]
    cases Y[i - X.length]? with
    | none => rfl
    | some y => show some (if a = i then f y else y) = some y; rw [if_neg (by omega)]
theorem modify_last {X : List Nd} {y : Nd} {a : Nat} {f : Nd → Nd} (h : a = X.length) : (X ++ [y]).modify a f = X ++ [f y] := by
  subst h
  apply List.ext_getElem?
  intro i
  rw [List.getElem?_modify]
  by_cases hi : i < X.length
  · rw [List.getElem?_append_left hi, List.getElem?_append_left hi]
    cases X[i]? with
    | none => rfl
    | some z => show some (if X.length = i then f z else z) = some z; rw [if_neg (by omega)]
  · rw [List.getElem?_append_right (by omega), List.getElem?_append_right (by omega)]
    by_cases h2 : i - X.length = 0
    · rw [h2]; show some (if X.length = i then f y else y) = some (f y); rw [if_pos (by omega)]
    · obtain ⟨j, hj⟩ : ∃ j, i - X.length = j + 1 := ⟨i - X.length - 1, by omega⟩
      rw [hj]; rfl
theorem topSub_len (S : List (Nat × Bool)) (X : List Nd) : (topSub S X).length = X.length := by
  unfold topSub
  split
  · rfl
  · rw [List.length_modify]
theorem run_cons {E : Env} {s s' : St} {t : Tok} {r : List Tok} (h : step E s t = .ok s') : run E s (t :: r) = run E s' r := by
  rw [run, h]
theorem run_bad {E : Env} {s : St} {t : Tok} {r : List Tok} {c a : Nat} (h : step E s t = .bad c a) : run E s (t :: r) = .bad c a := by
  rw [run, h]
theorem Fails.cons {E : Env} {s s' : St} {t : Tok} {r : List Tok} {c a : Nat} (h : step E s t = .ok s') (hf : Fails E s' r c a) : Fails E s (t :: r) c a := by
  unfold Fails; rw [run_cons h]; exact hf
/-- What may begin here. -/
def CanV (E : Env) (s : St) (T : List Tok) : Prop :=
  s.wd = 1 ∨ (s.wd = 17 ∧ (∃ a S, s.sk = (a, false) :: S) ∧ ∀ t r, T = t :: r → E.mk? t 93 = false)
theorem CanV.bits {E : Env} {s : St} {T : List Tok} (h : CanV E s T) : s.wd &&& 1 ≠ 0 ∧ s.wd &&& 2 = 0 ∧ s.wd &&& 3 ≠ 0 ∧ s.wd &&& 4 = 0 ∧ s.wd &&& 8 = 0 ∧ s.wd ≠ 0 := by
  rcases h with h | ⟨h, _⟩ <;> (rw [h]; decide)
theorem CanV.noEnd {E : Env} {s : St} {t : Tok} {r : List Tok} (h : CanV E s (t :: r)) : s.end_ E t = .bad 3 t.2.1 := by
  unfold St.end_
  rcases h with h | ⟨h, ⟨a, S, hs⟩, hn⟩
  · rw [h, if_pos (by decide)]
  · rw [h, if_neg (by decide), hs]
    show (if E.mk? t (enM false) = true then _ else _) = _
    rw [show enM false = 93 from rfl, hn t r rfl, if_neg (by simp)]
theorem mk_kind {E : Env} {t : Tok} {c : Int} (h : E.mk? t c = true) : t.1 = 1 := by
  unfold Env.mk? at h; exact (of_decide_eq_true h).1
theorem mk_one {E : Env} {t : Tok} {c c' : Int} (h : E.mk? t c = true) (hc : c ≠ c') : E.mk? t c' = false := by
  unfold Env.mk? at h ⊢
  have := (of_decide_eq_true h).2
  exact decide_eq_false fun h2 => hc (this.symm.trans h2.2)
/-- A mark that may not begin a value. -/
theorem step_noV {E : Env} {s : St} {t : Tok} {r : List Tok} (h : CanV E s (t :: r)) (h1 : t.1 = 1) (h2 : ¬ (E.mk? t 91 = true ∨ E.mk? t 123 = true)) : step E s t = .bad 3 t.2.1 := by
  obtain ⟨b1, b2, b3, b4, b8, _⟩ := h.bits
  unfold step
  rw [if_neg (by omega), if_neg (by omega), if_neg (by omega), if_pos h1, if_neg (fun e => h2 (.inl e)), if_neg (fun e => h2 (.inr e)), if_pos b4, if_pos b8]
  split
  · rfl
  · split
    · rfl
    · exact h.noEnd
def Hi (s : St) : Prop := ∀ a m S, s.sk = (a, m) :: S → a < s.nd.length
mutual
theorem pv_run {E : Env} : ∀ (f d : Nat) (T : List Tok) (s : St), CanV E s T → s.sk.length = d → d ≤ 256 → Hi s → Sol T →
    (∀ v r, pv E f d T = .ok v r → run E s T = run E (s.val v) r) ∧ (∀ c a, pv E f d T = .bad c a → Fails E s T c a)
  | 0, _, _, _, _, _, _, _, _ => ⟨fun _ _ h => (by rw [pv] at h; cases h), fun _ _ h => (by rw [pv] at h; cases h)⟩
  | _ + 1, _, [], s, hc, _, _, _, _ => ⟨fun _ _ h => (by rw [pv] at h; cases h), fun c a h => by
      rw [pv] at h; injection h with h1 h2
      exact .inr ⟨s, rfl, hc.bits.2.2.2.2.2, by rw [← h1, ← h2]⟩⟩
  | f + 1, d, t :: T, s, hc, hd, hd2, hi, hs => by
    obtain ⟨b1, b2, b3, b4, b8, b0⟩ := hc.bits
    have hk := hs t (List.mem_cons_self ..)
    rw [pv]
    by_cases k2 : t.1 = 2
    · rw [if_pos k2]
      have st0 : E.by t = null → step E s t = .ok (s.leaf t 0 []) := fun e => by unfold step; rw [if_pos k2, if_neg b1, if_pos e]
      have st1 : ¬ E.by t = null → step E s t = .ok (s.leaf t 1 (E.by t)) := fun e => by unfold step; rw [if_pos k2, if_neg b1, if_neg e]
      by_cases hn : E.by t = null
      · rw [if_pos hn]
        refine ⟨fun v r h => ?_, fun c a h => by cases h⟩
        injection h with h1 h2
        rw [run_cons (st0 hn), ← h1, ← h2]; rfl
      · rw [if_neg hn]
        refine ⟨fun v r h => ?_, fun c a h => by cases h⟩
        injection h with h1 h2
        rw [run_cons (st1 hn), ← h1, ← h2]; rfl
    rw [if_neg k2]
    by_cases k3 : t.1 = 3
    · rw [if_pos k3]
      cases hq : E.rn (E.by t) with
      | error c =>
        have st : step E s t = .bad c t.2.1 := by unfold step; rw [if_neg k2, if_pos k3, if_neg b1, hq]
        refine ⟨fun v r h => by (cases h), fun c' a h => ?_⟩
        injection h with h1 h2
        rw [← h1, ← h2]; exact .inl (run_bad st)
      | ok x =>
        have st : step E s t = .ok (s.leaf t 2 x) := by unfold step; rw [if_neg k2, if_pos k3, if_neg b1, hq]
        refine ⟨fun v r h => ?_, fun c a h => by cases h⟩
        injection h with h1 h2
        rw [run_cons st, ← h1, ← h2]; rfl
    rw [if_neg k3]
    by_cases k4 : t.1 = 4
    · rw [if_pos k4]
      cases hq : E.rq (E.by t) with
      | error c =>
        obtain ⟨c, o⟩ := c
        have st : step E s t = .bad c (t.2.1 + o) := by unfold step; rw [if_neg k2, if_neg k3, if_pos k4, if_neg b3, hq]
        refine ⟨fun v r h => by (cases h), fun c' a h => ?_⟩
        injection h with h1 h2
        rw [← h1, ← h2]; exact .inl (run_bad st)
      | ok x =>
        have st : step E s t = .ok (s.leaf t 3 x) := by unfold step; rw [if_neg k2, if_neg k3, if_pos k4, if_neg b3, hq]; show (if _ then _ else _) = _; rw [if_pos b2]
        refine ⟨fun v r h => ?_, fun c a h => by cases h⟩
        injection h with h1 h2
        rw [run_cons st, ← h1, ← h2]; rfl
    rw [if_neg k4]
    have k1 : t.1 = 1 := by omega
    by_cases hm : E.mk? t 91 = true ∨ E.mk? t 123 = true
    · rw [if_pos hm]
      obtain ⟨m, hM⟩ : ∃ m, m = E.mk? t 123 := ⟨_, rfl⟩
      rw [← hM]
      have st : step E s t = s.begin_ t m := by
        unfold step
        rw [if_neg k2, if_neg k3, if_neg k4, if_pos k1]
        by_cases h1 : E.mk? t 91 = true
        · rw [if_pos h1, hM, mk_one h1 (by decide)]
        · have h2 : E.mk? t 123 = true := hm.resolve_left h1
          rw [if_neg h1, if_pos h2, hM, h2]
      by_cases h256 : d = 256
      · rw [if_pos h256]
        refine ⟨fun v r h => by (cases h), fun c' a h => ?_⟩
        injection h with h1 h2
        rw [← h1, ← h2]
        exact .inl (run_bad (st.trans (by unfold St.begin_; rw [if_neg b1, if_pos (hd.trans h256)])))
      · rw [if_neg h256]
        have sb : s.begin_ t m = .ok { wd := firstM m + 16, sk := (s.nd.length, m) :: s.sk, nd := (s.add t (kdM m) []).nd } := by
          unfold St.begin_; rw [if_neg b1, if_neg (by rw [hd]; exact h256)]
        obtain ⟨s', hs'⟩ : ∃ s' : St, s' = { wd := firstM m + 16, sk := (s.nd.length, m) :: s.sk, nd := (s.add t (kdM m) []).nd } := ⟨_, rfl⟩
        rw [← hs'] at sb
        have hnl : s'.nd.length = s.nd.length + 1 := by rw [hs', St.add, List.length_append, topSub_len]; rfl
        obtain ⟨i1, i2⟩ := pl_run (E := E) f d m true [] T s' s.nd.length s.sk (by rw [hs']) hd (by rw [hs']; cases m <;> rfl)
          ⟨⟨kdM m, [], [], [], [], t.2⟩, by
            rw [hs']
            show (topSub s.sk s.nd ++ _)[s.nd.length]? = _
            rw [List.getElem?_append_right (by rw [topSub_len]; exact Nat.le_refl _), topSub_len, Nat.sub_self]; rfl, fun _ => rfl⟩ (by omega) hs.tail
        cases hp : pl E f d m true [] T with
        | out => exact ⟨fun v r h => by (cases h), fun c a h => by cases h⟩
        | bad c a =>
          refine ⟨fun v r h => by (cases h), fun c' a' h => ?_⟩
          injection h with h1 h2
          rw [← h1, ← h2]
          exact (i2 c a hp).cons (st.trans sb)
        | ok q r2 =>
          obtain ⟨is, e⟩ := q
          refine ⟨fun v r h => ?_, fun c a h => by cases h⟩
          injection h with h1 h2
          subst h2
          rw [run_cons (st.trans sb), i1 is e r2 hp, ← h1]
          congr 1
          unfold St.close St.val
          rw [hnl, hs']
          show St.mk _ _ ((topSub s.sk s.nd ++ _).modify _ _ ++ _) = St.mk _ _ _
          congr 1
          rw [JV.nds]
          have e1 : (topSub s.sk s.nd ++ [(⟨kdM m, [], [], [], [], t.2⟩ : Nd)]).modify s.nd.length (Nd.fill m is e (s.nd.length + 1)) =
              topSub s.sk s.nd ++ [⟨kdM m, [], if m = true then is.keys else [], if m = true then is.spots else [], is.subs (s.nd.length + 1), (t.2.1, e)⟩] := by
            rw [modify_last (by rw [topSub_len])]
            simp [Nd.fill]
          rw [e1, List.append_assoc]
          rfl
    · rw [if_neg hm]
      refine ⟨fun v r h => by (cases h), fun c' a h => ?_⟩
      injection h with h1 h2
      rw [← h1, ← h2]
      exact .inl (run_bad (step_noV hc k1 hm))
theorem pl_run {E : Env} : ∀ (f d : Nat) (m first : Bool) (ks : List Bs) (T : List Tok) (s : St) (a : Nat) (S : List (Nat × Bool)), s.sk = (a, m) :: S → S.length = d →
    s.wd = (if first = true then firstM m + 16 else 24) → (∃ x, s.nd[a]? = some x ∧ (m = true → x.keys = ks)) → d < 256 → Sol T →
    (∀ is e r, pl E f d m first ks T = .ok (is, e) r → run E s T = run E (s.close a m S is e) r) ∧ (∀ c o, pl E f d m first ks T = .bad c o → Fails E s T c o)
  | 0, _, _, _, _, _, _, _, _, _, _, _, _, _, _ => ⟨fun _ _ _ h => (by rw [pl] at h; cases h), fun _ _ h => (by rw [pl] at h; cases h)⟩
  | _ + 1, _, m, first, _, [], s, _, _, _, _, hw, _, _, _ => ⟨fun _ _ _ h => (by rw [pl] at h; cases h), fun c a h => by
      rw [pl] at h; injection h with h1 h2
      exact .inr ⟨s, rfl, by rw [hw]; cases first <;> cases m <;> decide, by rw [← h1, ← h2]⟩⟩
  | f + 1, d, m, first, ks, t :: T, s, a, S, hsk, hS, hw, ⟨x, hx, hkx⟩, hd, hs => by
    have hk := hs t (List.mem_cons_self ..)
    have ha : a < s.nd.length := by
      rcases Nat.lt_or_ge a s.nd.length with h | h
      · exact h
      · rw [List.getElem?_eq_none h] at hx; cases hx
    rw [pl]
    by_cases he : E.mk? t (enM m) = true
    · rw [if_pos he]
      have k1 := mk_kind he
      refine ⟨fun is e r h => ?_, fun c a h => by cases h⟩
      injection h with h1 h2
      injection h1 with h3 h4
      have st : step E s t = .ok { wd := goW S, sk := S, nd := s.nd.modify a (Nd.setTo t.2.2) } := by
        unfold step
        have n91 : E.mk? t 91 = false := mk_one he (by cases m <;> decide)
        have n123 : E.mk? t 123 = false := mk_one he (by cases m <;> decide)
        have n58 : E.mk? t 58 = false := mk_one he (by cases m <;> decide)
        have n44 : E.mk? t 44 = false := mk_one he (by cases m <;> decide)
        rw [if_neg (by omega), if_neg (by omega), if_neg (by omega), if_pos k1, n91, n123, n58, n44]
        rw [if_neg (by decide), if_neg (by decide), if_neg (by decide), if_neg (by decide)]
        unfold St.end_
        rw [if_neg (by rw [hw]; cases first <;> cases m <;> decide), hsk]
        show (if E.mk? t (enM m) = true then _ else _) = _
        rw [if_pos he]
      rw [run_cons st, ← h2, ← h3, ← h4]
      congr 1
      unfold St.close
      congr 1
      rw [JI.nds, List.append_nil]
      congr 1
      funext y
      unfold Nd.setTo Nd.fill
      cases m <;> simp [JI.keys, JI.spots, JI.subs]
    · rw [if_neg he]
      -- the comma
      have hcm : (∀ c o, comma E first (t :: T) = .bad c o → Fails E s (t :: T) c o) ∧ ∀ T1, comma E first (t :: T) = .ok () T1 →
          ∃ s1, run E s (t :: T) = run E s1 T1 ∧ s1.sk = s.sk ∧ s1.nd = s.nd ∧ Sol T1 ∧ ((first = true ∧ s1.wd = firstM m + 16 ∧ T1 = t :: T) ∨ s1.wd = firstM m) := by
        unfold comma
        cases first with
        | true =>
          rw [if_pos rfl]
          refine ⟨fun c o h => by (cases h), fun T1 h => ?_⟩
          injection h with _ h
          exact ⟨s, by rw [h], rfl, rfl, by rw [← h]; exact hs, .inl ⟨rfl, hw, h.symm⟩⟩
        | false =>
          rw [if_neg (by decide)]
          have h24 : s.wd = 24 := hw
          show (∀ c o, (if E.mk? t 44 = true then _ else _) = _ → _) ∧ ∀ T1, (if E.mk? t 44 = true then _ else _) = _ → _
          by_cases h44 : E.mk? t 44 = true
          · rw [if_pos h44]
            refine ⟨fun c o h => by (cases h), fun T1 h => ?_⟩
            injection h with _ h
            have k1 := mk_kind h44
            have st : step E s t = .ok { s with wd := firstM m } := by
              unfold step
              rw [if_neg (by omega), if_neg (by omega), if_neg (by omega), if_pos k1, mk_one h44 (show (44 : Int) ≠ 91 by decide), mk_one h44 (show (44 : Int) ≠ 123 by decide), mk_one h44 (show (44 : Int) ≠ 58 by decide), h44]
              rw [if_neg (by decide), if_neg (by decide), if_neg (by decide), if_pos rfl, if_neg (by rw [h24]; decide), hsk]
              rfl
            exact ⟨{ s with wd := firstM m }, by rw [run_cons st, h], rfl, rfl, by rw [← h]; exact hs.tail, .inr rfl⟩
          · rw [if_neg h44]
            refine ⟨fun c o h => ?_, fun T1 h => by cases h⟩
            injection h with h1 h2
            rw [← h1, ← h2]
            refine .inl (run_bad ?_)
            unfold step
            by_cases k2 : t.1 = 2
            · rw [if_pos k2, if_pos (by rw [h24]; decide)]
            rw [if_neg k2]
            by_cases k3 : t.1 = 3
            · rw [if_pos k3, if_pos (by rw [h24]; decide)]
            rw [if_neg k3]
            by_cases k4 : t.1 = 4
            · rw [if_pos k4, if_pos (by rw [h24]; decide)]
            rw [if_neg k4, if_pos (by omega)]
            by_cases h91 : E.mk? t 91 = true
            · rw [if_pos h91]; unfold St.begin_; rw [if_pos (by rw [h24]; decide)]
            rw [if_neg h91]
            by_cases h123 : E.mk? t 123 = true
            · rw [if_pos h123]; unfold St.begin_; rw [if_pos (by rw [h24]; decide)]
            rw [if_neg h123]
            by_cases h58 : E.mk? t 58 = true
            · rw [if_pos h58, if_pos (by rw [h24]; decide)]
            rw [if_neg h58, if_neg h44]
            unfold St.end_
            rw [if_neg (by rw [h24]; decide), hsk]
            show (if E.mk? t (enM m) = true then _ else _) = _
            rw [if_neg he]
      obtain ⟨hc1, hc2⟩ := hcm
      cases hcr : comma E first (t :: T) with
      | out => exact absurd hcr comma_out
      | bad c o =>
        refine ⟨fun is e r h => by (cases h), fun c' o' h => ?_⟩
        injection h with h1 h2
        rw [← h1, ← h2]; exact hc1 c o hcr
      | ok u T1 =>
        obtain ⟨s1, r1, k1, n1, sol1, w1⟩ := hc2 T1 hcr
        simp only
        -- the entry
        have hen : (∀ c o, entry E m ks T1 = .bad c o → Fails E s1 T1 c o) ∧ ∀ k sp T2, entry E m ks T1 = .ok (k, sp) T2 →
            ∃ s2, run E s1 T1 = run E s2 T2 ∧ s2.sk = s.sk ∧ s2.nd = (if m = true then s.nd.modify a (Nd.addKey k sp) else s.nd) ∧ Sol T2 ∧ CanV E s2 T2 := by
          unfold entry
          cases m with
          | false =>
            rw [if_pos rfl]
            refine ⟨fun c o h => by (cases h), fun k sp T2 h => ?_⟩
            injection h with _ h
            subst h
            refine ⟨s1, rfl, k1, by rw [if_neg (by decide)]; exact n1, sol1, ?_⟩
            rcases w1 with ⟨_, w1, e1⟩ | w1
            · refine .inr ⟨w1, ⟨a, S, k1.trans hsk⟩, fun t' r' e2 => ?_⟩
              rw [e1] at e2
              injection e2 with e2 _
              rw [← e2]
              cases h93 : E.mk? t 93 with
              | false => rfl
              | true => exact absurd h93 he
            · exact .inl w1
          | true =>
            rw [if_neg (by decide)]
            have hwk : s1.wd &&& 1 = 0 ∧ s1.wd &&& 2 ≠ 0 ∧ s1.wd &&& 3 ≠ 0 ∧ s1.wd &&& 4 = 0 ∧ s1.wd &&& 8 = 0 ∧ s1.wd ≠ 0 := by
              rcases w1 with ⟨_, w1, _⟩ | w1 <;> (rw [w1]; decide)
            obtain ⟨q1, q2, q3, q4, q8, q0⟩ := hwk
            cases T1 with
            | nil =>
              refine ⟨fun c o h => ?_, fun k sp T2 h => by cases h⟩
              injection h with h1 h2
              exact .inr ⟨s1, rfl, q0, by rw [← h1, ← h2]⟩
            | cons y T1 =>
              have hky := sol1 y (List.mem_cons_self ..)
              show (∀ c o, (if y.1 = 4 then _ else _) = _ → _) ∧ ∀ k sp T2, (if y.1 = 4 then _ else _) = _ → _
              by_cases y4 : y.1 = 4
              · rw [if_pos y4]
                cases hq : E.rq (E.by y) with
                | error ca =>
                  obtain ⟨c0, o0⟩ := ca
                  refine ⟨fun c o h => ?_, fun k sp T2 h => by cases h⟩
                  injection h with h1 h2
                  rw [← h1, ← h2]
                  exact .inl (run_bad (by unfold step; rw [if_neg (by omega), if_neg (by omega), if_pos y4, if_neg q3, hq]))
                | ok z =>
                  have hka : keysAt s1.nd a = ks := by unfold keysAt; rw [n1, hx]; exact hkx rfl
                  have st0 : step E s1 y = s1.key y z := by
                    unfold step; rw [if_neg (by omega), if_neg (by omega), if_pos y4, if_neg q3, hq]; show (if _ then _ else _) = _; rw [if_neg q2]
                  have st1 : s1.key y z = if z ∈ ks then .bad 5 y.2.1 else .ok { s1 with wd := 4, nd := s1.nd.modify a (Nd.addKey z y.2) } := by
                    unfold St.key; rw [k1, hsk]; show (if z ∈ keysAt s1.nd a then _ else _) = _; rw [hka]
                  show (∀ c o, (if z ∈ ks then _ else _) = _ → _) ∧ ∀ k sp T2, (if z ∈ ks then _ else _) = _ → _
                  by_cases hz : z ∈ ks
                  · rw [if_pos hz] at st1 ⊢
                    refine ⟨fun c o h => ?_, fun k sp T2 h => by cases h⟩
                    injection h with h1 h2
                    rw [← h1, ← h2]
                    exact .inl (run_bad (st0.trans st1))
                  · rw [if_neg hz] at st1 ⊢
                    have stk := st0.trans st1
                    cases T1 with
                    | nil =>
                      refine ⟨fun c o h => ?_, fun k sp T2 h => by cases h⟩
                      injection h with h1 h2
                      exact .inr ⟨_, by rw [run_cons stk]; rfl, by show (4 : Nat) ≠ 0; decide, by rw [← h1, ← h2]⟩
                    | cons u T1 =>
                      show (∀ c o, (if E.mk? u 58 = true then _ else _) = _ → _) ∧ ∀ k sp T2, (if E.mk? u 58 = true then _ else _) = _ → _
                      have hku := sol1 u (List.mem_cons_of_mem _ (List.mem_cons_self ..))
                      obtain ⟨s2, hs2⟩ : ∃ s2 : St, s2 = { s1 with wd := 4, nd := s1.nd.modify a (Nd.addKey z y.2) } := ⟨_, rfl⟩
                      rw [← hs2] at stk
                      have w2 : s2.wd = 4 := by rw [hs2]
                      by_cases h58 : E.mk? u 58 = true
                      · rw [if_pos h58]
                        refine ⟨fun c o h => by (cases h), fun k sp T2 h => ?_⟩
                        injection h with h1 h2
                        injection h1 with h3 h4
                        have kk := mk_kind h58
                        have st : step E s2 u = .ok { s2 with wd := 1 } := by
                          unfold step
                          rw [if_neg (by omega), if_neg (by omega), if_neg (by omega), if_pos kk, mk_one h58 (show (58 : Int) ≠ 91 by decide), mk_one h58 (show (58 : Int) ≠ 123 by decide), h58]
                          rw [if_neg (by decide), if_neg (by decide), if_pos rfl, if_neg (by rw [w2]; decide)]
                        refine ⟨{ s2 with wd := 1 }, by rw [run_cons stk, run_cons st, h2], by rw [hs2]; exact k1, by rw [if_pos rfl, hs2, ← h3, ← h4]; show s1.nd.modify _ _ = _; rw [n1], by rw [← h2]; exact sol1.tail.tail, .inl rfl⟩
                      · rw [if_neg h58]
                        refine ⟨fun c o h => ?_, fun k sp T2 h => by cases h⟩
                        injection h with h1 h2
                        rw [← h1, ← h2]
                        have sk2 : s2.sk = (a, true) :: S := by rw [hs2]; exact k1.trans hsk
                        refine Fails.cons stk (.inl (run_bad ?_))
                        unfold step
                        by_cases k2 : u.1 = 2
                        · rw [if_pos k2, if_pos (by rw [w2]; decide)]
                        rw [if_neg k2]
                        by_cases k3 : u.1 = 3
                        · rw [if_pos k3, if_pos (by rw [w2]; decide)]
                        rw [if_neg k3]
                        by_cases k4 : u.1 = 4
                        · rw [if_pos k4, if_pos (by rw [w2]; decide)]
                        rw [if_neg k4, if_pos (by omega)]
                        by_cases h91 : E.mk? u 91 = true
                        · rw [if_pos h91]; unfold St.begin_; rw [if_pos (by rw [w2]; decide)]
                        rw [if_neg h91]
                        by_cases h123 : E.mk? u 123 = true
                        · rw [if_pos h123]; unfold St.begin_; rw [if_pos (by rw [w2]; decide)]
                        rw [if_neg h123, if_neg h58]
                        by_cases h44 : E.mk? u 44 = true
                        · rw [if_pos h44, if_pos (by rw [w2]; decide)]
                        rw [if_neg h44]
                        unfold St.end_
                        rw [if_pos (by rw [w2]; decide)]
              · rw [if_neg y4]
                refine ⟨fun c o h => ?_, fun k sp T2 h => by cases h⟩
                injection h with h1 h2
                rw [← h1, ← h2]
                refine .inl (run_bad ?_)
                unfold step
                by_cases k2 : y.1 = 2
                · rw [if_pos k2, if_pos q1]
                rw [if_neg k2]
                by_cases k3 : y.1 = 3
                · rw [if_pos k3, if_pos q1]
                rw [if_neg k3, if_neg y4, if_pos (by omega)]
                by_cases h91 : E.mk? y 91 = true
                · rw [if_pos h91]; unfold St.begin_; rw [if_pos q1]
                rw [if_neg h91]
                by_cases h123 : E.mk? y 123 = true
                · rw [if_pos h123]; unfold St.begin_; rw [if_pos q1]
                rw [if_neg h123]
                by_cases h58 : E.mk? y 58 = true
                · rw [if_pos h58, if_pos q4]
                rw [if_neg h58]
                by_cases h44 : E.mk? y 44 = true
                · rw [if_pos h44, if_pos q8]
                rw [if_neg h44]
                unfold St.end_
                rcases w1 with ⟨_, w1, e1⟩ | w1
                · injection e1 with e1 _
                  rw [if_neg (by rw [w1]; decide), k1, hsk]
                  show (if E.mk? y (enM true) = true then _ else _) = _
                  rw [e1, if_neg he]
                · rw [if_pos (by rw [w1]; decide)]
        obtain ⟨he1, he2⟩ := hen
        cases her : entry E m ks T1 with
        | out => exact absurd her entry_out
        | bad c o =>
          refine ⟨fun is e r h => by (cases h), fun c' o' h => ?_⟩
          injection h with h1 h2
          rw [← h1, ← h2]
          have := he1 c o her
          unfold Fails at this ⊢
          rw [r1]; exact this
        | ok q T2 =>
          obtain ⟨k, sp⟩ := q
          obtain ⟨s2, r2, k2, n2, sol2, cv2⟩ := he2 k sp T2 her
          simp only
          have l2 : s2.nd.length = s.nd.length := by rw [n2]; split <;> simp
          obtain ⟨v1, v2⟩ := pv_run (E := E) f (d + 1) T2 s2 cv2 (by rw [k2, hsk, List.length_cons, hS]) (by omega) (fun a' m' S' e => by
            rw [k2, hsk] at e; injection e with e _; injection e with e _; rw [l2, ← e]; exact ha) sol2
          cases hvr : pv E f (d + 1) T2 with
          | out => exact ⟨fun is e r h => by (cases h), fun c a h => by cases h⟩
          | bad c o =>
            refine ⟨fun is e r h => by (cases h), fun c' o' h => ?_⟩
            injection h with h1 h2
            rw [← h1, ← h2]
            have := v2 c o hvr
            unfold Fails at this ⊢
            rw [r1, r2]; exact this
          | ok v T3 =>
            have r3 := v1 v T3 hvr
            simp only
            obtain ⟨s3, hs3⟩ : ∃ s3, s3 = s2.val v := ⟨_, rfl⟩
            rw [← hs3] at r3
            have hl3 := pv_less f (d + 1) T2 T3 v hvr
            have sol3 : Sol T3 := by
              obtain ⟨seg, e, _⟩ := pv_frs f (d + 1) T2 T3 v 0 hvr (by omega)
              exact fun u hu => sol2 u (by rw [e]; exact List.mem_append_right _ hu)
            have sk3 : s3.sk = (a, m) :: S := by rw [hs3]; exact k2.trans hsk
            have nd3 : s3.nd = (s2.nd.modify a (Nd.addSub s.nd.length)) ++ v.nds s.nd.length := by
              rw [hs3]; unfold St.val topSub; rw [k2, hsk, l2]
            have x3 : ∃ x, s3.nd[a]? = some x ∧ (m = true → x.keys = ks ++ [k]) := by
              rw [nd3, List.getElem?_append_left (by rw [List.length_modify, l2]; exact ha), List.getElem?_modify, n2]
              cases m with
              | false => exact ⟨Nd.addSub s.nd.length x, by rw [if_neg (by decide), hx]; show some (if a = a then _ else _) = _; rw [if_pos rfl], fun h => by cases h⟩
              | true =>
                refine ⟨Nd.addSub s.nd.length (Nd.addKey k sp x), by rw [if_pos rfl, List.getElem?_modify, hx]; simp, fun _ => ?_⟩
                show x.keys ++ [k] = _
                rw [hkx rfl]
            obtain ⟨i1, i2⟩ := pl_run (E := E) f d m false (ks ++ [k]) T3 s3 a S sk3 hS (by rw [hs3]; unfold St.val; rw [k2, hsk]; rfl) x3 hd sol3
            cases hlr : pl E f d m false (ks ++ [k]) T3 with
            | out => exact ⟨fun is e r h => by (cases h), fun c a h => by cases h⟩
            | bad c o =>
              refine ⟨fun is e r h => by (cases h), fun c' o' h => ?_⟩
              injection h with h1 h2
              rw [← h1, ← h2]
              have := i2 c o hlr
              unfold Fails at this ⊢
              rw [r1, r2, r3]; exact this
            | ok q T4 =>
              obtain ⟨is, e⟩ := q
              refine ⟨fun is' e' r h => ?_, fun c a h => by cases h⟩
              injection h with h1 h2
              injection h1 with h3 h4
              rw [r1, r2, r3, i1 is e T4 hlr, ← h2, ← h3, ← h4]
              congr 1
              unfold St.close
              congr 1
              have l3 : s3.nd.length = s.nd.length + v.size := by
                rw [nd3, List.length_append, List.length_modify, l2, JV.nds_len]
              rw [l3, nd3, modify_left (by rw [List.length_modify, l2]; exact ha), List.append_assoc, JI.nds]
              congr 1
              rw [List.modify_modify_eq, n2]
              cases m with
              | false =>
                rw [if_neg (by decide)]
                congr 1
                funext y
                simp [Nd.fill, Nd.addSub, JI.subs]
              | true =>
                rw [if_pos rfl, List.modify_modify_eq]
                congr 1
                funext y
                simp [Nd.fill, Nd.addSub, Nd.addKey, JI.keys, JI.spots, JI.subs]
end
end Jt
end Go.Proofs.YtdclhepjoifpiaaGreatDoor
