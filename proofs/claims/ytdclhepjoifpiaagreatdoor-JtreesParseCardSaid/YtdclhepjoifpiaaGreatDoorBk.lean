/- JSON documents as lists: nodes from another number on, and of places later; what a node's subs are. -/
import Derived.Test.YtdclhepjoifpiaaGreatDoorBj
namespace Go.Proofs.YtdclhepjoifpiaaGreatDoor
open Go.RowKit
namespace Jt

/-- A node of which the subs' numbers are so much greater. -/
def Nd.on (n : Nat) (x : Nd) : Nd := { x with subs := x.subs.map (· + n) }
/-- A node of places so much later. -/
def Nd.up (p : Nat) (x : Nd) : Nd := { x with span := up2 p x.span, spots := x.spots.map (up2 p) }
theorem JV.size_up (p : Nat) : ∀ v : JV, (v.up p).size = v.size := by
  have key : ∀ (v : JV), (v.up p).size = v.size := fun v => by
    refine JV.rec (motive_1 := fun v => (v.up p).size = v.size) (motive_2 := fun is => ∀ m, (is.up p m).size = is.size) ?_ ?_ ?_ ?_ v
    · intro k t sp; rw [JV.up, JV.size, JV.size]
    · intro m sp is ih; rw [JV.up, JV.size, JV.size, ih]
    · intro m; rw [JI.up]
    · intro k s v r ih1 ih2 m; rw [JI.up, JI.size, JI.size, ih1, ih2]
  exact key
theorem subs_on (n : Nat) : ∀ (is : JI) (s : Nat), is.subs (s + n) = (is.subs s).map (· + n)
  | .nil, _ => by rw [JI.subs, JI.subs]; rfl
  | .cons _ _ v r, s => by
    rw [JI.subs, JI.subs, List.map_cons, ← subs_on n r (s + v.size), show s + n + v.size = s + v.size + n by omega]
mutual
theorem JV.nds_on (n : Nat) : ∀ (v : JV) (s : Nat), v.nds (s + n) = (v.nds s).map (Nd.on n)
  | .sc _ _ _, _ => by rw [JV.nds, JV.nds]; rfl
  | .box m sp is, s => by
    rw [JV.nds, JV.nds, List.map_cons, show s + n + 1 = s + 1 + n by omega, JI.nds_on n is (s + 1), subs_on n is (s + 1)]; rfl
theorem JI.nds_on (n : Nat) : ∀ (is : JI) (s : Nat), is.nds (s + n) = (is.nds s).map (Nd.on n)
  | .nil, _ => by rw [JI.nds, JI.nds]; rfl
  | .cons _ _ v r, s => by
    rw [JI.nds, JI.nds, List.map_append, JV.nds_on n v s, show s + n + v.size = s + v.size + n by omega, JI.nds_on n r (s + v.size)]
end
theorem keys_up (p : Nat) (m : Bool) : ∀ is : JI, (is.up p m).keys = is.keys
  | .nil => by rw [JI.up]
  | .cons _ _ _ r => by rw [JI.up, JI.keys, JI.keys, keys_up p m r]
theorem spots_up (p : Nat) : ∀ is : JI, (is.up p true).spots = is.spots.map (up2 p)
  | .nil => by rw [JI.up, JI.spots]; rfl
  | .cons _ _ _ r => by rw [JI.up, JI.spots, JI.spots, spots_up p r]; rfl
theorem subs_up (p : Nat) (m : Bool) : ∀ (is : JI) (s : Nat), (is.up p m).subs s = is.subs s
  | .nil, _ => by rw [JI.up]
  | .cons _ _ v r, s => by rw [JI.up, JI.subs, JI.subs, JV.size_up, subs_up p m r]
mutual
theorem JV.nds_up (p : Nat) : ∀ (v : JV) (s : Nat), (v.up p).nds s = (v.nds s).map (Nd.up p)
  | .sc _ _ _, _ => by rw [JV.up, JV.nds, JV.nds]; rfl
  | .box m sp is, s => by
    rw [JV.up, JV.nds, JV.nds, List.map_cons, JI.nds_up p m is (s + 1), keys_up, subs_up]
    cases m
    · rfl
    · rw [spots_up]; rfl
theorem JI.nds_up (p : Nat) (m : Bool) : ∀ (is : JI) (s : Nat), (is.up p m).nds s = (is.nds s).map (Nd.up p)
  | .nil, _ => by rw [JI.up, JI.nds]; rfl
  | .cons _ _ v r, s => by rw [JI.up, JI.nds, JI.nds, List.map_append, JV.nds_up p v s, JV.size_up, JI.nds_up p m r]
end
/-- What a node's subs are: the nodes of the values that stand in it. -/
theorem subs_at : ∀ (is : JI) (s j : Nat), j ∈ is.subs s → ∃ w ∈ is.vals, s ≤ j ∧ is.at_ (j - s) = some w
  | .nil, _, _, h => by rw [JI.subs] at h; cases h
  | .cons _ _ v r, s, j, h => by
    rw [JI.subs] at h
    rcases List.mem_cons.1 h with rfl | h
    · refine ⟨v, List.mem_cons_self .., Nat.le_refl _, ?_⟩
      rw [Nat.sub_self, JI.at_, if_pos v.size_pos]
      cases v <;> rw [JV.at_]
    · obtain ⟨w, hw, h1, h2⟩ := subs_at r (s + v.size) j h
      refine ⟨w, List.mem_cons_of_mem _ hw, by omega, ?_⟩
      rw [JI.at_, if_neg (by omega), show j - s - v.size = j - (s + v.size) by omega, h2]
/-- A node of a document's tree. -/
theorem nd_at {v u : JV} {n s : Nat} (h : v.at_ n = some u) : ∃ x rest, (v.nds s)[n]? = some x ∧ u.nds (s + n) = x :: rest ∧ x.span = u.span := by
  obtain ⟨_, rest, h2⟩ := JV.at_nds v n s u h
  have h3 : (v.nds s)[n]? = ((v.nds s).drop n)[0]? := by rw [List.getElem?_drop, Nat.add_zero]
  cases u with
  | sc k t sp =>
    rw [JV.nds] at h2
    refine ⟨_, [], by rw [h3, h2]; rfl, by rw [JV.nds], rfl⟩
  | box m sp is =>
    rw [JV.nds] at h2
    exact ⟨_, _, by rw [h3, h2]; rfl, by rw [JV.nds], rfl⟩
end Jt
end Go.Proofs.YtdclhepjoifpiaaGreatDoor
/- JSON documents as lists: lists and maps within one another: their tokens. -/
namespace Go.Proofs.YtdclhepjoifpiaaGreatDoor
open Go.RowKit
namespace Jt
open Jk (tks nx TK tk_of tk_len tks_tok tks_bad tks_end)

/-- So many lists, and maps, within one another, round a nought. -/
def nst : List Bool → Bs
  | [] => [48]
  | false :: r => 91 :: (nst r ++ [93])
  | true :: r => 123 :: 34 :: 34 :: 58 :: (nst r ++ [125])
def tkN : List Bool → Nat → List Tok
  | [], i => [(3, i, i + 1)]
  | false :: r, i => (1, i, i + 1) :: (tkN r (i + 1) ++ [(1, i + 1 + (nst r).length, i + 1 + (nst r).length + 1)])
  | true :: r, i => (1, i, i + 1) :: (4, i + 1, i + 3) :: (1, i + 3, i + 4) :: (tkN r (i + 4) ++ [(1, i + 4 + (nst r).length, i + 4 + (nst r).length + 1)])
/-- What stands behind a value here: nothing, or an end. -/
def fin : Bs → Bool
  | [] => true
  | c :: _ => c == 93 || c == 125
theorem tk_mark {l : Bs} {i : Nat} {c : UInt8} {r : Bs} (h : l.drop i = c :: r) (hc : Jk.mrk (c.toNat : Int) = true) : TK (l.drop i) 1 1 := by
  rw [h]; exact .mark hc
theorem drop_on {l : Bs} {i n : Nat} {a r : Bs} (h : l.drop i = a ++ r) (hn : a.length = n) : l.drop (i + n) = r := by
  rw [← List.drop_drop, h, ← hn, List.drop_left]
theorem tk_nought {r : Bs} (h : fin r = true) : TK (48 :: r) 3 1 := by
  have hm : Jk.mnE (48 :: r) = 0 := rfl
  have hi : Jk.intE (48 :: r) 0 = 1 := rfl
  have h1 : bt (48 :: r) 1 = bt r 0 := rfl
  have hr : bt r 0 = 0 ∨ bt r 0 = 93 ∨ bt r 0 = 125 := by
    cases r with
    | nil => exact .inl rfl
    | cons c r =>
      unfold fin at h
      rw [Bool.or_eq_true, beq_iff_eq, beq_iff_eq] at h
      rcases h with rfl | rfl
      · exact .inr (.inl rfl)
      · exact .inr (.inr rfl)
  have hf : Jk.frE (48 :: r) 1 = 1 := by unfold Jk.frE; rw [h1, if_neg (by omega)]
  have he : Jk.exE (48 :: r) 1 = 1 := by unfold Jk.exE; rw [h1, if_neg (by omega)]
  have e : Jk.nmE (48 :: r) = 1 := by unfold Jk.nmE; rw [hm, hi, hf, he]
  have := TK.num (l := 48 :: r) (.inr rfl) rfl
  rwa [e] at this
theorem tk_empty {r : Bs} : TK (34 :: 34 :: r) 4 2 := by
  refine .str 2 rfl ?_
  rw [Jk.strE, dif_pos (by simp)]
  rfl
theorem tks_nst {l : Bs} : ∀ (ms : List Bool) (i : Nat) (rest : Bs), l.drop i = nst ms ++ rest → fin rest = true →
    (tks l i).1 = tkN ms i ++ (tks l (i + (nst ms).length)).1 ∧ (tks l i).2 = (tks l (i + (nst ms).length)).2
  | [], i, rest, h, hf => by
    have ht : TK (l.drop i) 3 1 := by rw [h]; exact tk_nought hf
    rw [tks_tok ht]
    exact ⟨rfl, rfl⟩
  | false :: ms, i, rest, h, hf => by
    have h0 : l.drop i = 91 :: (nst ms ++ (93 :: rest)) := by rw [h, nst]; simp
    rw [tks_tok (tk_mark h0 rfl)]
    have h1 : l.drop (i + 1) = nst ms ++ (93 :: rest) := drop_on (a := [91]) h0 rfl
    obtain ⟨q1, q2⟩ := tks_nst ms (i + 1) (93 :: rest) h1 rfl
    have h2 : l.drop (i + 1 + (nst ms).length) = 93 :: rest := drop_on h1 rfl
    rw [tks_tok (tk_mark h2 rfl)] at q1 q2
    simp only
    have e : i + (nst (false :: ms)).length = i + 1 + (nst ms).length + 1 := by rw [nst]; simp; omega
    rw [q1, q2, e, tkN]
    exact ⟨by simp, rfl⟩
  | true :: ms, i, rest, h, hf => by
    have h0 : l.drop i = 123 :: 34 :: 34 :: 58 :: (nst ms ++ (125 :: rest)) := by rw [h, nst]; simp
    rw [tks_tok (tk_mark h0 rfl)]
    have h1 : l.drop (i + 1) = 34 :: 34 :: 58 :: (nst ms ++ (125 :: rest)) := drop_on (a := [123]) h0 rfl
    have t1 : TK (l.drop (i + 1)) 4 2 := by rw [h1]; exact tk_empty
    have h2 : l.drop (i + 1 + 2) = 58 :: (nst ms ++ (125 :: rest)) := drop_on (a := [34, 34]) h1 rfl
    have h3 : l.drop (i + 1 + 2 + 1) = nst ms ++ (125 :: rest) := drop_on (a := [58]) h2 rfl
    rw [show i + 1 + 2 + 1 = i + 4 by omega] at h3
    obtain ⟨q1, q2⟩ := tks_nst ms (i + 4) (125 :: rest) h3 rfl
    have h4 : l.drop (i + 4 + (nst ms).length) = 125 :: rest := drop_on h3 rfl
    rw [tks_tok (tk_mark h4 rfl)] at q1 q2
    have e2 := tks_tok t1
    have e3 := tks_tok (tk_mark h2 rfl)
    simp only
    rw [e2, e3, show i + 1 + 2 + 1 = i + 4 by omega]
    simp only
    have e : i + (nst (true :: ms)).length = i + 4 + (nst ms).length + 1 := by rw [nst]; simp; omega
    rw [q1, q2, e, tkN]
    exact ⟨by simp [show i + 1 + 2 = i + 3 by omega], rfl⟩
end Jt
end Go.Proofs.YtdclhepjoifpiaaGreatDoor
/- JSON documents as lists: lists and maps within one another: as many as may be, and more. -/
namespace Go.Proofs.YtdclhepjoifpiaaGreatDoor
open Go.RowKit
namespace Jt

theorem by_at {E : Env} {i n k : Nat} {a b : Bs} (h : E.l.drop i = a ++ b) (hn : a.length = n) : E.by (k, i, i + n) = a := by
  unfold Env.by
  show (E.l.take (i + n)).drop i = a
  rw [List.drop_take, Nat.add_sub_cancel_left, h, ← hn, List.take_left]
theorem mk_at {E : Env} {i : Nat} {c : UInt8} {b : Bs} (h : E.l.drop i = c :: b) (x : Int) : E.mk? (1, i, i + 1) x = decide ((c.toNat : Int) = x) := by
  unfold Env.mk?
  rw [by_at (n := 1) (a := [c]) h rfl]
  have e : bt [c] 0 = (c.toNat : Int) := rfl
  rw [e]
  by_cases hx : (c.toNat : Int) = x <;> simp [hx]
/-- The bytes ahead of the one that is too deep. -/
def off : Nat → List Bool → Nat
  | 0, _ => 0
  | _ + 1, [] => 0
  | k + 1, false :: r => 1 + off k r
  | k + 1, true :: r => 4 + off k r
section
variable {E : Env} {s0 : Bs} (hrn : E.rn [48] = .ok s0) (hrq : E.rq [34, 34] = .ok [])
include hrn hrq
theorem pv_nst : ∀ (ms : List Bool) (i d f : Nat) (rest : Bs) (r : List Tok), E.l.drop i = nst ms ++ rest → 2 * (tkN ms i).length + 1 ≤ f → d ≤ 256 →
    (d + ms.length ≤ 256 → ∃ v, pv E f d (tkN ms i ++ r) = .ok v r ∧ v.size = ms.length + 1) ∧
    (256 < d + ms.length → pv E f d (tkN ms i ++ r) = .bad 4 (i + off (256 - d) ms))
  | [], i, d, f, rest, r, h, hf, hd => by
    obtain ⟨f, rfl⟩ : ∃ f0, f = f0 + 1 := ⟨f - 1, by omega⟩
    refine ⟨fun _ => ⟨.sc 2 s0 (i, i + 1), ?_, by rw [JV.size]; rfl⟩, fun hx => by rw [List.length_nil] at hx; omega⟩
    rw [tkN, List.singleton_append, pv, if_neg (by simp), if_pos rfl, by_at (n := 1) (a := [48]) h rfl, hrn]
  | false :: ms, i, d, f, rest, r, h, hf, hd => by
    have h0 : E.l.drop i = 91 :: (nst ms ++ (93 :: rest)) := by rw [h, nst]; simp
    have h1 : E.l.drop (i + 1) = nst ms ++ (93 :: rest) := drop_on (a := [91]) h0 rfl
    have h2 : E.l.drop (i + 1 + (nst ms).length) = 93 :: rest := drop_on h1 rfl
    rw [tkN] at hf ⊢
    simp only [List.length_cons, List.length_append, List.length_nil] at hf
    obtain ⟨f, rfl⟩ : ∃ f0, f = f0 + 1 := ⟨f - 1, by omega⟩
    obtain ⟨f, rfl⟩ : ∃ f0, f = f0 + 1 := ⟨f - 1, by omega⟩
    have hm1 := mk_at (E := E) h0 91
    have hm2 := mk_at (E := E) h0 123
    have key : d < 256 → pv E (f + 1 + 1) d ((1, i, i + 1) :: (tkN ms (i + 1) ++ [(1, i + 1 + (nst ms).length, i + 1 + (nst ms).length + 1)]) ++ r) =
        match pl E (f + 1) d false true [] (tkN ms (i + 1) ++ ((1, i + 1 + (nst ms).length, i + 1 + (nst ms).length + 1) :: r)) with
        | .ok (is, e) r2 => .ok (.box false (i, e) is) r2
        | .bad c a => .bad c a
        | .out => .out := fun hlt => by
      rw [List.cons_append, pv, if_neg (by simp), if_neg (by simp), if_neg (by simp), hm1, hm2, if_pos (.inl rfl), if_neg (by omega), show decide (((91 : UInt8).toNat : Int) = 123) = false from rfl, List.append_assoc]
      rfl
    have hin : pl E (f + 1) d false true [] (tkN ms (i + 1) ++ ((1, i + 1 + (nst ms).length, i + 1 + (nst ms).length + 1) :: r)) =
        match pv E f (d + 1) (tkN ms (i + 1) ++ ((1, i + 1 + (nst ms).length, i + 1 + (nst ms).length + 1) :: r)) with
        | .bad c a => .bad c a
        | .out => .out
        | .ok v T3 => (match pl E f d false false ([] ++ [[]]) T3 with | .bad c a => .bad c a | .out => .out | .ok (is, e) T4 => .ok (.cons [] (0, 0) v is, e) T4) := by
      -- the first token is no end
      have hne : ∃ t T, tkN ms (i + 1) ++ ((1, i + 1 + (nst ms).length, i + 1 + (nst ms).length + 1) :: r) = t :: T ∧ E.mk? t 93 = false := by
        cases ms with
        | nil => exact ⟨_, _, rfl, by unfold Env.mk?; simp⟩
        | cons b ms =>
          cases b
          · refine ⟨_, _, rfl, ?_⟩
            have := mk_at (E := E) (i := i + 1) (c := 91) (b := nst ms ++ [93] ++ (93 :: rest)) (by rw [h1, nst]; simp) 93
            rw [this]; rfl
          · refine ⟨_, _, rfl, ?_⟩
            have := mk_at (E := E) (i := i + 1) (c := 123) (b := 34 :: 34 :: 58 :: (nst ms ++ [125] ++ (93 :: rest))) (by rw [h1, nst]; simp) 93
            rw [this]; rfl
      obtain ⟨t, T, e1, e2⟩ := hne
      rw [e1, pl, if_neg (by rw [show enM false = 93 from rfl, e2]; simp)]
      rfl
    have ih := pv_nst ms (i + 1) (d + 1) f (93 :: rest) ((1, i + 1 + (nst ms).length, i + 1 + (nst ms).length + 1) :: r) h1 (by omega)
    refine ⟨fun hx => ?_, fun hx => ?_⟩
    · rw [List.length_cons] at hx
      obtain ⟨v, q1, q2⟩ := (ih (by omega)).1 (by omega)
      have hend : ∀ ks, pl E f d false false ks ((1, i + 1 + (nst ms).length, i + 1 + (nst ms).length + 1) :: r) = .ok (.nil, i + 1 + (nst ms).length + 1) r := fun ks => by
        obtain ⟨f, rfl⟩ : ∃ f0, f = f0 + 1 := ⟨f - 1, by omega⟩
        rw [pl, if_pos (by rw [mk_at h2]; rfl)]
      refine ⟨.box false (i, i + 1 + (nst ms).length + 1) (.cons [] (0, 0) v .nil), ?_, ?_⟩
      · rw [key (by omega), hin, q1]
        simp only
        rw [hend]
      · rw [JV.size, JI.size, JI.size, q2, List.length_cons]
    · rw [List.length_cons] at hx
      by_cases hd6 : d = 256
      · rw [List.cons_append, pv, if_neg (by simp), if_neg (by simp), if_neg (by simp), hm1, if_pos (.inl rfl), if_pos hd6, hd6]; rfl
      · have q := (ih (by omega)).2 (by omega)
        rw [key (by omega), hin, q]
        simp only
        obtain ⟨k, hk⟩ : ∃ k, 256 - d = k + 1 := ⟨255 - d, by omega⟩
        rw [hk, off, show 256 - (d + 1) = k by omega, Nat.add_assoc]
  | true :: ms, i, d, f, rest, r, h, hf, hd => by
    have h0 : E.l.drop i = 123 :: 34 :: 34 :: 58 :: (nst ms ++ (125 :: rest)) := by rw [h, nst]; simp
    have h1 : E.l.drop (i + 1) = 34 :: 34 :: 58 :: (nst ms ++ (125 :: rest)) := drop_on (a := [123]) h0 rfl
    have h3 : E.l.drop (i + 3) = 58 :: (nst ms ++ (125 :: rest)) := by
      have := drop_on (n := 2) (a := [34, 34]) h1 rfl
      exact this
    have h4 : E.l.drop (i + 4) = nst ms ++ (125 :: rest) := by
      have := drop_on (n := 1) (a := [58]) h3 rfl
      exact this
    have h5 : E.l.drop (i + 4 + (nst ms).length) = 125 :: rest := drop_on h4 rfl
    rw [tkN] at hf ⊢
    simp only [List.length_cons, List.length_append, List.length_nil] at hf
    obtain ⟨f, rfl⟩ : ∃ f0, f = f0 + 1 := ⟨f - 1, by omega⟩
    obtain ⟨f, rfl⟩ : ∃ f0, f = f0 + 1 := ⟨f - 1, by omega⟩
    have hm1 := mk_at (E := E) h0 91
    have hm2 := mk_at (E := E) h0 123
    have hm3 : E.mk? (1, i + 3, i + 4) 58 = true := by
      have := mk_at (E := E) h3 58
      rwa [show i + 3 + 1 = i + 4 by omega] at this
    have hb : E.by (4, i + 1, i + 3) = [34, 34] := by
      have := by_at (E := E) (k := 4) (n := 2) (a := [34, 34]) h1 rfl
      rwa [show i + 1 + 2 = i + 3 by omega] at this
    have key : d < 256 → pv E (f + 1 + 1) d ((1, i, i + 1) :: (4, i + 1, i + 3) :: (1, i + 3, i + 4) :: (tkN ms (i + 4) ++ [(1, i + 4 + (nst ms).length, i + 4 + (nst ms).length + 1)]) ++ r) =
        match pl E (f + 1) d true true [] ((4, i + 1, i + 3) :: (1, i + 3, i + 4) :: (tkN ms (i + 4) ++ ((1, i + 4 + (nst ms).length, i + 4 + (nst ms).length + 1) :: r))) with
        | .ok (is, e) r2 => .ok (.box true (i, e) is) r2
        | .bad c a => .bad c a
        | .out => .out := fun hlt => by
      rw [List.cons_append, List.cons_append, List.cons_append, pv, if_neg (by simp), if_neg (by simp), if_neg (by simp), hm1, hm2, if_pos (.inr rfl), if_neg (by omega), show decide (((123 : UInt8).toNat : Int) = 123) = true from rfl, List.append_assoc]
      rfl
    have hin : pl E (f + 1) d true true [] ((4, i + 1, i + 3) :: (1, i + 3, i + 4) :: (tkN ms (i + 4) ++ ((1, i + 4 + (nst ms).length, i + 4 + (nst ms).length + 1) :: r))) =
        match pv E f (d + 1) (tkN ms (i + 4) ++ ((1, i + 4 + (nst ms).length, i + 4 + (nst ms).length + 1) :: r)) with
        | .bad c a => .bad c a
        | .out => .out
        | .ok v T3 => (match pl E f d true false ([] ++ [[]]) T3 with | .bad c a => .bad c a | .out => .out | .ok (is, e) T4 => .ok (.cons [] (i + 1, i + 3) v is, e) T4) := by
      have he : entry E true [] ((4, i + 1, i + 3) :: (1, i + 3, i + 4) :: (tkN ms (i + 4) ++ ((1, i + 4 + (nst ms).length, i + 4 + (nst ms).length + 1) :: r))) = .ok ([], (i + 1, i + 3)) (tkN ms (i + 4) ++ ((1, i + 4 + (nst ms).length, i + 4 + (nst ms).length + 1) :: r)) := by
        unfold entry
        rw [if_neg (by simp)]
        simp only
        rw [if_pos trivial, hb, hrq]
        simp only
        rw [if_neg (by simp), if_pos hm3]
      rw [pl, if_neg (by unfold Env.mk?; simp), show comma E true ((4, i + 1, i + 3) :: (1, i + 3, i + 4) :: (tkN ms (i + 4) ++ ((1, i + 4 + (nst ms).length, i + 4 + (nst ms).length + 1) :: r))) = .ok () ((4, i + 1, i + 3) :: (1, i + 3, i + 4) :: (tkN ms (i + 4) ++ ((1, i + 4 + (nst ms).length, i + 4 + (nst ms).length + 1) :: r))) from rfl]
      simp only
      rw [he]
      rfl
    have ih := pv_nst ms (i + 4) (d + 1) f (125 :: rest) ((1, i + 4 + (nst ms).length, i + 4 + (nst ms).length + 1) :: r) h4 (by omega)
    refine ⟨fun hx => ?_, fun hx => ?_⟩
    · rw [List.length_cons] at hx
      obtain ⟨v, q1, q2⟩ := (ih (by omega)).1 (by omega)
      have hend : ∀ ks, pl E f d true false ks ((1, i + 4 + (nst ms).length, i + 4 + (nst ms).length + 1) :: r) = .ok (.nil, i + 4 + (nst ms).length + 1) r := fun ks => by
        obtain ⟨f, rfl⟩ : ∃ f0, f = f0 + 1 := ⟨f - 1, by omega⟩
        rw [pl, if_pos (by rw [mk_at h5]; rfl)]
      refine ⟨.box true (i, i + 4 + (nst ms).length + 1) (.cons [] (i + 1, i + 3) v .nil), ?_, ?_⟩
      · rw [key (by omega), hin, q1]
        simp only
        rw [hend]
      · rw [JV.size, JI.size, JI.size, q2, List.length_cons]
    · rw [List.length_cons] at hx
      by_cases hd6 : d = 256
      · rw [List.cons_append, pv, if_neg (by simp), if_neg (by simp), if_neg (by simp), hm2, if_pos (.inr rfl), if_pos hd6, hd6]; rfl
      · have q := (ih (by omega)).2 (by omega)
        rw [key (by omega), hin, q]
        simp only
        obtain ⟨k, hk⟩ : ∃ k, 256 - d = k + 1 := ⟨255 - d, by omega⟩
        rw [hk, off, show 256 - (d + 1) = k by omega, Nat.add_assoc]
end
end Jt
end Go.Proofs.YtdclhepjoifpiaaGreatDoor
