/- The document's parser: what value and inside leave, as lists. -/
import Derived.Test.YtdclhepjoifpiaaGreatDoorMqm
import Derived.Test.YtdclhepjoifpiaaGreatDoorKym
namespace Go.Proofs.YtdclhepjoifpiaaGreatDoor
open Go.RowKit
namespace Jt
namespace R9
open Jk (lt_blk below_tr TkR fvO)

/-- What value leaves. -/
def ValP (W : World) (P : Nat) (bv lv : Value) (en : Nat × Nat) (a : Nat) (X : List Nx) (l : Bs) (S : List Tok) (d f : Nat) (e : Ending) (w' : World) : Prop :=
  match pv (envL l en) f d (S.drop a) with
  | .ok v r => e = .returned (.tuple #[.int .i64 (X.length : Nat), .bool true]) ∧ ∃ a' tv' lab' X', RP W w' P bv lv en a' tv' 0 0 lab' X' ∧ S.drop a' = r ∧ X'.map Nx.nd = X.map Nx.nd ++ v.nds X.length ∧ a < a' ∧ a' ≤ S.length
  | .bad c k => ∃ z : Int, e = .returned (.tuple #[.int .i64 z, .bool false]) ∧ ∃ a' tv' lab' X', RP W w' P bv lv en a' tv' c k lab' X'
  | .out => True
/-- value, with so many steps. -/
def ValC (W : World) (P : Nat) (bv lv : Value) (en : Nat × Nat) (l : Bs) (S : List Tok) (f : Nat) : Prop :=
  ∀ (w : World) (a : Nat) (tv : Value) (lab : Nat → Own) (X : List Nx) (d : Nat), d ≤ 256 → 2 * (S.drop a).length + 1 ≤ f → RP W w P bv lv en a tv 0 0 lab X →
    Calls Tryz.prog 24 #[.pointer (some ⟨P, 0, none⟩), .int .i64 (d : Nat)] w (ValP W P bv lv en a X l S d f)
/-- What inside leaves, from between two items on. -/
def InsG (W : World) (P : Nat) (bv lv : Value) (en : Nat × Nat) (l : Bs) (S : List Tok) (d : Nat) (m : Bool) (me : Nat) (f : Nat) (first : Bool) (ks : List Bs) (X : List Nx) (a : Nat) (e : Ending) (w' : World) : Prop :=
  match pl (envL l en) f d m first ks (S.drop a) with
  | .ok (is, z) r => e = .returned (.bool true) ∧ ∃ a' tv' lab' X', RP W w' P bv lv en a' tv' 0 0 lab' X' ∧ S.drop a' = r ∧ X'.map Nx.nd = (X.map Nx.nd).modify me (Nd.fill m is z X.length) ++ is.nds X.length ∧ a < a' ∧ a' ≤ S.length
  | .bad c k => e = .returned (.bool false) ∧ ∃ a' tv' lab' X', RP W w' P bv lv en a' tv' c k lab' X'
  | .out => True
theorem mk_eq (l : Bs) (en : Nat × Nat) (t : Tok) (y : Int) : (envL l en).mk? t y = mkB l t y := rfl
section
variable {W w w' : World} {P : Nat} {bv lv : Value} {en : Nat × Nat} {a d f me z : Nat} {X : List Nx} {l : Bs} {S : List Tok} {m first : Bool} {ks : List Bs} {t : Tok} {e : Ending}
theorem ins_bad {c k : Nat} {tv' : Value} {lab' : Nat → Own} {X' : List Nx} {a' : Nat} (h : pl (envL l en) f d m first ks (S.drop a) = .bad c k) (R : RP W w' P bv lv en a' tv' c k lab' X') : InsG W P bv lv en l S d m me f first ks X a (.returned (.bool false)) w' := by
  unfold InsG; rw [h]; exact ⟨rfl, _, _, _, _, R⟩
theorem pl_no (h : S.drop a = []) : pl (envL l en) (f + 1) d m first ks (S.drop a) = .bad en.1 en.2 := by rw [h, pl]; rfl
theorem pl_fin (h : S[a]? = some t) (hm : mkB l t (enM m) = true) : pl (envL l en) (f + 1) d m first ks (S.drop a) = .ok (.nil, t.2.2) (S.drop (a + 1)) := by
  rw [drop_at h, pl, mk_eq, if_pos hm]
theorem pl_step (h : S[a]? = some t) (hm : mkB l t (enM m) = false) : pl (envL l en) (f + 1) d m first ks (S.drop a) = match comma (envL l en) first (S.drop a) with
    | .bad c a => .bad c a
    | .out => .out
    | .ok _ T1 => match entry (envL l en) m ks T1 with
      | .bad c a => .bad c a
      | .out => .out
      | .ok (k, sp) T2 => match pv (envL l en) f (d + 1) T2 with
        | .bad c a => .bad c a
        | .out => .out
        | .ok v T3 => match pl (envL l en) f d m false (ks ++ [k]) T3 with
          | .bad c a => .bad c a
          | .out => .out
          | .ok (is, e) T4 => .ok (.cons k sp v is, e) T4 := by
  rw [drop_at h, pl, mk_eq, if_neg (by rw [hm]; exact Bool.false_ne_true)]
  rfl
theorem comma_first (T : List Tok) : comma (envL l en) true T = .ok () T := by unfold comma; rw [if_pos rfl]
theorem comma_yes (h : S[a]? = some t) (hm : mkB l t 44 = true) : comma (envL l en) false (S.drop a) = .ok () (S.drop (a + 1)) := by
  unfold comma
  rw [if_neg (by decide), drop_at h]
  simp only
  rw [mk_eq, if_pos hm]
theorem comma_no (h : S[a]? = some t) (hm : mkB l t 44 = false) : comma (envL l en) false (S.drop a) = .bad 3 t.2.1 := by
  unfold comma
  rw [if_neg (by decide), drop_at h]
  simp only
  rw [mk_eq, if_neg (by rw [hm]; exact Bool.false_ne_true)]
theorem entry_list (T : List Tok) : entry (envL l en) false ks T = .ok ([], (0, 0)) T := by unfold entry; rw [if_pos rfl]
/-- Items behind one that is read. -/
theorem ins_step {k : Bs} {sp : Nat × Nat} {v : JV} {X3 : List Nx} {a3 : Nat} (hpl : ∀ r, pl (envL l en) f d m false (ks ++ [k]) (S.drop a3) = r → pl (envL l en) (f + 1) d m first ks (S.drop a) = match r with
      | .bad c a => .bad c a
      | .out => .out
      | .ok (is, e) T4 => .ok (.cons k sp v is, e) T4)
    (hX : X3.map Nx.nd = ((if m = true then (X.map Nx.nd).modify me (Nd.addKey k sp) else X.map Nx.nd) ++ v.nds X.length).modify me (Nd.addSub X.length)) (hme : me < X.length) (ha : a < a3)
    (h : InsG W P bv lv en l S d m me f false (ks ++ [k]) X3 a3 e w') : InsG W P bv lv en l S d m me (f + 1) first ks X a e w' := by
  unfold InsG at h ⊢
  cases hr : pl (envL l en) f d m false (ks ++ [k]) (S.drop a3) with
  | out => rw [hpl _ hr]; trivial
  | bad c k => rw [hpl _ hr]; rw [hr] at h; exact h
  | ok q T4 =>
    obtain ⟨is, z⟩ := q
    rw [hpl _ hr]
    rw [hr] at h
    obtain ⟨he, a', tv', lab', X', R, hd, hm, hlt, htop⟩ := h
    refine ⟨he, a', tv', lab', X', R, hd, ?_, by omega, htop⟩
    have hlen : X3.length = X.length + v.size := by
      have := congrArg List.length hX
      rw [List.length_map, List.length_modify, List.length_append, JV.nds_len] at this
      rw [this]
      split <;> simp
    rw [hm, hX, hlen]
    have h9 := fill_step m is k sp v z me (X.map Nx.nd) (by rw [List.length_map]; exact hme)
    rw [List.length_map] at h9
    exact h9
def atOf (P : Nat) (w : World) : Nat := match w.cell? ⟨P, 4, none⟩ with | some (.int _ z) => z.toNat | _ => 0
theorem RP.atOf {tv : Value} {lab : Nat → Own} {fc fa : Nat} (R : RP W w P bv lv en a tv fc fa lab X) : R9.atOf P w = a := by unfold R9.atOf; rw [R.cells.2.2.2.2.1]; simp
end
end R9
end Jt
end Go.Proofs.YtdclhepjoifpiaaGreatDoor
