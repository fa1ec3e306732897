/- The document's parser: between two items. -/
import Derived.Test.YtdclhepjoifpiaaGreatDoorMfm
import Derived.Deep.CutRange
namespace Go.Proofs.YtdclhepjoifpiaaGreatDoor
open Go.RowKit
namespace Jt
namespace R9
open Jk (lt_blk below_tr TkR fvO)

section
variable {W w w' : World} {P : Nat} {en : Nat × Nat} {d f me : Nat} {l : Bs} {S : List Tok} {A AL : Option Addr} {n c N cL : Nat}
/-- What holds between two items. -/
def InsR (W : World) (P : Nat) (bv lv : Value) (en : Nat × Nat) (l : Bs) (S : List Tok) (d : Nat) (m : Bool) (me f0 a0 : Nat) (X0 : List Nx) (wr : World) (f a : Nat) (tv : Value) (lab : Nat → Own) (X : List Nx) (x : Nx) (first : Bool) (ks : List Bs) : Prop :=
  RP W wr P bv lv en a tv 0 0 lab X ∧ X[me]? = some x ∧ (m = true → x.nd.keys = ks) ∧ f ≤ f0 ∧ 2 * (S.drop a).length + 2 ≤ f ∧ ∀ e w', InsG W P bv lv en l S d m me f first ks X a e w' → InsG W P bv lv en l S d m me f0 true [] X0 a0 e w'
/-- What stands behind an item's comma. -/
def CommaR (W : World) (P : Nat) (bv lv : Value) (en : Nat × Nat) (l : Bs) (S : List Tok) (a : Nat) (tv : Value) (lab : Nat → Own) (X : List Nx) (first b : Bool) (wx : World) : Prop :=
  match b with
  | true => ∃ cB kB, comma (envL l en) first (S.drop a) = .bad cB kB ∧ RP W wx P bv lv en a tv cB kB lab X
  | false => ∃ aC, (a ≤ aC ∧ aC ≤ S.length) ∧ comma (envL l en) first (S.drop a) = .ok () (S.drop aC) ∧ RP W wx P bv lv en aC tv 0 0 lab X
theorem CommaR.first {wx : World} {bv lv tv : Value} {a : Nat} {lab : Nat → Own} {X : List Nx} (ha : a ≤ S.length) (R : RP W wx P bv lv en a tv 0 0 lab X) : CommaR W P bv lv en l S a tv lab X true false wx := ⟨a, ⟨Nat.le_refl _, ha⟩, comma_first _, R⟩
theorem CommaR.next {wx : World} {bv lv tv : Value} {a : Nat} {lab : Nat → Own} {X : List Nx} {t : Tok} {e : Ending} (ht : S[a]? = some t) (h : TakeP W P bv lv en a tv lab X l S 44 e wx) : ∃ b : Bool, e = .returned (.bool (!b)) ∧ CommaR W P bv lv en l S a tv lab X false b wx := by
  unfold TakeP at h
  rw [drop_at ht] at h
  simp only at h
  cases hcm : mkB l t 44 with
  | false =>
    rw [if_neg (by rw [hcm]; exact Bool.false_ne_true)] at h
    exact ⟨true, h.1, _, _, comma_no ht hcm, h.2⟩
  | true =>
    rw [if_pos hcm] at h
    exact ⟨false, h.1, a + 1, ⟨Nat.le_succ _, (List.getElem?_eq_some_iff.1 ht).1⟩, comma_yes ht hcm, h.2⟩
theorem at_map {X Y : List Nx} {D : List Nd} {i : Nat} {x : Nx} (h : Y.map Nx.nd = X.map Nx.nd ++ D) (hx : X[i]? = some x) : ∃ y, Y[i]? = some y ∧ y.nd = x.nd := by
  refine nd_in (X := Y) h ?_
  rw [List.getElem?_append_left (by rw [List.length_map]; exact (List.getElem?_eq_some_iff.1 hx).1), List.getElem?_map, hx]; rfl
end
end R9
end Jt
end Go.Proofs.YtdclhepjoifpiaaGreatDoor
