/- The chapter's examples of TOML's keys, which each law asks: they come out true. -/
import Derived.Test.YtpdaelcoiilkkaaDoorTyg
import Derived.Test.YtpdaelcoiilkkaaDoorTyi
namespace Go.Proofs.YtpdaelcoiilkkaaDoor
open Go.RowKit
namespace Ty

def l1 : Bs := [97, 32, 46, 32, 34, 98, 46, 99, 34, 32, 61, 32, 49]
def l2 : Bs := [97, 46]
def l3 : Bs := [61, 32, 49]
def wd1 (p : Nat) : WR1 := if p = 0 then .ok [97] 1 else .ok [98, 46, 99] 9
def wd2 (p : Nat) : WR1 := if p = 0 then .ok [97] 1 else .bad 3 2
def wd3 (_ : Nat) : WR1 := .bad 3 0
def k1 : Ky := [([97], (0, 1)), ([98, 46, 99], (4, 9))]
theorem word_no {l : Bs} {s : ByteArray} {p : Nat} (w : World) (hs : s = txt l) (hl : l.length ≤ 1000000) (hp : p ≤ l.length) (he : endP plK l p = p) (a : hasP (l.drop p) [34, 34, 34] = false) (b : hasP (l.drop p) [39, 39, 39] = false) (c : hasP (l.drop p) [34] = false) (d : hasP (l.drop p) [39] = false) :
    Calls Tryd.prog 23 #[.string s, .int .i64 p] w fun e w' => e = .returned (wrv (.bad 3 p)) ∧ Below w.heap.size w w' :=
  word_not w hs hl hp he (fun w => tlong_none w hs hl hp a b c d) fun w1 _ => tread_none w1 hs hl hp a b c d
theorem read1 (w : World) (hT : Tab w) : Calls Tryd.prog 8 #[.string (BA #[97, 32, 46, 32, 34, 98, 46, 99, 34, 32, 61, 32, 49]), .int .i64 0] w (KPost w (.ok k1 9)) := by
  refine kread_any (l := l1) (wd := wd1) (V := fun p => p = 0 ∨ p = 4) (at_ := 0) rfl (by decide) (fun p hp wx hb => ?_) (fun p t e hp h => ?_) (fun p hp => by rcases hp with rfl | rfl <;> decide) (fun p c a hp h => ?_) (.inl rfl) (by decide +kernel)
  · rcases hp with rfl | rfl
    · exact word_bare (l := l1) (p := 0) (e := 1) wx rfl (by decide) (by decide) (by decide +kernel) (by decide) (by decide) rfl
    · refine word_not (l := l1) (p := 4) wx rfl (by decide) (by decide) (by decide +kernel) (fun w => tlong_ba (l := l1) w rfl (by decide) (by decide) (by decide +kernel) (by decide +kernel) (by decide +kernel)) fun w1 hb1 => ?_
      have hT1 := hT.below (below_tr hb hb1)
      exact tread_ba (p := 4) (l := l1) w1 rfl (by decide) (by decide) (by decide +kernel) (by decide +kernel) (by decide +kernel) (fun W _ => hdOk_of (by decide +kernel) W) hT1.1 hT1.2 (r := .ok [98, 46, 99] 5) (isR_eq (by decide +kernel)).symm
  · rcases hp with rfl | rfl
    · obtain ⟨rfl, rfl⟩ : t = [97] ∧ e = 1 := by
        have h' : WR1.ok [97] 1 = .ok t e := h
        injection h' with h1 h2; exact ⟨h1.symm, h2.symm⟩
      refine ⟨by decide, by decide, fun q hq => ?_⟩
      have h2 : nxt l1 1 = some 4 := by decide +kernel
      rw [h2] at hq
      injection hq with hq
      exact .inr hq.symm
    · obtain ⟨rfl, rfl⟩ : t = [98, 46, 99] ∧ e = 9 := by
        have h' : WR1.ok [98, 46, 99] 9 = .ok t e := h
        injection h' with h1 h2; exact ⟨h1.symm, h2.symm⟩
      refine ⟨by decide, by decide, fun q hq => ?_⟩
      have h2 : nxt l1 9 = none := by decide +kernel
      rw [h2] at hq; cases hq
  · rcases hp with rfl | rfl
    · have h' : WR1.ok [97] 1 = .bad c a := h
      cases h'
    · have h' : WR1.ok [98, 46, 99] 9 = .bad c a := h
      cases h'
theorem read2 (w : World) : Calls Tryd.prog 8 #[.string (BA #[97, 46]), .int .i64 0] w (KPost w (.bad 3 2)) := by
  refine kread_any (l := l2) (wd := wd2) (V := fun p => p = 0 ∨ p = 2) (at_ := 0) rfl (by decide) (fun p hp wx hb => ?_) (fun p t e hp h => ?_) (fun p hp => by rcases hp with rfl | rfl <;> decide) (fun p c a hp h => ?_) (.inl rfl) (by decide +kernel)
  · rcases hp with rfl | rfl
    · exact word_bare (l := l2) (p := 0) (e := 1) wx rfl (by decide) (by decide) (by decide +kernel) (by decide) (by decide) rfl
    · exact word_no (l := l2) (p := 2) wx rfl (by decide) (by decide) (by decide +kernel) (by decide +kernel) (by decide +kernel) (by decide +kernel) (by decide +kernel)
  · rcases hp with rfl | rfl
    · obtain ⟨rfl, rfl⟩ : t = [97] ∧ e = 1 := by
        have h' : WR1.ok [97] 1 = .ok t e := h
        injection h' with h1 h2; exact ⟨h1.symm, h2.symm⟩
      refine ⟨by decide, by decide, fun q hq => ?_⟩
      have h2 : nxt l2 1 = some 2 := by decide +kernel
      rw [h2] at hq
      injection hq with hq
      exact .inr hq.symm
    · have h' : WR1.bad 3 2 = .ok t e := h
      cases h'
  · rcases hp with rfl | rfl
    · have h' : WR1.ok [97] 1 = .bad c a := h
      cases h'
    · have h' : WR1.bad 3 2 = .bad c a := h
      injection h' with h1 h2
      omega
theorem read3 (w : World) : Calls Tryd.prog 8 #[.string (BA #[61, 32, 49]), .int .i64 0] w (KPost w (.bad 3 0)) := by
  refine kread_any (l := l3) (wd := wd3) (V := fun p => p = 0) (at_ := 0) rfl (by decide) (fun p hp wx hb => ?_) (fun p t e hp h => ?_) (fun p hp => by obtain rfl := hp; decide) (fun p c a hp h => ?_) rfl (by decide +kernel)
  · obtain rfl := hp
    exact word_no (l := l3) (p := 0) wx rfl (by decide) (by decide) (by decide +kernel) (by decide +kernel) (by decide +kernel) (by decide +kernel) (by decide +kernel)
  · have h' : WR1.bad 3 0 = .ok t e := h
    cases h'
  · have h' : WR1.bad 3 0 = .bad c a := h
    injection h' with h1 h2
    omega
def L3 : List Bs := [[97], [98, 46, 99], []]
theorem wk3 : txt (wk L3) = BA #[97, 46, 34, 98, 46, 99, 34, 46, 34, 34] := by
  have : wk L3 = [97, 46, 34, 98, 46, 99, 34, 46, 34, 34] := by decide +kernel
  rw [this]; rfl
theorem lit_is {W : World} (g n m : Nat) (cs : Array Value) (ty : TypeId) (hT : Tab W) (hg : g = W.heap.size) (hn : n = 2) (hcs : cs = #[.string (BA #[97]), .string (BA #[98, 46, 99])]) :
    Calls Tryd.prog 18 #[.string (BA #[97, 32, 46, 32, 34, 98, 46, 99, 34, 32, 61, 32, 49]), .int .i64 0, .int .i64 9, .slice (some ⟨g, 0, none⟩) n m] (W.alloc (.cells cs ty)) fun e w' => e = .returned (.bool true) ∧ Below W.heap.size W w' := by
  subst hn
  subst hcs
  subst hg
  have hb : Below W.heap.size W (W.alloc (.cells #[.string (BA #[97]), .string (BA #[98, 46, 99])] ty)) := (Below.refl _ _).alloc (Nat.le_refl _) _
  refine (is_of (at_ := 0) (en := 9) (k := k1) _ (read1 _ (hT.below hb)) rfl (by decide) (fun _ _ => ⟨W.heap.size, 0, rfl, fun j hj => ?_⟩)).mono ?_
  · rw [World.cell?_alloc_at _ _ _ _ rfl]
    have hj2 : j < 2 := hj
    rcases (show j = 0 ∨ j = 1 by omega) with rfl | rfl <;> rfl
  · rintro e w' ⟨rfl, h⟩
    exact ⟨rfl, below_tr hb h⟩
theorem lit_write {W : World} (g n m : Nat) (cs : Array Value) (ty : TypeId) (hT : Tab W) (hg : g = W.heap.size) (hn : n = 3) (hcs : cs = #[.string (BA #[97]), .string (BA #[98, 46, 99]), .string ⟨#[]⟩]) :
    Calls Tryd.prog 16 #[.slice (some ⟨g, 0, none⟩) n m] (W.alloc (.cells cs ty)) fun e w' => e = .returned (.string ⟨#[97, 46, 34, 98, 46, 99, 34, 46, 34, 34]⟩) ∧ Below W.heap.size W w' := by
  subst hn
  subst hcs
  subst hg
  have hb : Below W.heap.size W (W.alloc (.cells #[.string (BA #[97]), .string (BA #[98, 46, 99]), .string ⟨#[]⟩] ty)) := (Below.refl _ _).alloc (Nat.le_refl _) _
  refine (kwrite_any (L := L3) ⟨rfl, fun _ => ⟨W.heap.size, 0, rfl, by rw [al_size]; omega, fun j hj => ?_⟩⟩ (by decide) (fun j => ?_) (hT.below hb)).mono ?_
  · rw [World.cell?_alloc_at _ _ _ _ rfl]
    have hj2 : j < 3 := hj
    rcases (show j = 0 ∨ j = 1 ∨ j = 2 by omega) with rfl | rfl | rfl <;> rfl
  · match j with
    | 0 => decide
    | 1 => decide
    | 2 => decide
    | j + 3 => rw [show L3.getD (j + 3) [] = [] from rfl]; decide
  · rintro e w' ⟨rfl, h⟩
    exact ⟨by rw [wk3], below_tr hb h⟩
end Ty
end Go.Proofs.YtpdaelcoiilkkaaDoor
