/- A twin of a slice in memory of its own, with marks behind; whether it is as it was: the law's own helpers. -/
import Derived.Test.YtllnnogdpagioaaDoorJoin
namespace Go.Proofs.YtllnnogdpagioaaDoor
open Go.RowKit

theorem cells_new {w : World} {t : TypeId} (cs : Array Value) (xs : List Value) (h : cs.toList = xs) : ∀ j u, xs[j]? = some u → (w.alloc (.cells cs t)).cell? ((⟨w.heap.size, 0, none⟩ : Addr).add j) = some u := fun j u hu => by
  rw [addAt, World.cell?_alloc_at _ _ _ _ rfl, ← Array.getElem?_toList, h, Nat.zero_add, hu]
/-- The marks behind a twin. -/
def mark3 : List UInt8 := [90, 90, 90]

def TwinPost (w : World) (l : List UInt8) (n : Nat) (e : Ending) (w' : World) : Prop :=
  e = .returned (.slice (some ⟨w.heap.size, 0, none⟩) n (n + 3)) ∧ Byt w' w'.heap.size (some ⟨w.heap.size, 0, none⟩) (l ++ mark3) ∧ Below w.heap.size w w' ∧ w.heap.size < w'.heap.size

set_option maxHeartbeats 1000000 in
theorem twin_any {l : List UInt8} {A : Option Addr} {n c : Nat} {w : World} (ha : ArgB w A n c l) (hs : n ≤ 65536) :
    Calls Tryd.prog 10 #[.slice A n c] w (TwinPost w l n) := by
  obtain ⟨hn, hnc, hcm, hA, hnil⟩ := ha
  have Hn := Lib.hid hn
  have Hnil := Lib.hid hnil
  clear hn hnil
  obtain ⟨i0, hi, hz0, hz1, hz2⟩ := info_parts (show (Tryd.prog.info? 5).map (fun i => (i.zero, i.size, i.bytes)) = some (some (.int .u8 0), 1, 1) by kernel_rfl)
  go_enter Tryd.func10, Tryd.ntmps10
  go_wp2_with (first
    | (at_make; refine wpList_make_own _ rfl _ _ 22 rfl w.heap.size 5 i0 (.int .u8 0) 1 Tryd.underlying22 hi hz0 hz1 .i64 .i64 _ (n + 3) rfl rfl (by simp) (by rw [hz2]; omega) (by unfold maxLen; omega) (Nat.le_refl _) ?_; intro w1 hown1 hg1; have hb1 : Below w.heap.size w w1 := (Below.refl _ _).grown hg1 (Nat.le_refl _) (fun _ h => by cases h))
    | (at_builtin; refine wpList_append_fits_any _ rfl (.tmp 8) (.tmp 9) 22 rfl w.heap.size 5 i0 1 Tryd.underlying22 hi hz1 w.heap.size 0 (n + 3) [] rfl hown1 A n c (bytV l) rfl (by have := Hn.out; rw [bytV_len]; omega) (fun h => ⟨by subst h; have := byt_none hA; have h2 := Hn.out; rw [this] at h2; exact h2, Hnil.out h⟩) (fun ad h => by subst h; exact bytV_cells (hA.below hb1)) (bytV_one l) (by omega) ?_; intro w2 hown2 hg2; simp only [Nat.zero_add, List.nil_append] at hown2)
    | (at_builtin; refine wpList_append_fits _ rfl (.tmp 11) (.tmp 12) 22 rfl w.heap.size 5 i0 1 Tryd.underlying22 hi hz1 w.heap.size n (n + 3) (bytV l) rfl (hown2.alloc _) ⟨w2.heap.size, 0, none⟩ 3 3 (bytV mark3) rfl rfl (cells_new _ _ rfl) (bytV_one mark3) (by omega) ?_; intro w3 hown3 hg3))
  have hb2 := hb1.grown hg2 hb1.size (fun _ h => by cases h; exact Nat.le_refl _)
  have hb3 := (hb2.alloc hb2.size _).grown hg3 (by have := hb2.size; simp; omega) (fun _ h => by cases h; exact Nat.le_refl _)
  have h3 : w3.ownsRow w.heap.size 5 1 (.slice (some ⟨w.heap.size, 0, none⟩) (n + 3) (n + 3)) (n + 3) (bytV (l ++ mark3)) := by simpa [bytV] using hown3
  obtain ⟨A3, c3, e3, hx1, hx2, hx3, hB3, hx4⟩ := own_form h3
  have hlt := (h3.lt _ rfl).2
  obtain rfl : A3 = some ⟨w.heap.size, 0, none⟩ := by injection e3 with e _ _; exact e.symm
  clear hx1 hx2 hx3 hx4 e3 hown1 hg1 hb1 hown2 hg2 hb2 hown3 hg3 h3
  go_wp2
  go_ret
  exact ⟨rfl, hB3, hb3, hlt⟩

set_option maxHeartbeats 1000000 in
theorem left_any {l : List UInt8} {B B' g : Nat} {A : Option Addr} (n c : Nat) {w : World} (hn : n = l.length) (hT : Byt w B (some ⟨g, 0, none⟩) (l ++ mark3)) (hA : Byt w B' A l) (hs : n ≤ 65536) :
    Calls Tryd.prog 16 #[.slice (some ⟨g, 0, none⟩) n (n + 3), .slice A n c] w fun e w' => e = .returned (.bool true) ∧ w = w' := by
  have hT1 : Byt w B (some ⟨g, 0, none⟩) l := by have := hT.take l.length; simpa using this
  have hlen : (l ++ mark3).length = n + 3 := by rw [hn]; simp [mark3]
  obtain ⟨g', off', e, _, hc⟩ := hT.at_ (k := 0) (by omega)
  injection e with e
  injection e with e1 e2
  subst e1; subst e2
  have k0 : w.cell? ⟨g, n, none⟩ = some (.int .u8 90) := by have := hc n (by omega); rw [Nat.zero_add] at this; rw [this, hn]; simp [bt, mark3]
  have k1 : w.cell? ⟨g, n + 1, none⟩ = some (.int .u8 90) := by have := hc (n + 1) (by omega); rw [Nat.zero_add] at this; rw [this, hn]; simp [bt, mark3]
  have k2 : w.cell? ⟨g, n + 2, none⟩ = some (.int .u8 90) := by have := hc (n + 2) (by omega); rw [Nat.zero_add] at this; rw [this, hn]; simp [bt, mark3]
  have Hn := Lib.hid hn
  clear hn hc hlen
  go_enter Tryd.func16, Tryd.ntmps16
  go_wp2_with (go_at_call 22; refine (sameb_is (p := true) _ _ _ _ Hn.out hT1 Hn.out hA (by simp)).mono ?_; rintro e w' ⟨rfl, rfl⟩)
  go_ret
  exact ⟨rfl, rfl⟩
theorem Byt.front {w : World} {B : Nat} {A : Option Addr} {l r : List UInt8} (h : Byt w B A (l ++ r)) : Byt w B A l := by have := h.take l.length; simpa using this
end Go.Proofs.YtllnnogdpagioaaDoor
