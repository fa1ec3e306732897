/- A slice's cells: that they hold what a function of the place gives; what keeps that, and what a cut of it holds. -/
import Derived.Below
import Derived.Calls
import Derived.Laws.OwnMore
import Derived.Deep.Draws
import Derived.Lib.Hide
namespace Go.Proofs.YtoebhnhiljlljaaDoor
open Go.RowKit

theorem addAt (b off k : Nat) : (⟨b, off, none⟩ : Addr).add k = ⟨b, off + k, none⟩ := by
  by_cases hk : k = 0 <;> simp [Addr.add, hk]

/-- The slice at A holds, at the places below n, what f gives; its block lies below B. -/
def Lst (w : World) (B : Nat) (A : Option Addr) (n : Nat) (f : Nat → Value) : Prop :=
  0 < n → ∃ b off, A = some ⟨b, off, none⟩ ∧ b < B ∧ ∀ k, k < n → w.cell? ⟨b, off + k, none⟩ = some (f k)

section
variable {w w' : World} {B B' n : Nat} {A : Option Addr} {f : Nat → Value}
theorem Lst.nil_ : Lst w B A 0 f := fun h => absurd h (by omega)
theorem Lst.keep (h : Lst w B A n f) (hk : ∀ p : Addr, p.block < B → w'.cell? p = w.cell? p) : Lst w' B A n f := fun hn => by
  obtain ⟨b, off, e, hb, hc⟩ := h hn
  exact ⟨b, off, e, hb, fun k hk' => (hk _ hb).trans (hc k hk')⟩
theorem Lst.more (h : Lst w B A n f) (hB : B ≤ B') : Lst w B' A n f := fun hn => by
  obtain ⟨b, off, e, hb, hc⟩ := h hn
  exact ⟨b, off, e, by omega, hc⟩
theorem Lst.less (h : Lst w B A n f) {m : Nat} (hm : m ≤ n) : Lst w B A m f := fun hn => by
  obtain ⟨b, off, e, hb, hc⟩ := h (by omega)
  exact ⟨b, off, e, hb, fun k hk => hc k (by omega)⟩
theorem Lst.same (h : Lst w B A n f) {g : Nat → Value} (hg : ∀ k, k < n → f k = g k) : Lst w B A n g := fun hn => by
  obtain ⟨b, off, e, hb, hc⟩ := h hn
  exact ⟨b, off, e, hb, fun k hk => by rw [hc k hk, hg k hk]⟩
theorem Lst.below (h : Lst w B A n f) (hb : Below B w w') : Lst w' B A n f := h.keep fun _ hp => hb.cell hp
theorem Lst.drewN (h : Lst w B A n f) (k : Nat) : Lst (w.drewN k) B A n f := h
theorem Lst.alloc (h : Lst w B A n f) (hB : B ≤ w.heap.size) (o : Obj) : Lst (w.alloc o) B A n f := h.keep fun p hp => World.cell?_alloc_lt w o p (by omega)
theorem Lst.setCell (h : Lst w B A n f) {p : Addr} (hB : B ≤ p.block) (u : Value) : Lst (w.setCell p u) B A n f :=
  h.keep fun q hq => World.cell?_setCell_other w p q u (fun e => by subst e; omega)
theorem Lst.cut' (h : Lst w B A n f) {k : Nat} (hk : k ≤ n) : Lst w B (A.map (·.add k)) (n - k) (fun i => f (k + i)) := fun hn => by
  obtain ⟨b, off, rfl, hb, hcell⟩ := h (by omega)
  exact ⟨b, off + k, by simp only [Option.map_some, addAt], hb, fun i hi => by rw [Nat.add_assoc]; exact hcell _ (by omega)⟩
theorem Lst.cut (h : Lst w B A n f) {k cap : Nat} (hk : k ≤ n) (hc : n ≤ cap) :
    Lst w B (if cap = k then A else A.map (·.add k)) (n - k) (fun i => f (k + i)) := fun hn => by
  rw [if_neg (by omega)]
  exact h.cut' hk hn
end

/-- A byte of a list, as a number; 0 behind its end. -/
def bt (l : List UInt8) (k : Nat) : Int := (((l.getD k 0).toNat : Nat) : Int)
theorem bt_lo (l : List UInt8) (k : Nat) : 0 ≤ bt l k := by unfold bt; omega
theorem bt_hi (l : List UInt8) (k : Nat) : bt l k ≤ 255 := by unfold bt; have := (l.getD k 0).toNat_lt; omega
theorem bt_drop (l : List UInt8) (i k : Nat) : bt (l.drop i) k = bt l (i + k) := by simp [bt, List.getElem?_drop]
theorem bt_take (l : List UInt8) {i k : Nat} (h : k < i) : bt (l.take i) k = bt l k := by simp [bt, h]

/-- A slice of bytes. -/
def Byt (w : World) (B : Nat) (A : Option Addr) (l : List UInt8) : Prop := Lst w B A l.length (fun k => .int .u8 (bt l k))
section
variable {w w' : World} {B B' : Nat} {A : Option Addr} {l : List UInt8}
theorem Byt.below (h : Byt w B A l) (hb : Below B w w') : Byt w' B A l := Lst.below h hb
theorem Byt.more (h : Byt w B A l) (hB : B ≤ B') : Byt w B' A l := Lst.more h hB
theorem Byt.at_ (h : Byt w B A l) {k : Nat} (hk : k < l.length) : ∃ b off, A = some ⟨b, off, none⟩ ∧ b < B ∧ ∀ k, k < l.length → w.cell? ⟨b, off + k, none⟩ = some (.int .u8 (bt l k)) := h (by omega)
theorem Byt.cut (h : Byt w B A l) {k cap : Nat} (hk : k ≤ l.length) (hc : l.length ≤ cap) : Byt w B (if cap = k then A else A.map (·.add k)) (l.drop k) := by
  have := Lst.cut h hk hc
  unfold Byt
  rw [List.length_drop]
  exact this.same fun i _ => by rw [bt_drop]
theorem Byt.cut' (h : Byt w B A l) {k : Nat} (hk : k ≤ l.length) : Byt w B (A.map (·.add k)) (l.drop k) := by
  have := Lst.cut' h hk
  unfold Byt
  rw [List.length_drop]
  exact this.same fun i _ => by rw [bt_drop]
theorem Byt.cutAt {b off : Nat} (h : Byt w B (some ⟨b, off, none⟩) l) {k : Nat} (hk : k ≤ l.length) : Byt w B (some ⟨b, off + k, none⟩) (l.drop k) := by
  have := h.cut' hk
  simpa only [Option.map_some, addAt] using this
theorem Byt.take (h : Byt w B A l) (k : Nat) : Byt w B A (l.take k) := by
  have := Lst.less (m := (l.take k).length) h (by simp; omega)
  exact this.same fun i hi => by rw [bt_take l (by simp at hi; omega)]
end
end Go.Proofs.YtoebhnhiljlljaaDoor
