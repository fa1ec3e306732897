/- TOML's strings: what the laws stand on (the table; strings read and written). -/
import Derived.Test.YtpdaelcoiilkkaaDoorTqRd
import Derived.Test.YtpdaelcoiilkkaaDoorTqO
import Derived.Test.YtpdaelcoiilkkaaDoorTqRw
namespace Go.Proofs.YtpdaelcoiilkkaaDoor
open Go.RowKit

abbrev BA (a : Array UInt8) : ByteArray := ⟨a⟩
theorem below_tr {W w w' : World} (h : Below W.heap.size W w) (h' : Below w.heap.size w w') : Below W.heap.size W w' := h.trans (h'.mono h.size)
/-- What the laws find when they are called. -/
def Tab (w : World) : Prop := TShorts w ∧ 0 < w.heap.size
theorem Tab.below {W w : World} (h : Tab W) (hb : Below W.heap.size W w) : Tab w := ⟨h.1.old h.2 hb, Nat.lt_of_lt_of_le h.2 hb.size⟩
/-- No rune's number stands anywhere. -/
def noNum (l : List UInt8) : Bool := (List.range l.length).all fun k => [4, 8].all fun m => match Qu.hx m 0 (l.drop k) with | .inl _ => true | .inr x => Tq.sur x.1
theorem hdOk_of {l : List UInt8} (h : noNum l = true) (W : World) : HdOk W l := fun k many n r hm hx hs => by
  rcases Nat.lt_or_ge k l.length with hk | hk
  · have := List.all_eq_true.1 (List.all_eq_true.1 h k (List.mem_range.2 hk)) many (by rcases hm with rfl | rfl <;> simp)
    rw [hx] at this
    simp only at this
    rw [hs] at this
    cases this
  · rw [List.drop_eq_nil_of_le hk] at hx
    rcases hm with rfl | rfl <;> cases hx
def isR (r : Tq.R) (t : List UInt8) (k : Nat) : Bool := match r with | .ok x j => x == t && j == k | .bad _ => false
def isRb (r : Tq.R) (k : Nat) : Bool := match r with | .ok _ _ => false | .bad j => j == k
theorem isR_eq {r : Tq.R} {t : List UInt8} {k : Nat} (h : isR r t k = true) : r = .ok t k := by
  cases r with
  | ok x j => simp only [isR, Bool.and_eq_true, beq_iff_eq] at h; rw [h.1, h.2]
  | bad j => cases h
theorem isRb_eq {r : Tq.R} {k : Nat} (h : isRb r k = true) : r = .bad k := by
  cases r with
  | ok x j => cases h
  | bad j => simp only [isRb, beq_iff_eq] at h; rw [h]
theorem as_txt (s : ByteArray) : s = txt s.data.toList := by apply ByteArray.ext; simp [txt]
theorem as_len (s : ByteArray) : s.data.toList.length = s.size := by rw [Array.length_toList]; rfl
theorem twrite_is {l : List UInt8} {s x : ByteArray} (w : World) (hs : s = txt l) (hl : l.length ≤ 1000000) (hx : x = txt (Tq.wr l)) (hT : Tab w) :
    Calls Tryd.prog 22 #[.string s] w fun e w' => e = .returned (.string x) ∧ Below w.heap.size w w' := hx ▸ twrite_any w hs hl hT.1 hT.2
theorem trwrite_is {l : List UInt8} {s x : ByteArray} (w : World) (hs : s = txt l) (hl : l.length ≤ 1000000) (hx : x = txt (Tq.wr l)) :
    Calls Tryd.prog 31 #[.string s] w fun e w' => e = .returned (.string x) ∧ Below w.heap.size w w' := hx ▸ trwrite_any w hs hl
end Go.Proofs.YtpdaelcoiilkkaaDoor
