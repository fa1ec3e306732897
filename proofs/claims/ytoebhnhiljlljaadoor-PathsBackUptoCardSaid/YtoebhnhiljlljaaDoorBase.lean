/- Small words for walks: endings; a text's bytes. -/
import Derived.Test.YtoebhnhiljlljaaDoorMem
import Derived.WalkKit
import Derived.WalkSpells
import Derived.PlainAid
namespace Go.Proofs.YtoebhnhiljlljaaDoor
open Go.RowKit

theorem ret_int {k : IntKind} {a b : Int} (h : a = b) : Ending.returned (.int k a) = .returned (.int k b) := by rw [h]
theorem ret_bool {a b : Bool} (h : a = b) : Ending.returned (.bool a) = .returned (.bool b) := by rw [h]
theorem ret_str {a b : ByteArray} (h : a = b) : Ending.returned (.string a) = .returned (.string b) := by rw [h]
theorem ret_ib {k : IntKind} {a b : Int} {p q : Bool} (h : a = b) (h' : p = q) : Ending.returned (.tuple #[.int k a, .bool p]) = .returned (.tuple #[.int k b, .bool q]) := by rw [h, h']

/-- A text of bytes. -/
def txt (l : List UInt8) : ByteArray := ⟨l.toArray⟩
theorem txt_size (l : List UInt8) : (txt l).size = l.length := by simp [txt, ByteArray.size]
theorem txt_at {l : List UInt8} {s : ByteArray} (hs : s = txt l) {k : Nat} : ∀ (h : k < s.size), ((s[k]'h).toNat : Int) = bt l k := by
  subst hs
  intro h
  rw [txt_size] at h
  have e : (txt l)[k]'(by rw [txt_size]; exact h) = l[k] := by simp [txt, ByteArray.getElem_eq_getElem_data]
  rw [e]; simp [bt, h]
theorem txt_app (a b : List UInt8) : txt a ++ txt b = txt (a ++ b) := by
  apply ByteArray.ext; simp [txt]
theorem txt_cut (l : List UInt8) (i j : Nat) : (txt l).extract i j = txt ((l.take j).drop i) := by
  apply ByteArray.ext; simp [txt, List.drop_take]
end Go.Proofs.YtoebhnhiljlljaaDoor
