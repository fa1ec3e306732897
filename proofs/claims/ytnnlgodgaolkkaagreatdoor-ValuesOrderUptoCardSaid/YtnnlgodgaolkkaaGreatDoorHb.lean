/- A slice's cells: that they hold what a function of the place gives; what keeps that, and what a cut of it holds. -/
import Derived.Below
import Derived.Calls
import Derived.Laws.OwnMore
import Derived.Deep.Draws
import Derived.Lib.Hide
import Derived.WalkKit
import Derived.WalkSpells
import Derived.PlainAid
import Derived.OwnWalk
import Derived.Maps.AppendAt
import Derived.Deep.DeepAppendRoom
import Derived.Test.YtnnlgodgaolkkaaGreatDoorProg
import Derived.Laws.BytesArg
import Derived.Laws.BitsAllLaws
import Derived.Laws.BitsLemmas
namespace Go.Proofs.YtnnlgodgaolkkaaGreatDoor
open Go.RowKit

theorem addAt (b off k : Nat) : (⟨b, off, none⟩ : Addr).add k = ⟨b, off + k, none⟩ := by
  by_cases hk : k = 0 <;> simp [Addr.add, hk]

/-- The slice at A holds, at the places below n, what f gives; its block lies below B. -/
def Lst (w : World) (B : Nat) (A : Option Addr) (n : Nat) (f : Nat → Value) : Prop :=
  0 < n → ∃ b off, A = some ⟨b, off, none⟩ ∧ b < B ∧ ∀ k, k < n → w.cell? ⟨b, off + k, none⟩ = some (f k)

section
variable {w w' : World} {B B' n : Nat} {A : Option Addr} {f : Nat → Value}
theorem Lst.nil_ : Lst w B A 0 f := fun h => absurd h (by omega)
theorem Lst.keep (h : Lst w B A n f) (hk : ∀ p : Addr, p.block < B → w'.cell? p = w.cell? p) : Lst w' B A n f := fun hn => by
  obtain ⟨b, off, e, hb, hc⟩ := h hn
  exact ⟨b, off, e, hb, fun k hk' => (hk _ hb).trans (hc k hk')⟩
theorem Lst.more (h : Lst w B A n f) (hB : B ≤ B') : Lst w B' A n f := fun hn => by
  obtain ⟨b, off, e, hb, hc⟩ := h hn
  exact ⟨b, off, e, by omega, hc⟩
theorem Lst.less (h : Lst w B A n f) {m : Nat} (hm : m ≤ n) : Lst w B A m f := fun hn => by
  obtain ⟨b, off, e, hb, hc⟩ := h (by omega)
  exact ⟨b, off, e, hb, fun k hk => hc k (by omega)⟩
theorem Lst.same (h : Lst w B A n f) {g : Nat → Value} (hg : ∀ k, k < n → f k = g k) : Lst w B A n g := fun hn => by
  obtain ⟨b, off, e, hb, hc⟩ := h hn
  exact ⟨b, off, e, hb, fun k hk => by rw [hc k hk, hg k hk]⟩
theorem Lst.below (h : Lst w B A n f) (hb : Below B w w') : Lst w' B A n f := h.keep fun _ hp => hb.cell hp
theorem Lst.drewN (h : Lst w B A n f) (k : Nat) : Lst (w.drewN k) B A n f := h
theorem Lst.alloc (h : Lst w B A n f) (hB : B ≤ w.heap.size) (o : Obj) : Lst (w.alloc o) B A n f := h.keep fun p hp => World.cell?_alloc_lt w o p (by omega)
theorem Lst.setCell (h : Lst w B A n f) {p : Addr} (hB : B ≤ p.block) (u : Value) : Lst (w.setCell p u) B A n f :=
  h.keep fun q hq => World.cell?_setCell_other w p q u (fun e => by subst e; omega)
theorem Lst.cut' (h : Lst w B A n f) {k : Nat} (hk : k ≤ n) : Lst w B (A.map (·.add k)) (n - k) (fun i => f (k + i)) := fun hn => by
  obtain ⟨b, off, rfl, hb, hcell⟩ := h (by omega)
  exact ⟨b, off + k, by simp only [Option.map_some, addAt], hb, fun i hi => by rw [Nat.add_assoc]; exact hcell _ (by omega)⟩
theorem Lst.cut (h : Lst w B A n f) {k cap : Nat} (hk : k ≤ n) (hc : n ≤ cap) :
    Lst w B (if cap = k then A else A.map (·.add k)) (n - k) (fun i => f (k + i)) := fun hn => by
  rw [if_neg (by omega)]
  exact h.cut' hk hn
end

/-- A byte of a list, as a number; 0 behind its end. -/
def bt (l : List UInt8) (k : Nat) : Int := (((l.getD k 0).toNat : Nat) : Int)
theorem bt_lo (l : List UInt8) (k : Nat) : 0 ≤ bt l k := by unfold bt; omega
theorem bt_hi (l : List UInt8) (k : Nat) : bt l k ≤ 255 := by unfold bt; have := (l.getD k 0).toNat_lt; omega
theorem bt_drop (l : List UInt8) (i k : Nat) : bt (l.drop i) k = bt l (i + k) := by simp [bt, List.getElem?_drop]
theorem bt_take (l : List UInt8) {i k : Nat} (h : k < i) : bt (l.take i) k = bt l k := by simp [bt, h]

/-- A slice of bytes. -/
def Byt (w : World) (B : Nat) (A : Option Addr) (l : List UInt8) : Prop := Lst w B A l.length (fun k => .int .u8 (bt l k))
section
variable {w w' : World} {B B' : Nat} {A : Option Addr} {l : List UInt8}
theorem Byt.below (h : Byt w B A l) (hb : Below B w w') : Byt w' B A l := Lst.below h hb
theorem Byt.more (h : Byt w B A l) (hB : B ≤ B') : Byt w B' A l := Lst.more h hB
theorem Byt.at_ (h : Byt w B A l) {k : Nat} (hk : k < l.length) : ∃ b off, A = some ⟨b, off, none⟩ ∧ b < B ∧ ∀ k, k < l.length → w.cell? ⟨b, off + k, none⟩ = some (.int .u8 (bt l k)) := h (by omega)
theorem Byt.cut (h : Byt w B A l) {k cap : Nat} (hk : k ≤ l.length) (hc : l.length ≤ cap) : Byt w B (if cap = k then A else A.map (·.add k)) (l.drop k) := by
  have := Lst.cut h hk hc
  unfold Byt
  rw [List.length_drop]
  exact this.same fun i _ => by rw [bt_drop]
theorem Byt.cut' (h : Byt w B A l) {k : Nat} (hk : k ≤ l.length) : Byt w B (A.map (·.add k)) (l.drop k) := by
  have := Lst.cut' h hk
  unfold Byt
  rw [List.length_drop]
  exact this.same fun i _ => by rw [bt_drop]
theorem Byt.cutAt {b off : Nat} (h : Byt w B (some ⟨b, off, none⟩) l) {k : Nat} (hk : k ≤ l.length) : Byt w B (some ⟨b, off + k, none⟩) (l.drop k) := by
  have := h.cut' hk
  simpa only [Option.map_some, addAt] using this
theorem Byt.take (h : Byt w B A l) (k : Nat) : Byt w B A (l.take k) := by
  have := Lst.less (m := (l.take k).length) h (by simp; omega)
  exact this.same fun i hi => by rw [bt_take l (by simp at hi; omega)]
end
end Go.Proofs.YtnnlgodgaolkkaaGreatDoor
/- Small words for walks: endings; a text's bytes. -/
namespace Go.Proofs.YtnnlgodgaolkkaaGreatDoor
open Go.RowKit

theorem ret_int {k : IntKind} {a b : Int} (h : a = b) : Ending.returned (.int k a) = .returned (.int k b) := by rw [h]
theorem ret_bool {a b : Bool} (h : a = b) : Ending.returned (.bool a) = .returned (.bool b) := by rw [h]
theorem ret_str {a b : ByteArray} (h : a = b) : Ending.returned (.string a) = .returned (.string b) := by rw [h]
theorem ret_ib {k : IntKind} {a b : Int} {p q : Bool} (h : a = b) (h' : p = q) : Ending.returned (.tuple #[.int k a, .bool p]) = .returned (.tuple #[.int k b, .bool q]) := by rw [h, h']

/-- A text of bytes. -/
def txt (l : List UInt8) : ByteArray := ⟨l.toArray⟩
theorem txt_size (l : List UInt8) : (txt l).size = l.length := by simp [txt, ByteArray.size]
theorem txt_at {l : List UInt8} {s : ByteArray} (hs : s = txt l) {k : Nat} : ∀ (h : k < s.size), ((s[k]'h).toNat : Int) = bt l k := by
  subst hs
  intro h
  rw [txt_size] at h
  have e : (txt l)[k]'(by rw [txt_size]; exact h) = l[k] := by simp [txt, ByteArray.getElem_eq_getElem_data]
  rw [e]; simp [bt, h]
theorem txt_app (a b : List UInt8) : txt a ++ txt b = txt (a ++ b) := by
  apply ByteArray.ext; simp [txt]
theorem txt_cut (l : List UInt8) (i j : Nat) : (txt l).extract i j = txt ((l.take j).drop i) := by
  apply ByteArray.ext; simp [txt, List.drop_take]
end Go.Proofs.YtnnlgodgaolkkaaGreatDoor
/- Bytes put behind bytes by append, whatever slice they come from. -/
namespace Go.Proofs.YtnnlgodgaolkkaaGreatDoor
open Go.RowKit

/-- A list's bytes as cells. -/
def bytV (l : List UInt8) : List Value := l.map (fun c => Value.int .u8 (c.toNat : Int))
theorem bytV_len (l : List UInt8) : (bytV l).length = l.length := by simp [bytV]
theorem bytV_at {l : List UInt8} {j : Nat} {u : Value} (h : (bytV l)[j]? = some u) : j < l.length ∧ u = .int .u8 (bt l j) := by
  unfold bytV at h
  rw [List.getElem?_map] at h
  obtain ⟨c, hc, rfl⟩ := Option.map_eq_some_iff.1 h
  obtain ⟨hj, rfl⟩ := List.getElem?_eq_some_iff.1 hc
  exact ⟨hj, by simp [bt, hj]⟩
theorem bytV_cells {w : World} {B : Nat} {ad : Addr} {l : List UInt8} (h : Byt w B (some ad) l) : ∀ j u, (bytV l)[j]? = some u → w.cell? (ad.add j) = some u := fun j u hu => by
  obtain ⟨hj, rfl⟩ := bytV_at hu
  obtain ⟨b, off, e, _, hc⟩ := h.at_ hj
  obtain rfl := Option.some.inj e
  rw [addAt, hc j hj]
theorem bytV_one (l : List UInt8) : ∀ u ∈ bytV l, u.oneCell' = true := fun u hu => by
  obtain ⟨_, _, rfl⟩ := List.mem_map.1 hu
  rfl
theorem byt_none {w : World} {B : Nat} {l : List UInt8} (h : Byt w B none l) : l = [] := by
  rcases Nat.eq_zero_or_pos l.length with h0 | h0
  · exact List.eq_nil_of_length_eq_zero h0
  · obtain ⟨_, _, e, _⟩ := h.at_ h0; cases e

/-- append onto a row of the call's own, which may grow. -/
theorem wpApp {P : Program} (w : World) {ops : Array Oper} {rest : List Oper} {o : Oper} {a : Act} {Q : Exit → Act → World → Prop} (hg : o.guard = none) (s x : Operand) (t : TypeId) (hop : o.op = Op.call { callee := Callee.builtin Builtin.append, args := #[s, x], argTypes := #[t, t] })
    (base : Nat) (e : TypeId) (i : TypeInfo) (z : Value) (bytes : Nat) (h1 : P.underlying t = some (.slice e)) (h2 : P.info? e = some i) (h3 : i.zero = some z) (h4 : i.size = 1) (h5 : i.bytes = bytes) (h6 : z.cells.size = 1)
    (v : Value) (n : Nat) (xs : List Value) (hs : a.eval s = v) (hown : w.ownsRow base e 1 v n xs) (ao : Option Addr) (m c : Nat) (B : Nat) (l : List UInt8) (hx : a.eval x = .slice ao m c) (hm : m = l.length) (hA : Byt w B ao l) (hnone : ao = none → c = 0)
    (h63 : n + m ≤ maxLen) (hbytes : (n + m) * bytes ≤ 140737488355328) (hbase : base ≤ w.heap.size)
    (hK : ∀ v' w', w'.ownsRow base e 1 v' (n + m) (xs ++ bytV l) → w.grownBy w' v.ownBlock → (v'.ownBlock = v.ownBlock ∨ v'.ownBlock = some w.heap.size) → wpList P ops Q rest (a.put o.dst v') w') : wpList P ops Q (o :: rest) a w := by
  refine wpList_plain hg fun K hK' => ?_
  cases ao with
  | some ad =>
    obtain ⟨v', w', hrun, r1, r2, _, r3⟩ := run_append_own_at (P := P) w base t o.type e i z 1 bytes h1 h2 h3 h4 h5 h6 (by omega) v n xs hown ad m c (bytV l) (by rw [bytV_len]; omega) (bytV_cells hA) (bytV_one l) h63 hbytes hbase
    unfold Oper.wp
    simp [execOp, hop, resolve, invoke, builtin, hs, hx, hrun, Result.andThen]
    exact hK' _ _ (hK v' w' r1 r2 r3)
  | none =>
    obtain rfl := byt_none hA
    obtain rfl : m = 0 := hm
    obtain rfl := hnone rfl
    have hrun := run_append_owned_none (P := P) w base t o.type e i 1 h1 h2 _ n xs hown
    unfold Oper.wp
    simp [execOp, hop, resolve, invoke, builtin, hs, hx, hrun, Result.andThen]
    exact hK' _ _ (hK v w (by simpa [bytV] using hown) (World.grownBy.refl _ _) (.inl rfl))

/-- What an owned row is as a slice of bytes. -/
theorem own_form {w : World} {base n : Nat} {v : Value} {l : List UInt8} (h : w.ownsRow base 5 1 v n (bytV l)) :
    ∃ A c, v = .slice A n c ∧ n ≤ c ∧ c ≤ maxLen ∧ n = l.length ∧ Byt w w.heap.size A l ∧ (A = none → c = 0) := by
  have hn : n = l.length := by have := h.1; rw [bytV_len] at this; omega
  rcases h.2 with ⟨rfl, rfl⟩ | ⟨g, cap, cur, rfl, _, _, hnc, hcm, _⟩
  · exact ⟨none, 0, rfl, Nat.le_refl _, Nat.zero_le _, hn, fun hl => absurd hl (by omega), fun _ => rfl⟩
  · refine ⟨some ⟨g, 0, none⟩, cap, rfl, hnc, hcm, hn, fun _ => ⟨g, 0, rfl, (h.lt _ rfl).2, fun k hk => ?_⟩, fun h => by cases h⟩
    rw [Nat.zero_add, h.cellAt k (by omega)]
    simp [bytV, bt, hk]
end Go.Proofs.YtnnlgodgaolkkaaGreatDoor
/- Bytes as a text. -/
namespace Go.Proofs.YtnnlgodgaolkkaaGreatDoor
open Go.RowKit

theorem bytesOf_bt (l : List UInt8) : ((List.range l.length).map (bt l)).map (fun n => UInt8.ofNat n.toNat) = l := by
  apply List.ext_getElem
  · simp
  · intro i h1 h2
    simp [bt, h2]
theorem strOf_bt (l : List UInt8) : strOfNums ((List.range l.length).map (bt l)) = txt l := by
  unfold strOfNums txt
  rw [bytesOf_bt]
theorem conv_bytes {l : List UInt8} {B : Nat} {A : Option Addr} (n c : Nat) {w : World} (hn : n = l.length) (hA : Byt w B A l) : (convert 66 9 (.slice A n c)).run Tryz.prog w = .ok (.string (txt l)) w := by
  subst hn
  by_cases h : 0 < l.length
  · obtain ⟨b, off, rfl, _, hc⟩ := hA.at_ h
    have := run_convert_bytes_arg (P := Tryz.prog) w 66 5 Tryz.underlying66 Tryz.underlying5 b off l.length c ((List.range l.length).map (bt l)) (by simp) (fun i hi => by rw [hc i hi]; simp [hi]) 9 Tryz.underlying9
    rw [strOf_bt] at this
    exact this
  · obtain rfl : l = [] := List.eq_nil_of_length_eq_zero (by omega)
    show (convert 66 9 (.slice A 0 c)).run Tryz.prog w = _
    rw [run_convert_bytes_string w 66 9 5 _ 0 c Tryz.underlying66 Tryz.underlying5 Tryz.underlying9]
    cases A <;> simp [Conv.bytesToString, loadCells]
    all_goals rfl
end Go.Proofs.YtnnlgodgaolkkaaGreatDoor
/- Bits of bytes and of small numbers, as sums. -/
namespace Go.Proofs.YtnnlgodgaolkkaaGreatDoor
open Go

theorem and8 (a : Int) (i : Nat) (hi : i < 8) (h0 : 0 ≤ a) (h1 : a ≤ 255) : bits .and .u8 a ((2 ^ i - 1 : Nat) : Int) = a % ((2 ^ i : Nat) : Int) := by
  have hp : 2 ^ i ≤ 2 ^ 8 := Nat.pow_le_pow_right (by omega) (by omega)
  obtain ⟨n, rfl⟩ := Int.eq_ofNat_of_zero_le h0
  rw [u8_and_nat n _ (by omega) (by omega), Nat.and_two_pow_sub_one_eq_mod]
  omega
theorem and127 (a : Int) (h0 : 0 ≤ a) (h1 : a ≤ 255) : bits .and .u8 a 127 = a % 128 := and8 a 7 (by omega) h0 h1
theorem and63 (a : Int) (h0 : 0 ≤ a) (h1 : a ≤ 255) : bits .and .u8 a 63 = a % 64 := and8 a 6 (by omega) h0 h1
theorem and31 (a : Int) (h0 : 0 ≤ a) (h1 : a ≤ 255) : bits .and .u8 a 31 = a % 32 := and8 a 5 (by omega) h0 h1
theorem and15 (a : Int) (h0 : 0 ≤ a) (h1 : a ≤ 255) : bits .and .u8 a 15 = a % 16 := and8 a 4 (by omega) h0 h1
theorem and7 (a : Int) (h0 : 0 ≤ a) (h1 : a ≤ 255) : bits .and .u8 a 7 = a % 8 := and8 a 3 (by omega) h0 h1
theorem or8 (i x y : Nat) (hi : i < 8) (hx : x % 2 ^ i = 0) (hx' : x < 256) (hy : y < 2 ^ i) : bits .or .u8 (x : Int) (y : Int) = ((x + y : Nat) : Int) := by
  have hp : 2 ^ i ≤ 2 ^ 8 := Nat.pow_le_pow_right (by omega) (by omega)
  rw [u8_or_nat x y hx' (by omega), nat_join i x y hx hy]
theorem or128 (y : Int) (h0 : 0 ≤ y) (h1 : y < 64) : bits .or .u8 128 y = 128 + y := by
  obtain ⟨n, rfl⟩ := Int.eq_ofNat_of_zero_le h0
  have := or8 6 128 n (by omega) (by decide) (by omega) (by omega)
  rw [Int.natCast_add] at this; exact this
theorem or192 (y : Int) (h0 : 0 ≤ y) (h1 : y < 32) : bits .or .u8 192 y = 192 + y := by
  obtain ⟨n, rfl⟩ := Int.eq_ofNat_of_zero_le h0
  have := or8 5 192 n (by omega) (by decide) (by omega) (by omega)
  rw [Int.natCast_add] at this; exact this
theorem or224 (y : Int) (h0 : 0 ≤ y) (h1 : y < 16) : bits .or .u8 224 y = 224 + y := by
  obtain ⟨n, rfl⟩ := Int.eq_ofNat_of_zero_le h0
  have := or8 4 224 n (by omega) (by decide) (by omega) (by omega)
  rw [Int.natCast_add] at this; exact this
theorem or240 (y : Int) (h0 : 0 ≤ y) (h1 : y < 8) : bits .or .u8 240 y = 240 + y := by
  obtain ⟨n, rfl⟩ := Int.eq_ofNat_of_zero_le h0
  have := or8 3 240 n (by omega) (by decide) (by omega) (by omega)
  rw [Int.natCast_add] at this; exact this
theorem or0 (y : Int) (h0 : 0 ≤ y) (h1 : y < 128) : bits .or .u8 0 y = y := by
  obtain ⟨n, rfl⟩ := Int.eq_ofNat_of_zero_le h0
  have := or8 7 0 n (by omega) (by decide) (by omega) (by omega)
  rw [Nat.zero_add] at this; exact this
theorem ofInt64 (a : Nat) (ha : a < 9223372036854775808) : (BitVec.ofInt 64 (a : Int)).toNat = a := by
  rw [BitVec.ofInt_natCast, BitVec.toNat_ofNat]; exact Nat.mod_eq_of_lt (by omega)
theorem or64 (a b : Int) (h0 : 0 ≤ a) (h1 : a < 9007199254740992) (h2 : 0 ≤ b) (h3 : b < 64) : bits .or .i64 (a * 64) b = a * 64 + b := by
  obtain ⟨x, rfl⟩ := Int.eq_ofNat_of_zero_le h0
  obtain ⟨y, rfl⟩ := Int.eq_ofNat_of_zero_le h2
  have e : ((x : Int) * 64) = ((x * 64 : Nat) : Int) := by omega
  rw [e]
  show IntKind.i64.wrap ((BitVec.ofInt 64 ((x * 64 : Nat) : Int) ||| BitVec.ofInt 64 (y : Int)).toNat : Int) = _
  rw [BitVec.toNat_or, ofInt64 _ (by omega), ofInt64 _ (by omega), nat_join 6 (x * 64) y (by omega) (by omega), IntKind.wrap_i64]
  omega
end Go.Proofs.YtnnlgodgaolkkaaGreatDoor
