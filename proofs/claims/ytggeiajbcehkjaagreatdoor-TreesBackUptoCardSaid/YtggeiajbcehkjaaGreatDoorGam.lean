/- The bytes of runes, one behind the other: the program's Put. -/
import Derived.Test.YtggeiajbcehkjaaGreatDoorGae
import Derived.Test.YtggeiajbcehkjaaGreatDoorGaa
import Derived.OwnWalk
import Derived.Maps.AppendAt
import Derived.Deep.DeepAppendRoom
import Derived.Test.YtggeiajbcehkjaaGreatDoorGal
import Derived.OneCell
import Derived.Lib.AppendStr
import Derived.BigQuiet
import Derived.Deep.QuietTactic
import Derived.Deep.RegionLaw
import Derived.Deep.RegionWith
namespace Go.Proofs.YtggeiajbcehkjaaGreatDoor
open Go.RowKit

/-- A number of a list; 0 behind its end. -/
def it (l : List Int) (k : Nat) : Int := l.getD k 0
/-- A slice of numbers. -/
def Num (w : World) (B : Nat) (A : Option Addr) (l : List Int) : Prop := Lst w B A l.length (fun k => .int .i64 (it l k))
theorem Num.at_ {w : World} {B : Nat} {A : Option Addr} {l : List Int} (h : Num w B A l) {k : Nat} (hk : k < l.length) : ∃ b off, A = some ⟨b, off, none⟩ ∧ b < B ∧ ∀ k, k < l.length → w.cell? ⟨b, off + k, none⟩ = some (.int .i64 (it l k)) := h (by omega)

/-- A rune's bytes, as numbers. -/
def encI (r : Int) : List Int :=
  if r < 128 then [r] else if r < 2048 then [192 + r / 64, 128 + r % 64] else if r < 65536 then [224 + r / 4096, 128 + r / 64 % 64, 128 + r % 64]
  else [240 + r / 262144, 128 + r / 4096 % 64, 128 + r / 64 % 64, 128 + r % 64]
theorem encI_len (r : Int) : ((encI r).length : Int) = 1 + mor r := by
  unfold encI mor; split <;> (try split) <;> (try split) <;> simp
theorem encI_len4 (r : Int) : (encI r).length ≤ 4 ∧ 0 < (encI r).length := by
  unfold encI; split <;> (try split) <;> (try split) <;> simp
theorem knw_bd (r : Int) : 0 ≤ knw r ∧ knw r ≤ 1114111 := by unfold knw; split <;> omega
/-- Bytes as a slice's cells. -/
def bytI (l : List Int) : List Value := l.map (.int .u8)

def PutPost (w : World) (base g j N : Nat) (ds : List Value) (r : Int) (e : Ending) (w' : World) : Prop :=
  e = .returned (.slice (some ⟨g, 0, none⟩) (j + (encI r).length) N) ∧ PR w w' base g N (j + (encI r).length) (ds ++ bytI (encI r))
theorem put_any {r : Int} (h1 : 0 ≤ r) (h2 : r ≤ 1114111) (g j N : Nat) (ds : List Value) {w : World} {base : Nat} (hown : w.ownsRow base 5 1 (.slice (some ⟨g, 0, none⟩) j N) j ds) (hr : j + (encI r).length ≤ N) (hN : N ≤ 65536 * 4) (hh : Heads w) :
    Calls Tryz.prog 275 #[.slice (some ⟨g, 0, none⟩) j N, .int .i64 r] w (PutPost w base g j N ds r) := by
  obtain ⟨p0, p1, p2, p3⟩ := hh
  by_cases a : r < 128
  · have e : encI r = [r] := by rw [encI, if_pos a]
    unfold PutPost
    rw [e] at hr ⊢
    refine (put_0 h1 a g j N ds hown (by simpa using hr) hN p0).mono fun e w' ⟨h, k⟩ => ⟨by simpa using h, by simpa [bytI] using k⟩
  by_cases b : r < 2048
  · have e : encI r = [192 + r / 64, 128 + r % 64] := by rw [encI, if_neg a, if_pos b]
    unfold PutPost
    rw [e] at hr ⊢
    refine (put_1 (by omega) b g j N ds hown (by simpa using hr) hN p1).mono fun e w' ⟨h, k⟩ => ⟨by simpa using h, by simpa [bytI] using k⟩
  by_cases c : r < 65536
  · have e : encI r = [224 + r / 4096, 128 + r / 64 % 64, 128 + r % 64] := by rw [encI, if_neg a, if_neg b, if_pos c]
    unfold PutPost
    rw [e] at hr ⊢
    refine (put_2 (by omega) c g j N ds hown (by simpa using hr) hN p2).mono fun e w' ⟨h, k⟩ => ⟨by simpa using h, by simpa [bytI] using k⟩
  · have e : encI r = [240 + r / 262144, 128 + r / 4096 % 64, 128 + r / 64 % 64, 128 + r % 64] := by rw [encI, if_neg a, if_neg b, if_neg c]
    unfold PutPost
    rw [e] at hr ⊢
    refine (put_3 (by omega) h2 g j N ds hown (by simpa using hr) hN p3).mono fun e w' ⟨h, k⟩ => ⟨by simpa using h, by simpa [bytI] using k⟩

/-- The bytes of the first k numbers. -/
def putTo (l : List Int) : Nat → List Int
  | 0 => []
  | k + 1 => putTo l k ++ encI (knw (it l k))
theorem putTo_len (l : List Int) (k : Nat) : (putTo l k).length ≤ 4 * k := by
  induction k with
  | zero => simp [putTo]
  | succ k ih => have := (encI_len4 (knw (it l k))).1; simp [putTo]; omega
theorem putTo_mono (l : List Int) {i k : Nat} (h : i ≤ k) : (putTo l i).length ≤ (putTo l k).length := by
  induction h with
  | refl => exact Nat.le_refl _
  | step _ ih => simp only [putTo, List.length_append]; omega
/-- The bytes of runes, one behind the other, as numbers. -/
def putI (l : List Int) : List Int := putTo l l.length

theorem known_is {r x : Int} (h : x = knw r) (w : World) : Calls Tryz.prog 274 #[.int .i64 r] w fun e w' => e = .returned (.int .i64 x) ∧ w = w' := h ▸ known_any r w
theorem Heads.below {B : Nat} {w w' : World} (h : Heads w) (hb : Below B w w') (hB : 3 < B) : Heads w' := by
  obtain ⟨h0, h1, h2, h3⟩ := h
  exact ⟨(hb.cell (p := ⟨3, 0, none⟩) hB).trans h0, (hb.cell (p := ⟨3, 1, none⟩) hB).trans h1, (hb.cell (p := ⟨3, 2, none⟩) hB).trans h2, (hb.cell (p := ⟨3, 3, none⟩) hB).trans h3⟩

def PutsPost (w : World) (l : List Int) (e : Ending) (w' : World) : Prop :=
  e = .returned (.slice (some ⟨w.heap.size, 0, none⟩) (putI l).length (putI l).length) ∧ w'.ownsRow w.heap.size 5 1 (.slice (some ⟨w.heap.size, 0, none⟩) (putI l).length (putI l).length) (putI l).length (bytI (putI l)) ∧ Below w.heap.size w w'
/-- What holds at each round's head of the second loop. -/
def SRel (w wr : World) (l : List Int) (k M j : Nat) : Prop :=
  j = (putTo l k).length ∧ wr.ownsRow w.heap.size 5 1 (.slice (some ⟨w.heap.size, 0, none⟩) j M) j (bytI (putTo l k)) ∧ Below w.heap.size w wr ∧ w.heap.size < wr.heap.size
theorem SRel.next {w wr w' : World} {l : List Int} {k M j : Nat} {x : Int} {e : Ending} (h : SRel w wr l k M j) (hx : x = knw (it l k)) (hp : PutPost wr w.heap.size w.heap.size j M (bytI (putTo l k)) x e w') :
    ∃ j', e = .returned (.slice (some ⟨w.heap.size, 0, none⟩) j' M) ∧ SRel w w' l (k + 1) M j' := by
  obtain ⟨hj, hown, hb, hs⟩ := h
  obtain ⟨he, hown', hg⟩ := hp
  subst hx
  refine ⟨_, he, by simp [putTo]; omega, by simpa [putTo, bytI] using hown', hb.grown hg (by omega) (fun _ h => by cases h; exact Nat.le_refl _), Nat.lt_of_lt_of_le hs hg.size⟩

set_option maxHeartbeats 1000000 in
theorem puts_any {l : List Int} {B : Nat} {A : Option Addr} (n c : Nat) {w : World} (hn : n = l.length) (hA : Num w B A l) (hB : B ≤ w.heap.size) (hs : n ≤ 65536) (hH : Heads w) (hz : 3 < w.heap.size) :
    Calls Tryz.prog 259 #[.slice A n c] w (PutsPost w l) := by
  obtain ⟨i0, hi, hz0, hz1, hz2⟩ := info_parts (show (Tryz.prog.info? 5).map (fun i => (i.zero, i.size, i.bytes)) = some (some (.int .u8 0), 1, 1) by kernel_rfl)
  have HH := Lib.hid hH
  have Hn := Lib.hid hn
  have hlen := putTo_len l n
  obtain ⟨M, HM⟩ : ∃ M, Hid (M = (putTo l n).length) := ⟨_, rfl⟩
  clear hn hH
  go_enter Tryz.func259, Tryz.ntmps259
  go_wp2
  go_loop [3, 11] (fun s i => ∃ k : Nat, k ≤ n ∧ i = .int .i64 k ∧ s = .int .i64 ((putTo l k).length : Int)) (fun _ i => n - (intOf i).toNat)
  case atStart => exact ⟨0, Nat.zero_le _, rfl, rfl⟩
  case round =>
    obtain ⟨k, hk, rfl, rfl⟩ := hrel
    have hlk := putTo_len l k
    by_cases hlt : k < n
    · obtain ⟨b, off, rfl, _, hc⟩ := hA.at_ (k := k) (by have := Hn.out; omega)
      have hck := hc k (by have := Hn.out; omega)
      clear hc
      obtain ⟨x, HX⟩ : ∃ x, Hid (x = knw (it l k)) := ⟨_, rfl⟩
      obtain ⟨y, HY⟩ : ∃ y : Int, Hid (mor x = y) := ⟨_, rfl⟩
      have hy : 0 ≤ y ∧ y ≤ 3 := by have := HY.out; unfold mor at this; repeat' split at this
                                    all_goals omega
      have HS := Lib.hid (show (((putTo l (k + 1)).length : Nat) : Int) = (putTo l k).length + (1 + y) by rw [← HY.out, ← encI_len, HX.out]; simp [putTo])
      obtain ⟨hy0, hy3⟩ := hy
      go_wp2_with (first
        | (go_at_call 274; refine (known_is HX.out _).mono ?_; rintro e w' ⟨rfl, rfl⟩)
        | (go_at_call 273; refine (more_is HY.out _).mono ?_; rintro e w' ⟨rfl, rfl⟩))
      go_round
      case rel => exact ⟨k + 1, by omega, by go_num, by rw [HS.out]⟩
      case measure => simp [intOf]; omega
    · obtain rfl : n = k := by omega
      go_wp2_with (at_make; refine wpList_make_own _ rfl _ _ 41 rfl w.heap.size 5 i0 (.int .u8 0) 1 Tryz.underlying41 hi hz0 hz1 .i64 .i64 _ (putTo l n).length rfl rfl rfl (by rw [hz2]; omega) (by unfold maxLen; omega) (Nat.le_refl _) ?_; intro w1 hown1 hg1)
      have R0 : SRel w w1 l 0 (putTo l n).length 0 := ⟨rfl, hown1, (Below.refl _ _).grown hg1 (Nat.le_refl _) (fun _ h => by cases h), (hown1.lt _ rfl).2⟩
      clear hown1 hg1
      go_loopw [6, 26] (fun s i wr => ∃ k j : Nat, k ≤ n ∧ i = .int .i64 k ∧ s = .slice (some ⟨w.heap.size, 0, none⟩) j (putTo l n).length ∧ SRel w wr l k (putTo l n).length j) (fun _ i _ => n - (intOf i).toNat)
      case atStart => exact ⟨0, 0, Nat.zero_le _, rfl, rfl, R0⟩
      case round =>
        obtain ⟨k, j, hk, rfl, rfl, R⟩ := hrel
        clear R0
        by_cases hlt : k < n
        · obtain ⟨b, off, rfl, hbB, hc⟩ := hA.at_ (k := k) (by have := Hn.out; omega)
          have hck : wr.cell? ⟨b, off + k, none⟩ = some (.int .i64 (it l k)) := (R.2.2.1.cell (p := ⟨b, off + k, none⟩) (by show b < _; omega)).trans (hc k (by have := Hn.out; omega))
          clear hc
          obtain ⟨x, HX⟩ : ∃ x, Hid (x = knw (it l k)) := ⟨_, rfl⟩
          have hx := knw_bd (it l k)
          rw [← HX.out] at hx
          obtain ⟨hx0, hx1⟩ := hx
          have hroom : j + (encI x).length ≤ (putTo l n).length := by
            have h1 := putTo_mono l (show k + 1 ≤ n by omega)
            rw [putTo, List.length_append, ← HX.out] at h1
            have := R.1; omega
          have HR := Lib.hid R
          have Hh := Lib.hid (HH.out.below R.2.2.1 hz)
          clear R
          go_wp2_with (first
            | (go_at_call 274; refine (known_is HX.out _).mono ?_; rintro e w' ⟨rfl, rfl⟩)
            | (go_at_call 275; refine (put_any hx0 hx1 w.heap.size j (putTo l n).length (bytI (putTo l k)) HR.out.2.1 hroom (by omega) Hh.out).mono ?_; rintro e w' P; obtain ⟨j', rfl, R'⟩ := SRel.next HR.out HX.out P; clear P))
          go_roundw
          case rel => exact ⟨k + 1, j', by omega, by go_num, rfl, R'⟩
          case measure => simp [intOf]; omega
        · obtain rfl : n = k := by omega
          have hj : j = (putTo l n).length := R.1
          have HR := Lib.hid R
          have e := Lib.hid Hn.out
          clear R
          subst hj
          go_wp2
          go_ret
          have e : putI l = putTo l n := by rw [putI, ← Hn.out]
          unfold PutsPost
          rw [e]
          exact ⟨rfl, HR.out.2.1, HR.out.2.2.1⟩
end Go.Proofs.YtggeiajbcehkjaaGreatDoor
/- Bytes put behind bytes by append, whatever slice they come from. -/
namespace Go.Proofs.YtggeiajbcehkjaaGreatDoor
open Go.RowKit

/-- A list's bytes as cells. -/
def bytV (l : List UInt8) : List Value := l.map (fun c => Value.int .u8 (c.toNat : Int))
theorem bytV_len (l : List UInt8) : (bytV l).length = l.length := by simp [bytV]
theorem bytV_at {l : List UInt8} {j : Nat} {u : Value} (h : (bytV l)[j]? = some u) : j < l.length ∧ u = .int .u8 (bt l j) := by
  unfold bytV at h
  rw [List.getElem?_map] at h
  obtain ⟨c, hc, rfl⟩ := Option.map_eq_some_iff.1 h
  obtain ⟨hj, rfl⟩ := List.getElem?_eq_some_iff.1 hc
  exact ⟨hj, by simp [bt, hj]⟩
theorem bytV_cells {w : World} {B : Nat} {ad : Addr} {l : List UInt8} (h : Byt w B (some ad) l) : ∀ j u, (bytV l)[j]? = some u → w.cell? (ad.add j) = some u := fun j u hu => by
  obtain ⟨hj, rfl⟩ := bytV_at hu
  obtain ⟨b, off, e, _, hc⟩ := h.at_ hj
  obtain rfl := Option.some.inj e
  rw [addAt, hc j hj]
theorem bytV_one (l : List UInt8) : ∀ u ∈ bytV l, u.oneCell' = true := fun u hu => by
  obtain ⟨_, _, rfl⟩ := List.mem_map.1 hu
  rfl
theorem byt_none {w : World} {B : Nat} {l : List UInt8} (h : Byt w B none l) : l = [] := by
  rcases Nat.eq_zero_or_pos l.length with h0 | h0
  · exact List.eq_nil_of_length_eq_zero h0
  · obtain ⟨_, _, e, _⟩ := h.at_ h0; cases e

/-- What an owned row is as a slice of bytes. -/
theorem own_form {w : World} {base n : Nat} {v : Value} {l : List UInt8} (h : w.ownsRow base 5 1 v n (bytV l)) :
    ∃ A c, v = .slice A n c ∧ n ≤ c ∧ c ≤ maxLen ∧ n = l.length ∧ Byt w w.heap.size A l ∧ (A = none → c = 0) := by
  have hn : n = l.length := by have := h.1; rw [bytV_len] at this; omega
  rcases h.2 with ⟨rfl, rfl⟩ | ⟨g, cap, cur, rfl, _, _, hnc, hcm, _⟩
  · exact ⟨none, 0, rfl, Nat.le_refl _, Nat.zero_le _, hn, fun hl => absurd hl (by omega), fun _ => rfl⟩
  · refine ⟨some ⟨g, 0, none⟩, cap, rfl, hnc, hcm, hn, fun _ => ⟨g, 0, rfl, (h.lt _ rfl).2, fun k hk => ?_⟩, fun h => by cases h⟩
    rw [Nat.zero_add, h.cellAt k (by omega)]
    simp [bytV, bt, hk]
end Go.Proofs.YtggeiajbcehkjaaGreatDoor
/- The document's answer on the bytes of runes, walked. -/
namespace Go.Proofs.YtggeiajbcehkjaaGreatDoor
open Go.RowKit

theorem cells_new {w : World} {t : TypeId} (cs : Array Value) (xs : List Value) (h : cs.toList = xs) : ∀ j u, xs[j]? = some u → (w.alloc (.cells cs t)).cell? ((⟨w.heap.size, 0, none⟩ : Addr).add j) = some u := fun j u hu => by
  rw [addAt, World.cell?_alloc_at _ _ _ _ rfl, ← Array.getElem?_toList, h, Nat.zero_add, hu]
/-- A byte of a number. -/
def b8 (x : Int) : UInt8 := UInt8.ofNat x.toNat
theorem encI_bd {r : Int} (h0 : 0 ≤ r) (h1 : r ≤ 1114111) : ∀ x ∈ encI r, 0 ≤ x ∧ x ≤ 255 := by
  unfold encI
  intro x hx
  repeat' split at hx
  all_goals
    simp at hx
    omega
theorem putTo_bd (l : List Int) (k : Nat) : ∀ x ∈ putTo l k, 0 ≤ x ∧ x ≤ 255 := by
  induction k with
  | zero => intro x hx; simp [putTo] at hx
  | succ k ih =>
    intro x hx
    simp only [putTo, List.mem_append] at hx
    rcases hx with hx | hx
    · exact ih x hx
    · exact encI_bd (knw_bd _).1 (knw_bd _).2 x hx
/-- The bytes of runes. -/
def puts (l : List Int) : List UInt8 := (putI l).map b8
theorem bytV_puts (l : List Int) : bytI (putI l) = bytV (puts l) := by
  unfold bytI bytV puts
  rw [List.map_map]
  apply List.map_congr_left
  intro x hx
  have := putTo_bd l _ x hx
  simp only [Function.comp, b8]
  rw [UInt8.toNat_ofNat_of_lt' (by simp [UInt8.size]; omega)]
  congr 1; omega
/-- What holds at each round's head. -/
def URel (w wr : World) (l : List Int) (k j : Nat) (v : Value) : Prop :=
  j = (putTo l k).length ∧ wr.ownsRow w.heap.size 5 1 v j (bytI (putTo l k)) ∧ Below w.heap.size w wr ∧ (v.ownBlock = none ∨ ∃ g, v.ownBlock = some g ∧ w.heap.size ≤ g)
theorem URel.next {w wr w2 : World} {l : List Int} {k j m : Nat} {v v2 : Value} {o : Obj} {r : Int} {news : List Value} (h : URel w wr l k j v) (hr : r = knw (it l k)) (hn : news = bytI (encI r)) (hm : m = news.length)
    (hown : w2.ownsRow w.heap.size 5 1 v2 (j + m) (bytI (putTo l k) ++ news)) (hg : (wr.alloc o).grownBy w2 v.ownBlock) : URel w w2 l (k + 1) (j + m) v2 := by
  obtain ⟨hj, _, hb, hv⟩ := h
  subst hr; subst hn; subst hm
  refine ⟨by simp [putTo, bytI]; omega, by simpa [putTo, bytI] using hown, ?_, ?_⟩
  · refine (hb.alloc (by exact hb.size) o).grown hg (by have := hb.size; simp; omega) (fun g e => ?_)
    rcases hv with h | ⟨g', h, h'⟩
    · rw [h] at e; cases e
    · rw [h] at e; cases e; exact h'
  · rcases hown.2 with ⟨e, _⟩ | ⟨g, cap, cur, e, hbg, _⟩
    · exact .inl (by rw [e]; rfl)
    · exact .inr ⟨g, by rw [e]; rfl, hbg⟩
def RPutPost (w : World) (l : List Int) (e : Ending) (w' : World) : Prop :=
  ∃ A N c, e = .returned (.slice A N c) ∧ N = (puts l).length ∧ N ≤ c ∧ c ≤ maxLen ∧ Byt w' w'.heap.size A (puts l) ∧ Below w.heap.size w w'
theorem URel.stop {w wr : World} {l : List Int} {j : Nat} {v : Value} (h : URel w wr l l.length j v) : RPutPost w l (.returned v) wr := by
  obtain ⟨hj, hown, hb, _⟩ := h
  have e : bytI (putTo l l.length) = bytV (puts l) := bytV_puts l
  rw [e] at hown
  obtain ⟨A, c, rfl, h1, h2, h3, h4, _⟩ := own_form hown
  exact ⟨A, j, c, rfl, h3, h1, h2, h4, hb⟩

end Go.Proofs.YtggeiajbcehkjaaGreatDoor
/- A string's reader in memory: what it holds, and what keeps it. -/
namespace Go.Proofs.YtggeiajbcehkjaaGreatDoor
open Go.RowKit

abbrev rdo (s : ByteArray) (p : Int) (v : Value) : Obj := .cells #[.string s, .int .i64 p, v] 232
/-- The reader lies in block b, of the text s, at place p; it has told t; nothing that W had has turned. -/
def RS (W : World) (b : Nat) (s : ByteArray) (w : World) (p : Int) (t : List UInt8) : Prop :=
  Below W.heap.size W w ∧ W.heap.size ≤ b ∧ ∃ v, w.heap[b]? = some (rdo s p v) ∧ w.ownsRow W.heap.size 5 1 v t.length (bytV t)
theorem rd_cells {w : World} {b : Nat} {s : ByteArray} {p : Int} {v : Value} (h : w.heap[b]? = some (rdo s p v)) :
    w.cell? ⟨b, 0, none⟩ = some (.string s) ∧ w.cell? ⟨b, 1, none⟩ = some (.int .i64 p) ∧ w.cell? ⟨b, 2, none⟩ = some v ∧ ∀ i, w.frozen? ⟨b, i, none⟩ = false := by
  simp [World.cell?, World.frozen?, h]
theorem not_own {w : World} {b base n : Nat} {s : ByteArray} {p : Int} {v u : Value} {xs : List Value} (h : w.heap[b]? = some (rdo s p v)) (hown : w.ownsRow base 5 1 u n xs) : u.ownBlock ≠ some b := by
  rcases hown.2 with ⟨rfl, _⟩ | ⟨g, cap, cur, rfl, _, hg, _⟩
  · intro h; cases h
  · intro e
    obtain rfl : g = b := by simpa [Value.ownBlock] using e
    rw [h] at hg
    injection hg with hg
    injection hg with _ h2 _
    exact absurd h2 (by decide)
section
variable {W w w' : World} {b : Nat} {s : ByteArray} {p : Int} {t : List UInt8}
theorem RS.drewN (h : RS W b s w p t) (n : Nat) : RS W b s (w.drewN n) p t := by
  obtain ⟨h1, h2, v, h3, h4⟩ := h
  exact ⟨⟨h1.os, h1.tape, h1.output, h1.size, h1.block⟩, h2, v, h3, h4⟩
theorem RS.drew (h : RS W b s w p t) : RS W b s w.drew p t := h.drewN 1
theorem RS.lt (h : RS W b s w p t) : b < w.heap.size := by
  obtain ⟨_, _, v, h3, _⟩ := h
  exact lt_of_block h3
theorem RS.grown (h : RS W b s w p t) (hg : w.grownBy w' none) : RS W b s w' p t := by
  have hl := h.lt
  obtain ⟨h1, h2, v, h3, h4⟩ := h
  exact ⟨h1.grown hg h1.size (fun _ e => by cases e), h2, v, (hg.block b hl (fun e => by cases e)).trans h3, h4.kept hg (by
    rcases h : v.ownBlock with _ | g
    · exact .inl rfl
    · exact .inr (by simp))⟩
theorem RS.alloc (h : RS W b s w p t) (o : Obj) : RS W b s (w.alloc o) p t := h.grown (World.grownBy_alloc w o none)
theorem RS.below (h : RS W b s w p t) (hb : Below w.heap.size w w') : RS W b s w' p t := h.grown ⟨hb.os, hb.tape, hb.output, hb.size, fun k hk _ => hb.block k hk⟩
theorem RS.pos (h : RS W b s w p t) (q : Int) : RS W b s (w.setCell ⟨b, 1, none⟩ (.int .i64 q)) q t := by
  obtain ⟨h1, h2, v, h3, h4⟩ := h
  exact ⟨h1.setCell h2 _, h2, v, by rw [heap_setCell_same _ _ _ _ _ _ h3]; rfl, ownsRow_setCell_other h4 (not_own h3 h4) _⟩
/-- The same, with the text's slice named. -/
def RV (W : World) (b : Nat) (s : ByteArray) (w : World) (p : Int) (t : List UInt8) (v : Value) : Prop :=
  Below W.heap.size W w ∧ W.heap.size ≤ b ∧ w.heap[b]? = some (rdo s p v) ∧ w.ownsRow W.heap.size 5 1 v t.length (bytV t)
theorem RS.rv (h : RS W b s w p t) : ∃ v, RV W b s w p t v := by
  obtain ⟨h1, h2, v, h3, h4⟩ := h
  exact ⟨v, h1, h2, h3, h4⟩
theorem RV.rs {v : Value} (h : RV W b s w p t v) : RS W b s w p t := ⟨h.1, h.2.1, v, h.2.2.1, h.2.2.2⟩
theorem RV.drewN {v : Value} (h : RV W b s w p t v) (n : Nat) : RV W b s (w.drewN n) p t v := by
  obtain ⟨h1, h2, h3, h4⟩ := h
  exact ⟨⟨h1.os, h1.tape, h1.output, h1.size, h1.block⟩, h2, h3, h4⟩
theorem RV.drew {v : Value} (h : RV W b s w p t v) : RV W b s w.drew p t v := h.drewN 1
theorem RV.grown {v : Value} (h : RV W b s w p t v) (hg : w.grownBy w' none) : RV W b s w' p t v := by
  obtain ⟨h1, h2, h3, h4⟩ := h
  exact ⟨h1.grown hg h1.size (fun _ e => by cases e), h2, (hg.block b (lt_of_block h3) (fun e => by cases e)).trans h3, h4.kept hg (by
    rcases h : v.ownBlock with _ | g
    · exact .inl rfl
    · exact .inr (by simp))⟩
theorem RV.alloc {v : Value} (h : RV W b s w p t v) (o : Obj) : RV W b s (w.alloc o) p t v := h.grown (World.grownBy_alloc w o none)
theorem RV.below {v : Value} (h : RV W b s w p t v) (hb : Below w.heap.size w w') : RV W b s w' p t v := h.grown ⟨hb.os, hb.tape, hb.output, hb.size, fun k hk _ => hb.block k hk⟩
theorem RV.cells {v : Value} (h : RV W b s w p t v) : w.cell? ⟨b, 0, none⟩ = some (.string s) ∧ w.cell? ⟨b, 1, none⟩ = some (.int .i64 p) ∧ w.cell? ⟨b, 2, none⟩ = some v ∧ ∀ i, w.frozen? ⟨b, i, none⟩ = false := rd_cells h.2.2.1
/-- More is told. -/
theorem RS.text {v v' : Value} {u : List UInt8} (h1 : Below W.heap.size W w) (h2 : W.heap.size ≤ b) (h3 : w.heap[b]? = some (rdo s p v)) (h4 : w.ownsRow W.heap.size 5 1 v t.length (bytV t))
    (hown : w'.ownsRow W.heap.size 5 1 v' (t.length + u.length) (bytV t ++ bytV u)) (hg : w.grownBy w' v.ownBlock) : (∃ A n c, v' = .slice A n c) ∧ w'.heap[b]? = some (rdo s p v) ∧ RS W b s (w'.setCell ⟨b, 2, none⟩ v') p (t ++ u) := by
  have h5 : w'.heap[b]? = some (rdo s p v) := (hg.block b (lt_of_block h3) (fun e => not_own h3 h4 e.symm)).trans h3
  refine ⟨?_, h5, (h1.grown hg h1.size (fun g e => ?_)).setCell h2 _, h2, v', by rw [heap_setCell_same _ _ _ _ _ _ h5]; rfl, ownsRow_setCell_other ?_ (not_own h5 hown) _⟩
  · rcases hown.2 with ⟨rfl, _⟩ | ⟨g', cap, cur, rfl, _⟩
    · exact ⟨_, _, _, rfl⟩
    · exact ⟨_, _, _, rfl⟩
  · rcases h4.2 with ⟨rfl, _⟩ | ⟨g', cap, cur, rfl, hb, _⟩
    · cases e
    · obtain rfl : g' = g := by simpa [Value.ownBlock] using e
      exact hb
  · have e : bytV (t ++ u) = bytV t ++ bytV u := by simp [bytV]
    rw [e, List.length_append]; exact hown
theorem RV.text {v v' : Value} {u : List UInt8} (h : RV W b s w p t v) (hown : w'.ownsRow W.heap.size 5 1 v' (t.length + u.length) (bytV t ++ bytV u)) (hg : w.grownBy w' v.ownBlock) :
    (∃ A n c, v' = .slice A n c) ∧ w'.heap[b]? = some (rdo s p v) ∧ RS W b s (w'.setCell ⟨b, 2, none⟩ v') p (t ++ u) := RS.text h.1 h.2.1 h.2.2.1 h.2.2.2 hown hg
end
/-- append within a region that draws, from a row that is known. -/
theorem jstep_app {P : Program} {w : World} {ops : Array Oper} {o : Oper} {a : Act} {K : Act → World → Prop} {Q : Exit → Act → World → Prop} {E : Prop} (hgd : o.guard = none) (s x : Operand) (t : TypeId)
    (ho : o.op = .call { callee := .builtin .append, args := #[s, x], argTypes := #[t, t] })
    (base : Nat) (e : TypeId) (i : TypeInfo) (z : Value) (bytes : Nat) (h1 : P.underlying t = some (.slice e)) (h2 : P.info? e = some i) (h3 : i.zero = some z) (h4 : i.size = 1) (h5 : i.bytes = bytes) (h6 : z.cells.size = 1)
    (v : Value) (n : Nat) (xs : List Value) (hs : a.eval s = v) (hown : w.ownsRow base e 1 v n xs) (ao : Option Addr) (m c : Nat) (B : Nat) (l : List UInt8) (hx : a.eval x = .slice ao m c) (hm : m = l.length) (hA : Byt w B ao l) (hnone : ao = none → c = 0)
    (h63 : n + m ≤ maxLen) (hbytes : (n + m) * bytes ≤ 140737488355328) (hbase : base ≤ w.heap.size)
    (hK : ∀ v' w', w'.ownsRow base e 1 v' (n + m) (xs ++ bytV l) → w.grownBy w' v.ownBlock → K (a.put o.dst v') w') :
    if Region.wanted o (yielded ops a.tmps) = true then Oper.wp P o a w K Q else E := by
  have hw : Region.wanted o (yielded ops a.tmps) = true := by simp [Region.wanted, hgd]
  rw [if_pos hw]
  cases ao with
  | some ad =>
    obtain ⟨v', w', hrun, r1, r2, _, r3⟩ := run_append_own_at (P := P) w base t o.type e i z 1 bytes h1 h2 h3 h4 h5 h6 (by omega) v n xs hown ad m c (bytV l) (by rw [bytV_len]; omega) (bytV_cells hA) (bytV_one l) h63 hbytes hbase
    unfold Oper.wp
    simp [execOp, ho, resolve, invoke, builtin, hs, hx, hrun, Result.andThen]
    exact hK v' w' r1 r2
  | none =>
    obtain rfl := byt_none hA
    obtain rfl : m = 0 := hm
    obtain rfl := hnone rfl
    have hrun := run_append_owned_none (P := P) w base t o.type e i 1 h1 h2 _ n xs hown
    unfold Oper.wp
    simp [execOp, ho, resolve, invoke, builtin, hs, hx, hrun, Result.andThen]
    exact hK v w (by simpa [bytV] using hown) (World.grownBy.refl _ _)
end Go.Proofs.YtggeiajbcehkjaaGreatDoor
/- The reader's take: a byte, if it stands here. -/
namespace Go.Proofs.YtggeiajbcehkjaaGreatDoor
open Go.RowKit

section
variable {W w : World} {b : Nat} {s : ByteArray} {p : Nat} {t l : List UInt8} {c : Int}
theorem take_yes (h : RS W b s w p t) (hs : s = txt l) (hl : l.length ≤ 1000000) (hp : p < l.length) (hc : bt l p = c) :
    Calls Tryz.prog 214 #[.pointer (some ⟨b, 0, none⟩), .int .u8 c] w fun e w' => e = .returned (.bool true) ∧ RS W b s w' ((p + 1 : Nat) : Int) t := by
  have HR := Lib.hid h
  obtain ⟨_, _, v, h3, _⟩ := h
  obtain ⟨c0, c1, c2, cf⟩ := rd_cells h3
  have f1 := cf 1
  have hsz : s.size = l.length := by rw [hs, txt_size]
  have hx := txt_at hs (k := p)
  have hz : p < s.size := by omega
  have hs1 : s.size ≤ 1000000 := by omega
  have g1 : ((p : Int) == (s.size : Int)) = false := by simp; omega
  have g2 : (bt l p != c) = false := by simp [hc]
  clear hs hl hp hc h3 cf hsz
  go_enter Tryz.func214, Tryz.ntmps214
  go_wp2_with fail
  go_quiet (fail)
  go_wp2_with fail
  go_ret
  exact ⟨rfl, by have := (HR.out.drewN nq).pos ((p + 1 : Nat) : Int); simpa using this⟩
theorem take_end (h : RS W b s w p t) (hs : s = txt l) (hp : p = l.length) :
    Calls Tryz.prog 214 #[.pointer (some ⟨b, 0, none⟩), .int .u8 c] w fun e w' => e = .returned (.bool false) ∧ RS W b s w' p t := by
  have HR := Lib.hid h
  obtain ⟨_, _, v, h3, _⟩ := h
  obtain ⟨c0, c1, c2, cf⟩ := rd_cells h3
  have hsz : s.size = l.length := by rw [hs, txt_size]
  have g1 : ((p : Int) == (s.size : Int)) = true := by simp; omega
  clear hs hp h3 cf hsz
  go_enter Tryz.func214, Tryz.ntmps214
  go_wp2_with fail
  go_quiet (fail)
  go_wp2_with fail
  go_ret
  exact ⟨rfl, HR.out.drewN nq⟩
theorem take_no (h : RS W b s w p t) (hs : s = txt l) (hl : l.length ≤ 1000000) (hp : p < l.length) (hc : bt l p ≠ c) :
    Calls Tryz.prog 214 #[.pointer (some ⟨b, 0, none⟩), .int .u8 c] w fun e w' => e = .returned (.bool false) ∧ RS W b s w' p t := by
  have HR := Lib.hid h
  obtain ⟨_, _, v, h3, _⟩ := h
  obtain ⟨c0, c1, c2, cf⟩ := rd_cells h3
  have hsz : s.size = l.length := by rw [hs, txt_size]
  have hx := txt_at hs (k := p)
  have hz : p < s.size := by omega
  have hs1 : s.size ≤ 1000000 := by omega
  have g1 : ((p : Int) == (s.size : Int)) = false := by simp; omega
  have g2 : (bt l p != c) = true := by simp [hc]
  clear hs hl hp hc h3 cf hsz
  go_enter Tryz.func214, Tryz.ntmps214
  go_wp2_with fail
  go_quiet (fail)
  go_wp2_with fail
  go_ret
  exact ⟨rfl, HR.out.drewN nq⟩
/-- Whether the byte is taken, and where it then stands. -/
def tkB (l : List UInt8) (p : Nat) (c : Int) : Bool := decide (p < l.length ∧ bt l p = c)
theorem take_any (h : RS W b s w p t) (hs : s = txt l) (hl : l.length ≤ 1000000) (hp : p ≤ l.length) (c : Int) {B : Bool} (hB : B = tkB l p c) :
    Calls Tryz.prog 214 #[.pointer (some ⟨b, 0, none⟩), .int .u8 c] w fun e w' => e = .returned (.bool B) ∧ RS W b s w' ((if B = true then p + 1 else p : Nat) : Int) t := by
  by_cases h1 : p < l.length
  · by_cases h2 : bt l p = c
    · have e : B = true := by rw [hB, tkB]; simp [h1, h2]
      subst e
      exact take_yes h hs hl h1 h2
    · have e : B = false := by rw [hB, tkB]; simp [h2]
      subst e
      exact take_no h hs hl h1 h2
  · have e : B = false := by rw [hB, tkB]; simp [h1]
    subst e
    have hp2 : p = l.length := by omega
    exact take_end h hs hp2
end
end Go.Proofs.YtggeiajbcehkjaaGreatDoor
