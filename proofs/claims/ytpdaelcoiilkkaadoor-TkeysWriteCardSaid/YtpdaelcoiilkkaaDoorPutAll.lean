/- The bytes of runes, one behind the other: the program's Put. -/
import Derived.Test.YtpdaelcoiilkkaaDoorPut
namespace Go.Proofs.YtpdaelcoiilkkaaDoor
open Go.RowKit

/-- A number of a list; 0 behind its end. -/
def it (l : List Int) (k : Nat) : Int := l.getD k 0
theorem it_drop (l : List Int) (i k : Nat) : it (l.drop i) k = it l (i + k) := by simp [it, List.getElem?_drop]
/-- A slice of numbers. -/
def Num (w : World) (B : Nat) (A : Option Addr) (l : List Int) : Prop := Lst w B A l.length (fun k => .int .i64 (it l k))
theorem Num.at_ {w : World} {B : Nat} {A : Option Addr} {l : List Int} (h : Num w B A l) {k : Nat} (hk : k < l.length) : ∃ b off, A = some ⟨b, off, none⟩ ∧ b < B ∧ ∀ k, k < l.length → w.cell? ⟨b, off + k, none⟩ = some (.int .i64 (it l k)) := h (by omega)

/-- A rune's bytes, as numbers. -/
def encI (r : Int) : List Int :=
  if r < 128 then [r] else if r < 2048 then [192 + r / 64, 128 + r % 64] else if r < 65536 then [224 + r / 4096, 128 + r / 64 % 64, 128 + r % 64]
  else [240 + r / 262144, 128 + r / 4096 % 64, 128 + r / 64 % 64, 128 + r % 64]
theorem encI_len (r : Int) : ((encI r).length : Int) = 1 + mor r := by
  unfold encI mor; split <;> (try split) <;> (try split) <;> simp
theorem encI_len4 (r : Int) : (encI r).length ≤ 4 ∧ 0 < (encI r).length := by
  unfold encI; split <;> (try split) <;> (try split) <;> simp
theorem knw_bd (r : Int) : 0 ≤ knw r ∧ knw r ≤ 1114111 := by unfold knw; split <;> omega
/-- Bytes as a slice's cells. -/
def bytI (l : List Int) : List Value := l.map (.int .u8)

def PutPost (w : World) (base g j N : Nat) (ds : List Value) (r : Int) (e : Ending) (w' : World) : Prop :=
  e = .returned (.slice (some ⟨g, 0, none⟩) (j + (encI r).length) N) ∧ PR w w' base g N (j + (encI r).length) (ds ++ bytI (encI r))
theorem put_any {r : Int} (h1 : 0 ≤ r) (h2 : r ≤ 1114111) (g j N : Nat) (ds : List Value) {w : World} {base : Nat} (hown : w.ownsRow base 5 1 (.slice (some ⟨g, 0, none⟩) j N) j ds) (hr : j + (encI r).length ≤ N) (hN : N ≤ 65536 * 4) (hh : Heads w) :
    Calls Tryd.prog 104 #[.slice (some ⟨g, 0, none⟩) j N, .int .i64 r] w (PutPost w base g j N ds r) := by
  obtain ⟨p0, p1, p2, p3⟩ := hh
  by_cases a : r < 128
  · have e : encI r = [r] := by rw [encI, if_pos a]
    unfold PutPost
    rw [e] at hr ⊢
    refine (put_0 h1 a g j N ds hown (by simpa using hr) hN p0).mono fun e w' ⟨h, k⟩ => ⟨by simpa using h, by simpa [bytI] using k⟩
  by_cases b : r < 2048
  · have e : encI r = [192 + r / 64, 128 + r % 64] := by rw [encI, if_neg a, if_pos b]
    unfold PutPost
    rw [e] at hr ⊢
    refine (put_1 (by omega) b g j N ds hown (by simpa using hr) hN p1).mono fun e w' ⟨h, k⟩ => ⟨by simpa using h, by simpa [bytI] using k⟩
  by_cases c : r < 65536
  · have e : encI r = [224 + r / 4096, 128 + r / 64 % 64, 128 + r % 64] := by rw [encI, if_neg a, if_neg b, if_pos c]
    unfold PutPost
    rw [e] at hr ⊢
    refine (put_2 (by omega) c g j N ds hown (by simpa using hr) hN p2).mono fun e w' ⟨h, k⟩ => ⟨by simpa using h, by simpa [bytI] using k⟩
  · have e : encI r = [240 + r / 262144, 128 + r / 4096 % 64, 128 + r / 64 % 64, 128 + r % 64] := by rw [encI, if_neg a, if_neg b, if_neg c]
    unfold PutPost
    rw [e] at hr ⊢
    refine (put_3 (by omega) h2 g j N ds hown (by simpa using hr) hN p3).mono fun e w' ⟨h, k⟩ => ⟨by simpa using h, by simpa [bytI] using k⟩

/-- The bytes of the first k numbers. -/
def putTo (l : List Int) : Nat → List Int
  | 0 => []
  | k + 1 => putTo l k ++ encI (knw (it l k))
theorem putTo_len (l : List Int) (k : Nat) : (putTo l k).length ≤ 4 * k := by
  induction k with
  | zero => simp [putTo]
  | succ k ih => have := (encI_len4 (knw (it l k))).1; simp [putTo]; omega
theorem putTo_mono (l : List Int) {i k : Nat} (h : i ≤ k) : (putTo l i).length ≤ (putTo l k).length := by
  induction h with
  | refl => exact Nat.le_refl _
  | step _ ih => simp only [putTo, List.length_append]; omega
/-- The bytes of runes, one behind the other, as numbers. -/
def putI (l : List Int) : List Int := putTo l l.length

theorem known_is {r x : Int} (h : x = knw r) (w : World) : Calls Tryd.prog 103 #[.int .i64 r] w fun e w' => e = .returned (.int .i64 x) ∧ w = w' := h ▸ known_any r w
theorem Heads.below {B : Nat} {w w' : World} (h : Heads w) (hb : Below B w w') (hB : 2 < B) : Heads w' := by
  obtain ⟨h0, h1, h2, h3⟩ := h
  exact ⟨(hb.cell (p := ⟨2, 0, none⟩) hB).trans h0, (hb.cell (p := ⟨2, 1, none⟩) hB).trans h1, (hb.cell (p := ⟨2, 2, none⟩) hB).trans h2, (hb.cell (p := ⟨2, 3, none⟩) hB).trans h3⟩

def PutsPost (w : World) (l : List Int) (e : Ending) (w' : World) : Prop :=
  e = .returned (.slice (some ⟨w.heap.size, 0, none⟩) (putI l).length (putI l).length) ∧ w'.ownsRow w.heap.size 5 1 (.slice (some ⟨w.heap.size, 0, none⟩) (putI l).length (putI l).length) (putI l).length (bytI (putI l)) ∧ Below w.heap.size w w'
/-- What holds at each round's head of the second loop. -/
def SRel (w wr : World) (l : List Int) (k M j : Nat) : Prop :=
  j = (putTo l k).length ∧ wr.ownsRow w.heap.size 5 1 (.slice (some ⟨w.heap.size, 0, none⟩) j M) j (bytI (putTo l k)) ∧ Below w.heap.size w wr ∧ w.heap.size < wr.heap.size
theorem SRel.next {w wr w' : World} {l : List Int} {k M j : Nat} {x : Int} {e : Ending} (h : SRel w wr l k M j) (hx : x = knw (it l k)) (hp : PutPost wr w.heap.size w.heap.size j M (bytI (putTo l k)) x e w') :
    ∃ j', e = .returned (.slice (some ⟨w.heap.size, 0, none⟩) j' M) ∧ SRel w w' l (k + 1) M j' := by
  obtain ⟨hj, hown, hb, hs⟩ := h
  obtain ⟨he, hown', hg⟩ := hp
  subst hx
  refine ⟨_, he, by simp [putTo]; omega, by simpa [putTo, bytI] using hown', hb.grown hg (by omega) (fun _ h => by cases h; exact Nat.le_refl _), Nat.lt_of_lt_of_le hs hg.size⟩

set_option maxHeartbeats 1000000 in
theorem puts_any {l : List Int} {B : Nat} {A : Option Addr} (n c : Nat) {w : World} (hn : n = l.length) (hA : Num w B A l) (hB : B ≤ w.heap.size) (hs : n ≤ 65536) (hH : Heads w) (hz : 2 < w.heap.size) :
    Calls Tryd.prog 100 #[.slice A n c] w (PutsPost w l) := by
  obtain ⟨i0, hi, hz0, hz1, hz2⟩ := info_parts (show (Tryd.prog.info? 5).map (fun i => (i.zero, i.size, i.bytes)) = some (some (.int .u8 0), 1, 1) by kernel_rfl)
  have HH := Lib.hid hH
  have Hn := Lib.hid hn
  have hlen := putTo_len l n
  obtain ⟨M, HM⟩ : ∃ M, Hid (M = (putTo l n).length) := ⟨_, rfl⟩
  clear hn hH
  go_enter Tryd.func100, Tryd.ntmps100
  go_wp2
  go_loop [3, 11] (fun s i => ∃ k : Nat, k ≤ n ∧ i = .int .i64 k ∧ s = .int .i64 ((putTo l k).length : Int)) (fun _ i => n - (intOf i).toNat)
  case atStart => exact ⟨0, Nat.zero_le _, rfl, rfl⟩
  case round =>
    obtain ⟨k, hk, rfl, rfl⟩ := hrel
    have hlk := putTo_len l k
    by_cases hlt : k < n
    · obtain ⟨b, off, rfl, _, hc⟩ := hA.at_ (k := k) (by have := Hn.out; omega)
      have hck := hc k (by have := Hn.out; omega)
      clear hc
      obtain ⟨x, HX⟩ : ∃ x, Hid (x = knw (it l k)) := ⟨_, rfl⟩
      obtain ⟨y, HY⟩ : ∃ y : Int, Hid (mor x = y) := ⟨_, rfl⟩
      have hy : 0 ≤ y ∧ y ≤ 3 := by have := HY.out; unfold mor at this; repeat' split at this
                                    all_goals omega
      have HS := Lib.hid (show (((putTo l (k + 1)).length : Nat) : Int) = (putTo l k).length + (1 + y) by rw [← HY.out, ← encI_len, HX.out]; simp [putTo])
      obtain ⟨hy0, hy3⟩ := hy
      go_wp2_with (first
        | (go_at_call 103; refine (known_is HX.out _).mono ?_; rintro e w' ⟨rfl, rfl⟩)
        | (go_at_call 102; refine (more_is HY.out _).mono ?_; rintro e w' ⟨rfl, rfl⟩))
      go_round
      case rel => exact ⟨k + 1, by omega, by go_num, by rw [HS.out]⟩
      case measure => simp [intOf]; omega
    · obtain rfl : n = k := by omega
      go_wp2_with (at_make; refine wpList_make_own _ rfl _ _ 49 rfl w.heap.size 5 i0 (.int .u8 0) 1 Tryd.underlying49 hi hz0 hz1 .i64 .i64 _ (putTo l n).length rfl rfl rfl (by rw [hz2]; omega) (by unfold maxLen; omega) (Nat.le_refl _) ?_; intro w1 hown1 hg1)
      have R0 : SRel w w1 l 0 (putTo l n).length 0 := ⟨rfl, hown1, (Below.refl _ _).grown hg1 (Nat.le_refl _) (fun _ h => by cases h), (hown1.lt _ rfl).2⟩
      clear hown1 hg1
      go_loopw [6, 26] (fun s i wr => ∃ k j : Nat, k ≤ n ∧ i = .int .i64 k ∧ s = .slice (some ⟨w.heap.size, 0, none⟩) j (putTo l n).length ∧ SRel w wr l k (putTo l n).length j) (fun _ i _ => n - (intOf i).toNat)
      case atStart => exact ⟨0, 0, Nat.zero_le _, rfl, rfl, R0⟩
      case round =>
        obtain ⟨k, j, hk, rfl, rfl, R⟩ := hrel
        clear R0
        by_cases hlt : k < n
        · obtain ⟨b, off, rfl, hbB, hc⟩ := hA.at_ (k := k) (by have := Hn.out; omega)
          have hck : wr.cell? ⟨b, off + k, none⟩ = some (.int .i64 (it l k)) := (R.2.2.1.cell (p := ⟨b, off + k, none⟩) (by show b < _; omega)).trans (hc k (by have := Hn.out; omega))
          clear hc
          obtain ⟨x, HX⟩ : ∃ x, Hid (x = knw (it l k)) := ⟨_, rfl⟩
          have hx := knw_bd (it l k)
          rw [← HX.out] at hx
          obtain ⟨hx0, hx1⟩ := hx
          have hroom : j + (encI x).length ≤ (putTo l n).length := by
            have h1 := putTo_mono l (show k + 1 ≤ n by omega)
            rw [putTo, List.length_append, ← HX.out] at h1
            have := R.1; omega
          have HR := Lib.hid R
          have Hh := Lib.hid (HH.out.below R.2.2.1 hz)
          clear R
          go_wp2_with (first
            | (go_at_call 103; refine (known_is HX.out _).mono ?_; rintro e w' ⟨rfl, rfl⟩)
            | (go_at_call 104; refine (put_any hx0 hx1 w.heap.size j (putTo l n).length (bytI (putTo l k)) HR.out.2.1 hroom (by omega) Hh.out).mono ?_; rintro e w' P; obtain ⟨j', rfl, R'⟩ := SRel.next HR.out HX.out P; clear P))
          go_roundw
          case rel => exact ⟨k + 1, j', by omega, by go_num, rfl, R'⟩
          case measure => simp [intOf]; omega
        · obtain rfl : n = k := by omega
          have hj : j = (putTo l n).length := R.1
          have HR := Lib.hid R
          have e := Lib.hid Hn.out
          clear R
          subst hj
          go_wp2
          go_ret
          have e : putI l = putTo l n := by rw [putI, ← Hn.out]
          unfold PutsPost
          rw [e]
          exact ⟨rfl, HR.out.2.1, HR.out.2.2.1⟩
end Go.Proofs.YtpdaelcoiilkkaaDoor
