/- Are lists of bytes the same? Are lists of numbers? The law's own helpers. -/
import Derived.Test.YtllnnogdpagioaaDoorPutAll
import Derived.Test.YtllnnogdpagioaaDoorPlace
import Derived.Laws.BytesArg
import Derived.Deep.QuietTactic
import Derived.BigQuiet
namespace Go.Proofs.YtllnnogdpagioaaDoor
open Go.RowKit

theorem strOf_bt (l : List UInt8) : strOfNums ((List.range l.length).map (bt l)) = ⟨l.toArray⟩ := by
  unfold strOfNums
  congr 2
  exact bytesOf_bt l
theorem conv_bytes {l : List UInt8} {B : Nat} {A : Option Addr} (n c : Nat) {w : World} (hn : n = l.length) (hA : Byt w B A l) : (convert 22 9 (.slice A n c)).run Tryd.prog w = .ok (.string ⟨l.toArray⟩) w := by
  subst hn
  by_cases h : 0 < l.length
  · obtain ⟨b, off, rfl, _, hc⟩ := hA.at_ h
    have := run_convert_bytes_arg (P := Tryd.prog) w 22 5 Tryd.underlying22 Tryd.underlying5 b off l.length c ((List.range l.length).map (bt l)) (by simp) (fun i hi => by rw [hc i hi]; simp [hi]) 9 Tryd.underlying9
    rw [strOf_bt] at this
    exact this
  · obtain rfl : l = [] := List.eq_nil_of_length_eq_zero (by omega)
    show (convert 22 9 (.slice A 0 c)).run Tryd.prog w = _
    rw [run_convert_bytes_string w 22 9 5 _ 0 c Tryd.underlying22 Tryd.underlying5 Tryd.underlying9]
    cases A <;> simp [Conv.bytesToString, loadCells]
    all_goals rfl

theorem sameb_any {l m : List UInt8} {B B' : Nat} {A A' : Option Addr} (n c n' c' : Nat) {w : World} (hn : n = l.length) (hA : Byt w B A l) (hn' : n' = m.length) (hA' : Byt w B' A' m) :
    Calls Tryd.prog 22 #[.slice A n c, .slice A' n' c'] w fun e w' => e = .returned (.bool (decide (l = m))) ∧ w = w' := by
  obtain ⟨s, HS⟩ : ∃ s : ByteArray, Hid (s = ⟨l.toArray⟩) := ⟨_, rfl⟩
  obtain ⟨t, HT⟩ : ∃ t : ByteArray, Hid (t = ⟨m.toArray⟩) := ⟨_, rfl⟩
  have h1 := conv_bytes n c hn hA
  have h2 := conv_bytes n' c' hn' hA'
  rw [← HS.out] at h1
  rw [← HT.out] at h2
  clear hn hA hn' hA'
  go_enter Tryd.func22, Tryd.ntmps22
  go_wp2
  go_ret
  refine ⟨ret_bool ?_, rfl⟩
  rw [HS.out, HT.out]
  rw [Bool.eq_iff_iff]
  simp

/-- The first k are the same. -/
def PEq (l m : List Int) (k : Nat) : Prop := ∀ j, j < k → it l j = it m j
theorem PEq.next {l m : List Int} {k : Nat} (h : PEq l m k) (e : it l k = it m k) : PEq l m (k + 1) := fun j hj => by
  rcases Nat.lt_or_ge j k with h1 | h1
  · exact h j h1
  · obtain rfl : j = k := by omega
    exact e
theorem PEq.all {l m : List Int} {k : Nat} (h : PEq l m k) (h1 : l.length = k) (h2 : m.length = k) : l = m := by
  apply List.ext_getElem (by omega)
  intro i hi hi'
  have := h i (by omega)
  simpa [it, hi, hi'] using this
theorem it_ne {l m : List Int} {k : Nat} (h : it l k ≠ it m k) : l ≠ m := fun e => h (by rw [e])

set_option maxHeartbeats 1000000 in
theorem samen_len {l m : List Int} {A A' : Option Addr} (n c n' c' : Nat) {w : World} (hn : n = l.length) (hn' : n' = m.length) (_hm : n ≤ maxLen) (_hm' : n' ≤ maxLen) (hne : n ≠ n') :
    Calls Tryd.prog 14 #[.slice A n c, .slice A' n' c'] w fun e w' => e = .returned (.bool (decide (l = m))) ∧ ∃ k, w' = w.drewN k := by
  have HE := Lib.hid (show decide (l = m) = false by simp; intro h; exact hne (by rw [hn, hn', h]))
  unfold maxLen at _hm _hm'
  clear hn hn'
  have hne' : ¬ (n : Int) = n' := by omega
  go_enter Tryd.func14, Tryd.ntmps14
  go_wp2
  go_ret
  exact ⟨ret_bool HE.out.symm, 0, rfl⟩
set_option maxHeartbeats 1000000 in
theorem samen_eq {l m : List Int} {B B' : Nat} {A A' : Option Addr} (n c c' : Nat) {w : World} (hn : n = l.length) (hA : Num w B A l) (hn' : n = m.length) (hA' : Num w B' A' m) (hm : n ≤ maxLen) :
    Calls Tryd.prog 14 #[.slice A n c, .slice A' n c'] w fun e w' => e = .returned (.bool (decide (l = m))) ∧ ∃ k, w' = w.drewN k := by
  unfold maxLen at hm
  have Hn := Lib.hid hn
  have Hn' := Lib.hid hn'
  clear hn hn'
  go_enter Tryd.func14, Tryd.ntmps14
  go_wp2
  go_loopw [5] (fun i wr => ∃ k q : Nat, k ≤ n ∧ i = .int .i64 k ∧ wr = w.drewN q ∧ PEq l m k) (fun i _ => n - (intOf i).toNat)
  case atStart => exact ⟨0, 0, Nat.zero_le _, rfl, rfl, fun j hj => absurd hj (by omega)⟩
  case round =>
    obtain ⟨k, q, hk, rfl, rfl, hp⟩ := hrel
    have HP := Lib.hid hp
    clear hp
    by_cases hlt : k < n
    · obtain ⟨b, off, rfl, _, hc⟩ := hA.at_ (k := k) (by have := Hn.out; omega)
      have hck : w.cell? ⟨b, off + k, none⟩ = some (.int .i64 (it l k)) := hc k (by have := Hn.out; omega)
      obtain ⟨b', off', rfl, _, hc'⟩ := hA'.at_ (k := k) (by have := Hn'.out; omega)
      have hck' : w.cell? ⟨b', off' + k, none⟩ = some (.int .i64 (it m k)) := hc' k (by have := Hn'.out; omega)
      clear hc hc'
      have hki : (k : Int) < n := by omega
      by_cases he : it l k = it m k
      · have HN := Lib.hid (HP.out.next he)
        obtain ⟨x, hx⟩ : ∃ x, it l k = x := ⟨_, rfl⟩
        rw [hx] at hck
        rw [← he, hx] at hck'
        clear hx he
        go_wp2
        go_quiet (fail)
        go_wp2
        go_roundw
        case rel => exact ⟨k + 1, _, by omega, by go_num, rfl, HN.out⟩
        case measure => simp [intOf]; omega
      · have HN := Lib.hid (show decide (l = m) = false by simp; exact it_ne he)
        go_wp2
        go_quiet (fail)
        go_wp2
        go_ret
        exact ⟨ret_bool HN.out.symm, _, World.drewN_drewN _ _ _⟩
    · obtain rfl : n = k := by omega
      have HN := Lib.hid (show decide (l = m) = true by simp; exact HP.out.all Hn.out.symm Hn'.out.symm)
      go_wp2
      go_ret
      exact ⟨ret_bool HN.out.symm, _, rfl⟩
theorem samen_any {l m : List Int} {B B' : Nat} {A A' : Option Addr} (n c n' c' : Nat) {w : World} (hn : n = l.length) (hA : Num w B A l) (hn' : n' = m.length) (hA' : Num w B' A' m) (hm : n ≤ maxLen) (hm' : n' ≤ maxLen) :
    Calls Tryd.prog 14 #[.slice A n c, .slice A' n' c'] w fun e w' => e = .returned (.bool (decide (l = m))) ∧ ∃ k, w' = w.drewN k := by
  by_cases h : n = n'
  · subst h; exact samen_eq n c c' hn hA hn' hA' hm
  · exact samen_len n c n' c' hn hn' hm hm' h
end Go.Proofs.YtllnnogdpagioaaDoor
