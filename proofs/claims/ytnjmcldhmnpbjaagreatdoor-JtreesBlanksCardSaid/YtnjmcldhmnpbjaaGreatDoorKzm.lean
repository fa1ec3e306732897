/- What every law over bytes has: a slice of bytes that came in (ArgB), a twin of it with marks behind, whether it is left as it was. -/
import Derived.Test.YtnjmcldhmnpbjaaGreatDoorRows
import Derived.Test.YtnjmcldhmnpbjaaGreatDoorAm
import Derived.Test.YtnjmcldhmnpbjaaGreatDoorVam
import Derived.ProofKit
import Derived.OpenShut
import Derived.ChangeOld
namespace Go.Proofs.YtnjmcldhmnpbjaaGreatDoor
open Go.ChangeShapes Go.WideShapes Go.ChangeAt Go.RowKit
namespace Jk

def ArgB (w : World) (A : Option Addr) (n c : Nat) (l : List UInt8) : Prop := n = l.length ∧ n ≤ c ∧ c ≤ maxLen ∧ Byt w w.heap.size A l ∧ (A = none → c = 0)
/-- The marks behind a twin. -/
def mark3 : List UInt8 := [167, 167, 167]

def TwinPost (w : World) (l : List UInt8) (n : Nat) (e : Ending) (w' : World) : Prop :=
  e = .returned (.slice (some ⟨w.heap.size, 0, none⟩) n (n + 3)) ∧ Byt w' w'.heap.size (some ⟨w.heap.size, 0, none⟩) (l ++ mark3) ∧ Below w.heap.size w w' ∧ w.heap.size < w'.heap.size

set_option maxRecDepth 100000 in
set_option maxHeartbeats 1000000 in
theorem twin_any {l : List UInt8} {A : Option Addr} {n c : Nat} {w : World} (ha : ArgB w A n c l) (hs : n ≤ 65536) :
    Calls Tryz.prog 8 #[.slice A n c] w (TwinPost w l n) := by
  obtain ⟨hn, hnc, hcm, hA, hnil⟩ := ha
  have Hn := Lib.hid hn
  have Hnil := Lib.hid hnil
  clear hn hnil
  obtain ⟨i0, hi, hz0, hz1, hz2⟩ := info_parts (show (Tryz.prog.info? 5).map (fun i => (i.zero, i.size, i.bytes)) = some (some (.int .u8 0), 1, 1) by kernel_rfl)
  go_enter Tryz.func8, Tryz.ntmps8
  go_wp2_with (first
    | (at_make; refine wpList_make_own _ rfl _ _ 22 rfl w.heap.size 5 i0 (.int .u8 0) 1 Tryz.underlying22 hi hz0 hz1 .i64 .i64 _ (n + 3) rfl rfl (by simp) (by rw [hz2]; omega) (by unfold maxLen; omega) (Nat.le_refl _) ?_; intro w1 hown1 hg1; have hb1 : Below w.heap.size w w1 := (Below.refl _ _).grown hg1 (Nat.le_refl _) (fun _ h => by cases h))
    | (at_builtin; refine wpList_append_fits_any _ rfl (.tmp 8) (.tmp 9) 22 rfl w.heap.size 5 i0 1 Tryz.underlying22 hi hz1 w.heap.size 0 (n + 3) [] rfl hown1 A n c (bytV l) rfl (by have := Hn.out; rw [bytV_len]; omega) (fun h => ⟨by subst h; have := byt_none hA; have h2 := Hn.out; rw [this] at h2; exact h2, Hnil.out h⟩) (fun ad h => by subst h; exact bytV_cells (hA.below hb1)) (bytV_one l) (by omega) ?_; intro w2 hown2 hg2; simp only [Nat.zero_add, List.nil_append] at hown2)
    | (at_builtin; refine wpList_append_fits _ rfl (.tmp 11) (.tmp 12) 22 rfl w.heap.size 5 i0 1 Tryz.underlying22 hi hz1 w.heap.size n (n + 3) (bytV l) rfl (hown2.alloc _) ⟨w2.heap.size, 0, none⟩ 3 3 (bytV mark3) rfl rfl (cells_new _ _ rfl) (bytV_one mark3) (by omega) ?_; intro w3 hown3 hg3))
  have hb2 := hb1.grown hg2 hb1.size (fun _ h => by cases h; exact Nat.le_refl _)
  have hb3 := (hb2.alloc hb2.size _).grown hg3 (by have := hb2.size; simp; omega) (fun _ h => by cases h; exact Nat.le_refl _)
  have h3 : w3.ownsRow w.heap.size 5 1 (.slice (some ⟨w.heap.size, 0, none⟩) (n + 3) (n + 3)) (n + 3) (bytV (l ++ mark3)) := by simpa [bytV] using hown3
  obtain ⟨A3, c3, e3, hx1, hx2, hx3, hB3, hx4⟩ := own_form h3
  have hlt := (h3.lt _ rfl).2
  obtain rfl : A3 = some ⟨w.heap.size, 0, none⟩ := by injection e3 with e _ _; exact e.symm
  clear hx1 hx2 hx3 hx4 e3 hown1 hg1 hb1 hown2 hg2 hb2 hown3 hg3 h3
  go_wp2
  go_ret
  exact ⟨rfl, hB3, hb3, hlt⟩
set_option maxRecDepth 100000 in
set_option maxHeartbeats 4000000 in
theorem left_any {l : List UInt8} {B B' g : Nat} {A : Option Addr} (n c : Nat) {w : World} (hn : n = l.length) (hT : Byt w B (some ⟨g, 0, none⟩) (l ++ mark3)) (hA : Byt w B' A l) (hs : n ≤ 65536) :
    Calls Tryz.prog 12 #[.slice (some ⟨g, 0, none⟩) n (n + 3), .slice A n c] w fun e w' => e = .returned (.bool true) ∧ w = w' := by
  have hT1 : Byt w B (some ⟨g, 0, none⟩) l := by have := hT.take l.length; simpa using this
  have hlen : (l ++ mark3).length = n + 3 := by rw [hn]; simp [mark3]
  have v1 := conv_bytes (l := l) (w := w) n (n + 3) hn hT1
  have v2 := conv_bytes (l := l) (w := w) n c hn hA
  obtain ⟨U, hU⟩ : ∃ U, U = txt l := ⟨_, rfl⟩
  rw [← hU] at v1 v2
  obtain ⟨g', off', e, _, hc⟩ := hT.at_ (k := 0) (by omega)
  injection e with e
  injection e with e1 e2
  subst e1; subst e2
  have hk : ∀ m, m < 3 → w.cell? ⟨g, n + m, none⟩ = some (.int .u8 167) := fun m hm => by
    have := hc (n + m) (by omega)
    rw [Nat.zero_add] at this
    rw [this, bt_app, if_neg (by omega), show n + m - l.length = m by omega]
    match m, hm with
    | 0, _ => rfl
    | 1, _ => rfl
    | 2, _ => rfl
  have HK := Lib.hid hk
  clear hn hc hlen hT hA hT1 hk hU
  go_enter Tryz.func12, Tryz.ntmps12
  go_wp2_with fail
  go_loop [6] (fun s => ∃ m : Nat, m ≤ 3 ∧ s = .int .i64 ((n : Int) + m)) (fun s => n + 3 - (intOf s).toNat)
  case atStart => exact ⟨0, by omega, by simp⟩
  case round =>
    obtain ⟨m, hm, rfl⟩ := hrel
    by_cases hlt : m < 3
    · have hcell := HK.out m hlt
      go_wp2_with fail
      go_round
      case rel => exact ⟨m + 1, by omega, by go_num⟩
      case measure => simp [intOf]; omega
    · obtain rfl : m = 3 := by omega
      go_wp2_with fail
      go_ret
      exact ⟨by simp, rfl⟩
theorem Byt.front {w : World} {B : Nat} {A : Option Addr} {l r : List UInt8} (h : Byt w B A (l ++ r)) : Byt w B A l := by have := h.take l.length; simpa using this
/-- A slice of bytes that came in. -/
theorem argb_of {H : Type} {enc : TypeId × Value → H} {W : World} {a : Option Addr} {n c : Nat} {d : DataW H} {p : List MemPlace} (h : DataW.Trod enc Tryz.prog W 0 (fun _ => true) true 22 (.slice a n c) d p) : ∃ l, ArgB W a n c l := by
  obtain ⟨fuel, hf⟩ := h
  rcases open_ints Tryz.underlying22 Tryz.underlying5 (by kernel_rfl) hf with ⟨hcs, _⟩ | ⟨x, l, c, zs, hcs, _, hl, hm, hz, _, hcell, hwz⟩
  · simp [Value.cells] at hcs
    obtain ⟨rfl, rfl, rfl⟩ := hcs
    exact ⟨[], rfl, Nat.le_refl _, Nat.zero_le _, fun h => absurd h (by simp), fun _ => rfl⟩
  · simp [Value.cells] at hcs
    obtain ⟨rfl, rfl, rfl⟩ := hcs
    simp at hz
    refine ⟨(zs.take n).map (fun x => UInt8.ofNat x.toNat), by simp; omega, hl, hm, fun h0 => ?_, fun h => by cases h⟩
    simp at h0
    obtain ⟨b, off, spot⟩ := x
    have hspot : spot = none := by simpa [Addr.add] using World.cell?_spot (hcell 0 (by omega))
    subst hspot
    refine ⟨b, off, rfl, World.block_lt_of_cell? W _ (hcell 0 (by omega)), fun k hk => ?_⟩
    simp at hk
    have hb := range_u8 hwz k
    have := hcell k (by omega)
    rw [addAt] at this
    rw [this]
    have e : bt ((zs.take n).map (fun x => UInt8.ofNat x.toNat)) k = zs.getD k 0 := by
      have hk2 : k < zs.length := by omega
      simp only [List.getElem?_eq_getElem hk2, Option.getD_some] at hb
      simp only [bt, List.getD_eq_getElem?_getD, List.getElem?_map, List.getElem?_take, show k < n by omega, if_true, List.getElem?_eq_getElem hk2, Option.map_some, Option.getD_some]
      rw [UInt8.toNat_ofNat_of_lt' (by simp [UInt8.size]; omega)]
      omega
    exact congrArg (fun x => some (Value.int .u8 x)) e.symm
end Jk
end Go.Proofs.YtnjmcldhmnpbjaaGreatDoor
