/- The chapter's examples of trees. -/
import Derived.Test.YtggeiajbcehkjaaGreatDoorGbr
import Derived.Test.YtggeiajbcehkjaaGreatDoorGaw
import Derived.Test.YtggeiajbcehkjaaGreatDoorGbf
import Derived.Test.YtggeiajbcehkjaaGreatDoorGab
import Derived.Lib.SlBytesConst
namespace Go.Proofs.YtggeiajbcehkjaaGreatDoor
open Go.RowKit
open Va (Bs V v0 Vm Vk vO below_tr below_new heap_alloc_new get_lt vcells vm_zero)
namespace Tt
set_option maxRecDepth 100000

def isTwo : Jt.NR → Bool
  | .ok nd => nd.length == 2
  | .bad _ _ => false
theorem two_nodes : isTwo (Jt.parseR [91, 49, 93]) = true := by decide +kernel
set_option maxHeartbeats 8000000 in
/-- Of '[1]'. -/
theorem of_one {A : Option Addr} (w : World) (hA : Byt w w.heap.size A [91, 49, 93]) (hT : Jt.Tabs0 w) :
    Calls Tryz.prog 33 #[.int .u8 0, .slice A 3 3] w fun e w' => (∃ A2, e = .returned (.tuple #[.agg #[.slice A2 2 2, .int .i64 0], .agg #[.int .i64 0, .int .i64 0]])) ∧ Below w.heap.size w w' := by
  obtain ⟨W1, hW1⟩ : ∃ W, W = w.alloc (tO (.slice none 0 0) (.int .i64 0)) := ⟨_, rfl⟩
  obtain ⟨W2, hW2⟩ : ∃ W, W = W1.alloc (.cells #[.int .i64 0, .int .i64 0] 63) := ⟨_, rfl⟩
  have hb1 : Below w.heap.size w W1 := by rw [hW1]; exact below_new ..
  have hb2 : Below W1.heap.size W1 W2 := by rw [hW2]; exact below_new ..
  have z1 : W1.heap.size = w.heap.size + 1 := by rw [hW1, s1]
  have b0 : W2.heap[w.heap.size]? = some (tO (.slice none 0 0) (.int .i64 0)) := (hb2.block _ (by omega)).trans (by rw [hW1]; exact heap_alloc_new ..)
  have b1 : W2.heap[w.heap.size + 1]? = some (.cells #[.int .i64 0, .int .i64 0] 63) := by rw [← z1, hW2]; exact heap_alloc_new ..
  have hb := below_tr hb1 hb2
  have CP := Lib.hid ((Jt.parse_any (l := [91, 49, 93]) (B := w.heap.size) (N := 3) (C := 3) (A := A) (w := W2) rfl (Nat.le_refl _) (hA.below hb) hb.size (by unfold maxLen; omega) (by omega) (hT.below hb)).mono (R' := fun e w' => (∃ A2, e = .returned (.tuple #[.agg #[.slice A2 2 2, .int .i64 0], .agg #[.int .i64 0, .int .i64 0]])) ∧ Below W2.heap.size W2 w') (by
    rintro e w' ⟨h1, h2⟩
    refine ⟨?_, h1⟩
    have h3 := two_nodes
    cases hp : Jt.parseR [91, 49, 93] with
    | bad c a => rw [hp] at h3; cases h3
    | ok nd =>
      rw [hp] at h2 h3
      obtain ⟨A2, n, lab, X, rfl, ht, hx⟩ := h2
      have hl : X.length = 2 := by
        have h4 : nd.length = 2 := by simpa [isTwo] using h3
        rw [← hx, List.length_map] at h4; exact h4
      rcases ht.row.2 with ⟨_, e2⟩ | ⟨g, cap, cur, e2, _⟩
      · omega
      · injection e2 with _ e3 _
        exact ⟨A2, by rw [e3, hl]⟩))
  have HB2 := Lib.hid hb
  have HW1 := Lib.hid hW1
  have HW2 := Lib.hid hW2
  have HO := Lib.hid b0
  have HP := Lib.hid b1
  clear hW1 hW2 hb1 hb2 z1 b0 b1 hb hA hT
  go_enter Tryz.func33, Tryz.ntmps33
  go_upto_region 1 with fail
  rw [← HW1.out, ← HW2.out]
  obtain ⟨h, hh⟩ : ∃ h, h = w.heap.size := ⟨_, rfl⟩
  rw [← hh] at HO HP ⊢
  have HH := Lib.hid hh
  clear HW1 HW2 hh
  go_wp2_with fail
  refine CP.out.mono ?_
  rintro e w3 ⟨⟨A2, rfl⟩, hb⟩
  have HB3 := Lib.hid (below_tr HB2.out hb)
  have HO3 := Lib.hid ((hb.block h (Array.getElem?_eq_some_iff.1 HO.out).1).trans HO.out)
  have HP3 := Lib.hid ((hb.block (h + 1) (Array.getElem?_eq_some_iff.1 HP.out).1).trans HP.out)
  clear hb
  have q0 : w3.cell? ⟨h, 0, none⟩ = some (.slice none 0 0) := by simp [World.cell?, HO3.out]
  have q1 : w3.cell? ⟨h, 1, none⟩ = some (.int .i64 0) := by simp [World.cell?, HO3.out]
  have q2 : w3.cell? ⟨h + 1, 0, none⟩ = some (.int .i64 0) := by simp [World.cell?, HP3.out]
  have q3 : w3.cell? ⟨h + 1, 1, none⟩ = some (.int .i64 0) := by simp [World.cell?, HP3.out]
  have f0 : w3.frozen? ⟨h, 0, none⟩ = false := by simp [World.frozen?, HO3.out]
  have f1 : w3.frozen? ⟨h, 1, none⟩ = false := by simp [World.frozen?, HO3.out]
  have f2 : w3.frozen? ⟨h + 1, 0, none⟩ = false := by simp [World.frozen?, HP3.out]
  have f3 : w3.frozen? ⟨h + 1, 1, none⟩ = false := by simp [World.frozen?, HP3.out]
  go_wp2_with fail
  have hle : w.heap.size ≤ h := Nat.le_of_eq HH.out.symm
  refine bodyPost_ret (v := .tuple #[.agg #[.slice A2 2 2, .int .i64 0], .agg #[.int .i64 0, .int .i64 0]]) (by simp [results, Tryz.results33, go_sem, *]) rfl ?_
  exact ⟨⟨A2, by first | rfl | trivial⟩, (((HB3.out.setCell (p := ⟨h, 0, none⟩) hle _).setCell (p := ⟨h, 1, none⟩) hle _).setCell (p := ⟨h + 1, 0, none⟩) (by show w.heap.size ≤ h + 1; omega) _).setCell (p := ⟨h + 1, 1, none⟩) (by show w.heap.size ≤ h + 1; omega) _⟩
end Tt
end Go.Proofs.YtggeiajbcehkjaaGreatDoor
/- The law's own examples. -/
namespace Go.Proofs.YtggeiajbcehkjaaGreatDoor
open Go.RowKit
open Va (Bs V v0 Vm Vk vO below_tr below_new heap_alloc_new get_lt vcells vm_zero vshape CP)
namespace Tt
set_option maxRecDepth 100000

def uX : V := .mk 7 [] [v0, .mk 3 [120] [] []] []
theorem uX_may : Va.may uX = true := by decide +kernel
theorem lit_byt (g : Nat) {w : World} (l : Bs) (cs : Array Value) (fz : Nat × Nat) (hg : g = w.heap.size) (hcs : cs.toList = l.map (fun c => Value.int .u8 (c.toNat : Int))) : Byt (w.alloc (.cells cs 5 fz)) (g + 1) (some ⟨g, 0, none⟩) l := fun _ => ⟨g, 0, rfl, Nat.lt_succ_self _, fun k hk => by
  subst hg
  rw [cell_of_row _ _ _ _ _ _ (heap_alloc_new w _), ← Array.getElem?_toList, Nat.zero_add, hcs, List.getElem?_map, List.getElem?_eq_getElem hk]
  simp [bt, hk]⟩
theorem uX_in (g : Nat) {w : World} (hg : g = w.heap.size) (fz : Nat × Nat) : Vm (w.alloc (.cells #[.int .u8 0, .string ⟨#[]⟩, .slice none 0 0, .slice none 0 0, .int .u8 3, .string ⟨#[120]⟩, .slice none 0 0, .slice none 0 0] 33 fz)) (.agg #[.int .u8 7, .string ⟨#[]⟩, .slice (some ⟨g, 0, none⟩) 2 2, .slice none 0 0]) uX := by
  subst hg
  obtain ⟨W, hW⟩ : ∃ W, W = w.alloc (.cells #[.int .u8 0, .string ⟨#[]⟩, .slice none 0 0, .slice none 0 0, .int .u8 3, .string ⟨#[120]⟩, .slice none 0 0, .slice none 0 0] 33 fz) := ⟨_, rfl⟩
  have hx := heap_alloc_new w (.cells #[.int .u8 0, .string ⟨#[]⟩, .slice none 0 0, .slice none 0 0, .int .u8 3, .string ⟨#[120]⟩, .slice none 0 0, .slice none 0 0] 33 fz)
  rw [← hW] at hx ⊢
  have key := Vk.mk (w := W) (ok := fun _ => True) 7 [] [v0, .mk 3 [120] [] []] [] (some ⟨w.heap.size, 0, none⟩) none 2 0 (fun i j => (#[.int .u8 0, .string ⟨#[]⟩, .slice none 0 0, .slice none 0 0, .int .u8 3, .string ⟨#[120]⟩, .slice none 0 0, .slice none 0 0] : Array Value).getD (i * 4 + j) default) (by decide) (Nat.le_refl _) (by unfold maxLen; omega) (fun h => by cases h) (Nat.le_refl _) (Nat.zero_le _) (fun _ => rfl) (fun h => absurd h (by simp)) (fun _ => ⟨_, _, rfl, (Array.getElem?_eq_some_iff.1 hx).1, fun i hi j hj => by
    rw [cell_of_row _ _ _ _ _ _ hx]
    have hi : i < 2 := hi
    obtain rfl | rfl : i = 0 ∨ i = 1 := by omega
    all_goals (obtain rfl | rfl | rfl | rfl : j = 0 ∨ j = 1 ∨ j = 2 ∨ j = 3 := by omega)
    all_goals rfl⟩) (fun _ _ _ _ => trivial) (fun h => absurd h (by simp)) (fun i x h => by
    obtain rfl | rfl | hi : i = 0 ∨ i = 1 ∨ 2 ≤ i := by omega
    · injection h with h; subst h; exact vm_zero W
    · injection h with h; subst h
      have := Vk.mk (w := W) (ok := fun _ => True) 3 [120] [] [] none none 0 0 (fun _ _ => .int .u8 0) (by decide) (Nat.le_refl _) (Nat.zero_le _) (fun _ => rfl) (Nat.le_refl _) (Nat.zero_le _) (fun _ => rfl) (fun h => absurd h (by simp)) (fun h => absurd h (by simp)) (fun h => absurd h (by simp)) (fun _ _ _ _ => trivial) (fun i x h => by simp at h)
      exact this
    · rw [List.getElem?_eq_none (by simpa using hi)] at h; cases h)
  exact key
theorem uX_sz : Va.sz uX = 3 := by decide +kernel
theorem uX_wt : Va.wt uX ≤ 1000000 := by decide +kernel
theorem uX_wn : wNs (mkT uX).nodes ≤ 1000000 := by
  rw [mkT_yes uX_may]
  decide +kernel
/-- What Make gives for it. -/
theorem uX_make {v : Value} (w : World) (hv : Vm w v uX) : Calls Tryz.prog 21 #[v] w fun e w' => (∃ g, e = .returned (.tuple #[.agg #[.slice (some ⟨g, 0, none⟩) 3 3, .int .i64 0], .bool true]) ∧ Tm w' (.agg #[.slice (some ⟨g, 0, none⟩) 3 3, .int .i64 0]) (mkT uX)) ∧ Below w.heap.size w w' := by
  refine (tMake_any w hv uX_wt).mono ?_
  rintro e w' ⟨⟨u, rfl, h⟩, hb⟩
  have ht := h.tm
  rcases h with ⟨_, g, B, rfl, _⟩ | ⟨h, _⟩
  · rw [uX_sz] at ht ⊢
    rw [uX_may]
    exact ⟨⟨g, rfl, ht⟩, hb⟩
  · rw [uX_may] at h; cases h
/-- What Value gives of that. -/
theorem uX_val {v : Value} (w : World) (hv : Tm w v (mkT uX)) : Calls Tryz.prog 10 #[v, .int .i64 0] w fun e w' => (∃ (k : Nat) (t : ByteArray) (A B : Option Addr) (n c m d : Nat), e = .returned (.tuple #[.agg #[.int .u8 k, .string t, .slice A n c, .slice B m d], .bool true]) ∧ Vm w' (.agg #[.int .u8 k, .string t, .slice A n c, .slice B m d]) uX) ∧ Below w.heap.size w w' := by
  refine (tValue_any w hv uX_wn (show i64 0 from by unfold i64; omega)).mono ?_
  rintro e w' ⟨⟨u, rfl, h⟩, hb⟩
  obtain ⟨h1, h2⟩ := mk_val uX_may
  rw [h1]
  rw [h2] at h
  obtain ⟨_, hk, _, _⟩ := h
  have hm := hk.vm
  obtain ⟨k, t, A, B, n, c, m, d, rfl⟩ := vshape hm
  exact ⟨⟨k, t, A, B, n, c, m, d, rfl, hm⟩, hb⟩
/-- It is the same as itself. -/
theorem uX_same {v u : Value} (w : World) (hv : Vm w v uX) (hu : Vm w u uX) : Calls Tryz.prog 34 #[v, u] w fun e w' => e = .returned (.bool true) ∧ Below w.heap.size w w' := by
  have h := Va.lsame_any w hv hu uX_wt uX_wt
  rw [uX_may, Va.sm_self] at h
  exact h
/-- Two bytes of three. -/
theorem abc_slice {A : Option Addr} (w : World) (hA : Byt w w.heap.size A [97, 98, 99]) : Calls Tryz.prog 24 #[.slice A 3 3, .agg #[.int .i64 1, .int .i64 3]] w fun e w' => (∃ A c, e = .returned (.slice A 2 c) ∧ Byt w' w'.heap.size A [98, 99]) ∧ Below w.heap.size w w' := by
  refine (slice_some (l := [97, 98, 99]) (n := 3) (c := 3) (f := 1) (t := 3) (m := 2) w hA rfl (Nat.le_refl _) (by omega) rfl (by omega) (by omega)).mono ?_
  rintro e w' ⟨⟨v, rfl, h, _⟩, hb⟩
  obtain ⟨A, c, rfl, _, _, _, h2, _⟩ := own_form h
  exact ⟨⟨A, c, rfl, h2⟩, hb⟩
set_option maxHeartbeats 8000000 in
theorem lives_any (w : World) (hT : Jt.Tabs0 w) :
    Calls Tryz.prog 8 #[] w fun e w' => e = .returned (.bool true) ∧ Below w.heap.size w w' := by
  have CO := Lib.hid (fun (A : Option Addr) (X : World) (hA : Byt X X.heap.size A [91, 49, 93]) (hb : Below w.heap.size w X) => of_one (A := A) X hA (hT.below hb))
  clear hT
  have kc := fun (w : World) (C : Array Value) (n c : Nat) => Lib.run_convert_bytes_const (P := Tryz.prog) w 41 5 C n c Tryz.underlying41 Tryz.underlying5
  go_enter Tryz.func8, Tryz.ntmps8
  go_wp2_with fail
  have hb0 : Below w.heap.size w (w.alloc (.cells #[.int .u8 91, .int .u8 49, .int .u8 93] 5 (3, 4))) := below_new ..
  refine (CO.out _ (w.alloc (.cells #[.int .u8 91, .int .u8 49, .int .u8 93] 5 (3, 4))) ((lit_byt w.heap.size [91, 49, 93] _ _ rfl rfl).more (by rw [s1]; exact Nat.le_refl _)) hb0).mono ?_
  rintro e w1 ⟨⟨A1, rfl⟩, hb1⟩
  have HU1 := Lib.hid (below_tr hb0 hb1)
  clear hb0 hb1 CO
  go_upto_region 2 with fail
  obtain ⟨W2, hW2⟩ : ∃ W, W = (w1.alloc (tO (.slice A1 2 2) (.int .i64 0))).alloc (.cells #[.int .i64 0, .int .i64 0] 63) := ⟨_, rfl⟩
  have z2 : W2.heap.size = w1.heap.size + 2 := by rw [hW2, s1, s1]
  have hb2 : Below w1.heap.size w1 W2 := by rw [hW2]; exact (below_new ..).alloc (by rw [s1]; omega) _
  have x0 : W2.heap[w1.heap.size]? = some (tO (.slice A1 2 2) (.int .i64 0)) := by
    rw [hW2]; exact ((below_new (w1.alloc (tO (.slice A1 2 2) (.int .i64 0))) _).block _ (by rw [s1]; omega)).trans (heap_alloc_new ..)
  have x1 : W2.heap[w1.heap.size + 1]? = some (.cells #[.int .i64 0, .int .i64 0] 63) := by
    rw [hW2, ← s1 w1 (tO (.slice A1 2 2) (.int .i64 0))]; exact heap_alloc_new ..
  obtain ⟨g1, hg1⟩ : ∃ g, g = w1.heap.size := ⟨_, rfl⟩
  rw [← hW2, ← hg1]
  rw [← hg1] at x0 x1 z2
  have HU2 := Lib.hid (below_tr HU1.out hb2)
  clear hW2 hb2 HU1 hg1
  go_upto_region 3 with fail
  obtain ⟨W3, hW3⟩ : ∃ W, W = (W2.alloc (.cells #[.int .u8 0, .string ⟨#[]⟩, .slice none 0 0, .slice none 0 0, .int .u8 3, .string ⟨#[120]⟩, .slice none 0 0, .slice none 0 0] 33)).alloc (vO (.int .u8 7) (.string ⟨#[]⟩) (.slice (some ⟨g1 + 2, 0, none⟩) 2 2) (.slice none 0 0)) := ⟨_, rfl⟩
  have z3 : W3.heap.size = g1 + 4 := by rw [hW3, s1, s1, z2]
  have hb3 : Below W2.heap.size W2 W3 := by rw [hW3]; exact (below_new ..).alloc (by rw [s1]; omega) _
  have HV := Lib.hid (show Vm W3 (.agg #[.int .u8 7, .string ⟨#[]⟩, .slice (some ⟨g1 + 2, 0, none⟩) 2 2, .slice none 0 0]) uX from by
    rw [hW3]; exact (uX_in (g1 + 2) z2.symm _).on (below_new ..))
  have x3 : W3.heap[g1 + 3]? = some (vO (.int .u8 7) (.string ⟨#[]⟩) (.slice (some ⟨g1 + 2, 0, none⟩) 2 2) (.slice none 0 0)) := by
    have e : (W2.alloc (.cells #[.int .u8 0, .string ⟨#[]⟩, .slice none 0 0, .slice none 0 0, .int .u8 3, .string ⟨#[120]⟩, .slice none 0 0, .slice none 0 0] 33)).heap.size = g1 + 3 := by rw [s1, z2]
    rw [hW3, ← e]; exact heap_alloc_new ..
  have HU3 := Lib.hid (below_tr HU2.out hb3)
  have HX0 := Lib.hid ((hb3.block _ (by omega)).trans x0)
  have HX1 := Lib.hid ((hb3.block _ (by omega)).trans x1)
  have HX3 := Lib.hid x3
  rw [show W2.alloc (.cells #[.int .u8 0, .string ⟨#[]⟩, .slice none 0 0, .slice none 0 0, .int .u8 3, .string ⟨#[120]⟩, .slice none 0 0, .slice none 0 0] 33) = W2.alloc (.cells #[.int .u8 0, .string ⟨#[]⟩, .slice none 0 0, .slice none 0 0, .int .u8 3, .string ⟨#[120]⟩, .slice none 0 0, .slice none 0 0] 33) from rfl, ← hW3]
  have HZ3 := Lib.hid z3
  clear hW3 hb3 z2 x0 x1 HU2 x3 z3
  obtain ⟨⟨c0, c1, c2, c3⟩, _⟩ := vcells HX3.out
  go_wp2_with fail
  refine (uX_make W3 HV.out).mono ?_
  rintro e w4 ⟨⟨g, rfl, ht⟩, hb4⟩
  have HU4 := Lib.hid (below_tr HU3.out hb4)
  have HX0 := Lib.hid ((hb4.block _ (by have := HZ3.out; omega)).trans HX0.out)
  have HX1 := Lib.hid ((hb4.block _ (by have := HZ3.out; omega)).trans HX1.out)
  have HX3 := Lib.hid ((hb4.block _ (by have := HZ3.out; omega)).trans HX3.out)
  have HV := Lib.hid (HV.out.on hb4)
  have HL := Lib.hid (Nat.le_trans (Nat.le_of_eq HZ3.out.symm) hb4.size)
  have HT := Lib.hid ht
  clear hb4 ht HZ3 c0 c1 c2 c3
  go_upto_region 4 with fail
  obtain ⟨W5, hW5⟩ : ∃ W, W = w4.alloc (tO (.slice (some ⟨g, 0, none⟩) 3 3) (.int .i64 0)) := ⟨_, rfl⟩
  have hb5 : Below w4.heap.size w4 W5 := by rw [hW5]; exact below_new ..
  have x4 : W5.heap[w4.heap.size]? = some (tO (.slice (some ⟨g, 0, none⟩) 3 3) (.int .i64 0)) := by rw [hW5]; exact heap_alloc_new ..
  have hz5 : W5.heap.size = w4.heap.size + 1 := by rw [hW5, s1]
  have HU5 := Lib.hid (below_tr HU4.out hb5)
  have HX0 := Lib.hid ((hb5.block _ (by have := HL.out; omega)).trans HX0.out)
  have HX1 := Lib.hid ((hb5.block _ (by have := HL.out; omega)).trans HX1.out)
  have HX3 := Lib.hid ((hb5.block _ (by have := HL.out; omega)).trans HX3.out)
  have HV := Lib.hid (HV.out.on hb5)
  have HT := Lib.hid (HT.out.on hb5)
  obtain ⟨g4, hg4⟩ : ∃ g, g = w4.heap.size := ⟨_, rfl⟩
  rw [← hW5, ← hg4]
  rw [← hg4] at x4 hz5
  have HL := Lib.hid (show g1 + 4 ≤ g4 from by rw [hg4]; exact HL.out)
  have HZ5 := Lib.hid hz5
  clear hW5 hb5 hg4 HU4 hz5
  obtain ⟨⟨c0, c1⟩, _⟩ := tcells x4
  have HX4 := Lib.hid x4
  clear x4
  go_wp2_with fail
  refine (uX_val W5 HT.out).mono ?_
  rintro e w6 ⟨⟨k, tx, A, B, n, c, m, d, rfl, hu⟩, hb6⟩
  have HU6 := Lib.hid (below_tr HU5.out hb6)
  have HX0 := Lib.hid ((hb6.block _ (by have := HL.out; have := HZ5.out; omega)).trans HX0.out)
  have HX1 := Lib.hid ((hb6.block _ (by have := HL.out; have := HZ5.out; omega)).trans HX1.out)
  have HX3 := Lib.hid ((hb6.block _ (by have := HL.out; have := HZ5.out; omega)).trans HX3.out)
  have HV := Lib.hid (HV.out.on hb6)
  have HW := Lib.hid hu
  have HL := Lib.hid (Nat.le_trans (show g1 + 4 ≤ W5.heap.size from by have := HL.out; have := HZ5.out; omega) hb6.size)
  clear hb6 hu HZ5 c0 c1 HT HX4 HU5
  go_upto_region 5 with fail
  obtain ⟨W7, hW7⟩ : ∃ W, W = w6.alloc (vO (.int .u8 k) (.string tx) (.slice A n c) (.slice B m d)) := ⟨_, rfl⟩
  have hb7 : Below w6.heap.size w6 W7 := by rw [hW7]; exact below_new ..
  have x6 : W7.heap[w6.heap.size]? = some (vO (.int .u8 k) (.string tx) (.slice A n c) (.slice B m d)) := by rw [hW7]; exact heap_alloc_new ..
  have HU7 := Lib.hid (below_tr HU6.out hb7)
  have x0 := (hb7.block _ (by have := HL.out; omega)).trans HX0.out
  have x1 := (hb7.block _ (by have := HL.out; omega)).trans HX1.out
  have x3 := (hb7.block _ (by have := HL.out; omega)).trans HX3.out
  have HV := Lib.hid (HV.out.on hb7)
  have HW := Lib.hid (HW.out.on hb7)
  obtain ⟨g6, hg6⟩ : ∃ g, g = w6.heap.size := ⟨_, rfl⟩
  rw [← hW7, ← hg6]
  rw [← hg6] at x6
  clear hW7 hb7 hg6 HU6 HX0 HX1 HX3 HL
  have q0 : W7.cell? ⟨g1, 0, none⟩ = some (.slice A1 2 2) := by simp [World.cell?, x0]
  have q1 : W7.cell? ⟨g1 + 1, 0, none⟩ = some (.int .i64 0) := by simp [World.cell?, x1]
  have q2 : W7.cell? ⟨g1 + 1, 1, none⟩ = some (.int .i64 0) := by simp [World.cell?, x1]
  obtain ⟨⟨c0, c1, c2, c3⟩, _⟩ := vcells x3
  obtain ⟨⟨d0, d1, d2, d3⟩, _⟩ := vcells x6
  clear x0 x1 x3 x6
  go_wp2_with fail
  refine (uX_same W7 HV.out HW.out).mono ?_
  rintro e w8 ⟨rfl, hb8⟩
  have HU8 := Lib.hid (below_tr HU7.out hb8)
  clear hb8 q0 q1 q2 c0 c1 c2 c3 d0 d1 d2 d3 HV HW HU7
  go_wp2_with fail
  have hb9 : Below w8.heap.size w8 (w8.alloc (.cells #[.int .u8 97, .int .u8 98, .int .u8 99] 5 (3, 4))) := below_new ..
  refine (abc_slice (w8.alloc (.cells #[.int .u8 97, .int .u8 98, .int .u8 99] 5 (3, 4))) ((lit_byt w8.heap.size [97, 98, 99] _ _ rfl rfl).more (by rw [s1]; exact Nat.le_refl _))).mono ?_
  rintro e w9 ⟨⟨A9, c9, rfl, hs⟩, hb10⟩
  have HU9 := Lib.hid (below_tr (below_tr HU8.out hb9) hb10)
  have kv : (convert 41 9 (.slice A9 2 c9)).run Tryz.prog w9 = .ok (.string ⟨#[98, 99]⟩) w9 := conv_bytes (l := [98, 99]) 2 c9 rfl hs
  clear hb9 hb10 HU8
  go_wp2_with fail
  refine bodyPost_ret (v := .bool true) (by simp [results, Tryz.results8, go_sem, *]) rfl ?_
  exact ⟨by first | rfl | trivial, HU9.out⟩
end Tt
end Go.Proofs.YtggeiajbcehkjaaGreatDoor
