/- What landed of paths: each step copied; rows put together; with a step more. -/
import Derived.Test.YtoebhnhiljlljaaDoorPk
namespace Go.Proofs.YtoebhnhiljlljaaDoor
open Go.RowKit
namespace Pa
set_option maxRecDepth 100000

theorem four_cells (w : World) (a b c d : Value) (t : TypeId) : ∀ j u, [a, b, c, d][j]? = some u → (w.alloc (.cells #[a, b, c, d] t)).cell? ((⟨w.heap.size, 0, none⟩ : Addr).add j) = some u := by
  intro j u hu
  obtain ⟨h0, h1, h2, h3⟩ := four_new w a b c d t
  rw [addAt, Nat.zero_add]
  match j, hu with
  | 0, hu => rw [h0]; exact hu
  | 1, hu => rw [h1]; exact hu
  | 2, hu => rw [h2]; exact hu
  | 3, hu => rw [h3]; exact hu
  | j + 4, hu => simp at hu
theorem step_info : ∃ i0, Tryd.prog.info? 32 = some i0 ∧ i0.zero = some (.agg #[.int .u8 0, .string ⟨#[]⟩, .string ⟨#[]⟩, .int .i64 0]) ∧ i0.size = 4 ∧ i0.bytes = 48 :=
  info_parts (show (Tryd.prog.info? 32).map (fun i => (i.zero, i.size, i.bytes)) = some (some (.agg #[.int .u8 0, .string ⟨#[]⟩, .string ⟨#[]⟩, .int .i64 0]), 4, 48) by kernel_rfl)
theorem nil_ne (w : World) (A : Addr) (n c : Nat) : (binOp .eql 22 (.slice (some A) n c) (.slice none 0 0)).run Tryd.prog w = .ok (.bool false) w := by kernel_rfl
set_option maxHeartbeats 4000000 in
theorem each_any {A : Addr} {n c : Nat} {L : List St} (w : World) (h : Sm w (some A) n c L) (hn : n ≤ 1000000000000) (hw : ∀ s ∈ L, sw s ≤ 1000000000000) :
    Calls Tryd.prog 30 #[.slice (some A) n c, .func (.func 32) #[] #[]] w fun e w' => (∃ g, e = .returned (.slice (some ⟨g, 0, none⟩) n n) ∧ OS w.heap.size w' g n L) ∧ Below w.heap.size w w' := by
  obtain ⟨i0, hi, hz0, hz1, hz2⟩ := step_info
  have HS := Lib.hid h
  have HN := Lib.hid h.len
  have HW := Lib.hid hw
  have hz := fun w => nil_ne w A n c
  clear h hw
  go_enter Tryd.func30, Tryd.ntmps30
  go_upto_region 4 with (at_make; refine wpList_make_own _ rfl _ _ 22 rfl w.heap.size 32 i0 _ 4 Tryd.underlying22 hi hz0 hz1 .i64 .i64 _ n rfl rfl rfl (by rw [hz2]; omega) (by unfold maxLen; omega) (Nat.le_refl _) ?_; intro w1 hown1 hg1)
  have HB1 := Lib.hid (show Below w.heap.size w w1 from (Below.refl _ _).grown hg1 (Nat.le_refl _) (fun _ h => by cases h))
  have HO1 := Lib.hid (show OS w.heap.size w1 w.heap.size n [] from hown1)
  obtain ⟨g, hg⟩ : ∃ g, g = w.heap.size := ⟨_, rfl⟩
  have HG := Lib.hid hg
  rw [← hg] at HO1 ⊢
  clear hown1 hg1 hg
  go_wp2_with fail
  go_loopw [5, 7, 15] (fun a _ i wx => Hid (Below g w wx) ∧ ∃ k : Nat, k ≤ n ∧ i = .int .i64 k ∧ a = .slice (some ⟨g, 0, none⟩) k n ∧ Hid (OS g wx g n (L.take k))) (fun _ _ i _ => n - (intOf i).toNat)
  case atStart => exact ⟨by rw [HG.out]; exact HB1, 0, Nat.zero_le _, rfl, rfl, Lib.hid (by rw [List.take_zero]; exact HO1.out)⟩
  case round =>
    obtain ⟨HBR, k, hk, rfl, rfl, HQ⟩ := hrel
    by_cases hlt : k < n
    · obtain ⟨gA, o, s, e, hgA, hs, _, c0, c1, c2, c3⟩ := HS.out.at_ hlt
      injection e with e
      subst e
      have hga : gA < g := by rw [HG.out]; exact hgA
      have c0 := (HBR.out.cell (p := ⟨gA, o + k * 4, none⟩) hga).trans c0
      have c1 := (HBR.out.cell (p := ⟨gA, o + k * 4 + 1, none⟩) hga).trans c1
      have c2 := (HBR.out.cell (p := ⟨gA, o + k * 4 + 2, none⟩) hga).trans c2
      have c3 := (HBR.out.cell (p := ⟨gA, o + k * 4 + 3, none⟩) hga).trans c3
      have CE := Lib.hid (fun w' => step_any (s := s) w' (HW.out s (List.mem_of_getElem? hs)))
      obtain ⟨W1, hW1⟩ : ∃ W, W = wr.alloc (stO s) := ⟨_, rfl⟩
      have hb1 : Below wr.heap.size wr W1 := by rw [hW1]; exact below_new ..
      have hbx := Lib.hid (show Bx W1 wr.heap.size (.int .u8 s.kind) (.string (txt s.text)) (.string (txt s.id)) (.int .i64 s.pos) from by rw [hW1]; exact Bx.new ..)
      have HGW := Lib.hid (show g < wr.heap.size from HQ.out.lt.2)
      have HB1 := Lib.hid hb1
      go_upto_region 7 with fail
      rw [← hW1]
      obtain ⟨h, hh⟩ : ∃ h, h = wr.heap.size := ⟨_, rfl⟩
      rw [← hh] at hbx ⊢
      obtain ⟨x0, x1, x2, x3⟩ : W1.cell? ⟨h, 0, none⟩ = some (.int .u8 s.kind) ∧ W1.cell? ⟨h, 1, none⟩ = some (.string (txt s.text)) ∧ W1.cell? ⟨h, 2, none⟩ = some (.string (txt s.id)) ∧ W1.cell? ⟨h, 3, none⟩ = some (.int .i64 s.pos) := ⟨hbx.out.c0, hbx.out.c1, hbx.out.c2, hbx.out.c3⟩
      clear hW1 hb1 hbx hh c0 c1 c2 c3
      go_wp2_with fail
      refine (CE.out _).mono ?_
      rintro e w3 ⟨rfl, hb3⟩
      have HBB := Lib.hid (below_tr HB1.out hb3)
      have HOW := Lib.hid (show w3.ownsRow g 32 4 (.slice (some ⟨g, 0, none⟩) k n) k (cel (L.take k)) from by
        have := HQ.out.on HBB.out
        unfold OS at this
        rwa [List.length_take, Nat.min_eq_left (by rw [← HN.out]; omega)] at this)
      have HTK := Lib.hid (show L.take (k + 1) = L.take k ++ [s] by rw [List.take_add_one, hs]; rfl)
      have HB3 := Lib.hid (show Below g w w3 from HBR.out.trans (HBB.out.mono (by have := HGW.out; omega)))
      clear hb3 hs x0 x1 x2 x3
      go_wp2_with (at_builtin; refine wpList_append_own_spare _ rfl (.tmp 19) (.tmp 23) 22 rfl g 32 i0 4 Tryd.underlying22 hi hz1 g k n (cel (L.take k)) rfl (HOW.out.alloc _) ⟨w3.heap.size, 0, none⟩ 1 1 (stC s) rfl rfl (four_cells _ _ _ _ _ _) (by intro u hu; simp at hu; rcases hu with rfl | rfl | rfl | rfl <;> rfl) (by omega) ?_; intro w4 hown4 hgr4)
      have HO4 := Lib.hid (show OS g w4 g n (L.take (k + 1)) from by
        unfold OS
        rw [HTK.out, List.length_append, List.length_take, Nat.min_eq_left (by rw [← HN.out]; omega), cel_app, cel_one]
        exact hown4)
      have HB4 := Lib.hid (show Below g w w4 from (HB3.out.alloc (by have := HGW.out; have := HBB.out.size; omega) _).grown hgr4 (by have := HGW.out; have := HBB.out.size; simp; omega) (fun _ e => by cases e; exact Nat.le_refl _))
      clear hown4 hgr4
      go_roundw
      case rel => exact ⟨HB4, k + 1, by omega, by go_num, by first | rfl | trivial, HO4⟩
      case measure => simp [intOf] <;> omega
    · obtain rfl : k = n := by omega
      have HO := Lib.hid (show OS w.heap.size wr g k L from by have := HQ.out; rw [List.take_of_length_le (by rw [← HN.out]; omega)] at this; rw [← HG.out]; exact this)
      have HBF := Lib.hid (show Below w.heap.size w wr from by have := HBR.out; rwa [HG.out] at this)
      clear hlt
      go_wp2_with fail
      go_ret
      exact ⟨⟨g, by first | rfl | trivial, HO.out⟩, HBF.out⟩
end Pa
end Go.Proofs.YtoebhnhiljlljaaDoor
