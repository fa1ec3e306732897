/- The reader's escapes. -/
import Derived.Test.YtggeiajbcehkjaaGreatDoorGao
namespace Go.Proofs.YtggeiajbcehkjaaGreatDoor
open Go.RowKit

/-- The short escapes, as the program lays them. -/
def jShorts (w : World) : Prop := w.cell? ⟨1, 0, none⟩ = some (.int .u8 34) ∧ w.cell? ⟨1, 1, none⟩ = some (.int .u8 34) ∧ w.cell? ⟨1, 2, none⟩ = some (.int .u8 92) ∧ w.cell? ⟨1, 3, none⟩ = some (.int .u8 92) ∧ w.cell? ⟨1, 4, none⟩ = some (.int .u8 47) ∧ w.cell? ⟨1, 5, none⟩ = some (.int .u8 47) ∧ w.cell? ⟨1, 6, none⟩ = some (.int .u8 98) ∧ w.cell? ⟨1, 7, none⟩ = some (.int .u8 8) ∧ w.cell? ⟨1, 8, none⟩ = some (.int .u8 102) ∧ w.cell? ⟨1, 9, none⟩ = some (.int .u8 12) ∧ w.cell? ⟨1, 10, none⟩ = some (.int .u8 110) ∧ w.cell? ⟨1, 11, none⟩ = some (.int .u8 10) ∧ w.cell? ⟨1, 12, none⟩ = some (.int .u8 114) ∧ w.cell? ⟨1, 13, none⟩ = some (.int .u8 13) ∧ w.cell? ⟨1, 14, none⟩ = some (.int .u8 116) ∧ w.cell? ⟨1, 15, none⟩ = some (.int .u8 9)
theorem jShorts.old {W w : World} (h : jShorts W) (hz : 1 < W.heap.size) (hb : Below W.heap.size W w) : jShorts w := by
  obtain ⟨h0, h1, h2, h3, h4, h5, h6, h7, h8, h9, h10, h11, h12, h13, h14, h15⟩ := h
  exact ⟨(hb.cell (p := ⟨1, 0, none⟩) hz).trans h0, (hb.cell (p := ⟨1, 1, none⟩) hz).trans h1, (hb.cell (p := ⟨1, 2, none⟩) hz).trans h2, (hb.cell (p := ⟨1, 3, none⟩) hz).trans h3, (hb.cell (p := ⟨1, 4, none⟩) hz).trans h4, (hb.cell (p := ⟨1, 5, none⟩) hz).trans h5, (hb.cell (p := ⟨1, 6, none⟩) hz).trans h6, (hb.cell (p := ⟨1, 7, none⟩) hz).trans h7, (hb.cell (p := ⟨1, 8, none⟩) hz).trans h8, (hb.cell (p := ⟨1, 9, none⟩) hz).trans h9, (hb.cell (p := ⟨1, 10, none⟩) hz).trans h10, (hb.cell (p := ⟨1, 11, none⟩) hz).trans h11, (hb.cell (p := ⟨1, 12, none⟩) hz).trans h12, (hb.cell (p := ⟨1, 13, none⟩) hz).trans h13, (hb.cell (p := ⟨1, 14, none⟩) hz).trans h14, (hb.cell (p := ⟨1, 15, none⟩) hz).trans h15⟩
theorem tok_short_at {l : List UInt8} {q : Nat} {c b : UInt8} (h1 : tkB l q 92 = true) (h2 : tkB l (q + 1) (c.toNat : Int) = true) (hs : Qu.short c = some b) : Qu.tok (l.drop q) = .go 2 [b] (l.drop (q + 2)) := by
  rw [tkB_drop (c := 92) h1, tkB_drop h2, Qu.tok]
  have : Qu.un (92 :: c :: l.drop (q + 1 + 1)) = .unit 2 (.byte b) (l.drop (q + 2)) := by
    simp only [Qu.un, hs]
    rw [if_neg (by decide), if_pos trivial]
  rw [this]
theorem tok_esc_none {l : List UInt8} {q : Nat} (h1 : tkB l q 92 = true) (hu : tkB l (q + 1) 117 = false) (hn : ∀ c b, Qu.short c = some b → tkB l (q + 1) (c.toNat : Int) = false) : Qu.tok (l.drop q) = .stop (.bad false 1) := by
  have : Qu.un (l.drop q) = .bad 1 := by
    rw [tkB_drop (c := 92) h1]
    rcases Nat.lt_or_ge (q + 1) l.length with h | h
    · obtain ⟨d, hd, hb⟩ := drop_at h
      rw [hd]
      have e1 : Qu.short d = none := by
        cases hs : Qu.short d with
        | none => rfl
        | some b =>
          have := hn d b hs
          simp [tkB, h, hb] at this
      have e2 : d ≠ 117 := by
        rintro rfl
        simp [tkB, h, hb] at hu
      simp only [Qu.un, e1]
      rw [if_neg (by decide), if_pos trivial, if_neg e2]
    · rw [List.drop_eq_nil_of_le h]
      rfl
  rw [Qu.tok, this]
theorem short_in {c b : UInt8} (h : Qu.short c = some b) : c = 34 ∨ c = 92 ∨ c = 47 ∨ c = 98 ∨ c = 102 ∨ c = 110 ∨ c = 114 ∨ c = 116 := by
  unfold Qu.short at h
  repeat' split at h
  all_goals first
    | (cases h; done)
    | simp_all
section
variable {W w : World} {b : Nat} {s : ByteArray} {t l : List UInt8}
theorem take_yg {p : Nat} (c : Int) (h : RS W b s w p t) (hs : s = txt l) (hl : l.length ≤ 1000000) (htk : tkB l p c = true) :
    Calls Tryz.prog 214 #[.pointer (some ⟨b, 0, none⟩), .int .u8 c] w fun e w' => e = .returned (.bool true) ∧ RS W b s w' ((p + 1 : Nat) : Int) t ∧ w.grownBy w' (some b) := by
  obtain ⟨hp, hc⟩ : p < l.length ∧ bt l p = c := by simpa [tkB] using htk
  clear htk
  have HR := Lib.hid h
  obtain ⟨_, _, v, h3, _⟩ := h
  obtain ⟨c0, c1, c2, cf⟩ := rd_cells h3
  have f1 := cf 1
  have hsz : s.size = l.length := by rw [hs, txt_size]
  have hx := txt_at hs (k := p)
  have hz : p < s.size := by omega
  have hs1 : s.size ≤ 1000000 := by omega
  have g1 : ((p : Int) == (s.size : Int)) = false := by simp; omega
  have g2 : (bt l p != c) = false := by simp [hc]
  clear hs hl hp hc h3 cf hsz
  go_enter Tryz.func214, Tryz.ntmps214
  go_wp2_with fail
  go_quiet (fail)
  go_wp2_with fail
  go_ret
  exact ⟨rfl, by have := (HR.out.drewN nq).pos ((p + 1 : Nat) : Int); simpa using this, rfl, rfl, rfl, by simp [World.setCell], fun k _ hk => Below.heap_setCell _ _ _ _ (fun e => hk (by rw [e]))⟩
end
theorem jix_0 (w : World) : (Instr.index 295 (.agg #[.int .u8 34, .int .u8 34, .int .u8 92, .int .u8 92, .int .u8 47, .int .u8 47, .int .u8 98, .int .u8 8, .int .u8 102, .int .u8 12, .int .u8 110, .int .u8 10, .int .u8 114, .int .u8 13, .int .u8 116, .int .u8 9]) (.int .i64 0)).run Tryz.prog w = .ok (.agg #[.int .u8 34, .int .u8 34]) w := by kernel_rfl
theorem jix_1 (w : World) : (Instr.index 295 (.agg #[.int .u8 34, .int .u8 34, .int .u8 92, .int .u8 92, .int .u8 47, .int .u8 47, .int .u8 98, .int .u8 8, .int .u8 102, .int .u8 12, .int .u8 110, .int .u8 10, .int .u8 114, .int .u8 13, .int .u8 116, .int .u8 9]) (.int .i64 1)).run Tryz.prog w = .ok (.agg #[.int .u8 92, .int .u8 92]) w := by kernel_rfl
theorem jix_2 (w : World) : (Instr.index 295 (.agg #[.int .u8 34, .int .u8 34, .int .u8 92, .int .u8 92, .int .u8 47, .int .u8 47, .int .u8 98, .int .u8 8, .int .u8 102, .int .u8 12, .int .u8 110, .int .u8 10, .int .u8 114, .int .u8 13, .int .u8 116, .int .u8 9]) (.int .i64 2)).run Tryz.prog w = .ok (.agg #[.int .u8 47, .int .u8 47]) w := by kernel_rfl
theorem jix_3 (w : World) : (Instr.index 295 (.agg #[.int .u8 34, .int .u8 34, .int .u8 92, .int .u8 92, .int .u8 47, .int .u8 47, .int .u8 98, .int .u8 8, .int .u8 102, .int .u8 12, .int .u8 110, .int .u8 10, .int .u8 114, .int .u8 13, .int .u8 116, .int .u8 9]) (.int .i64 3)).run Tryz.prog w = .ok (.agg #[.int .u8 98, .int .u8 8]) w := by kernel_rfl
theorem jix_4 (w : World) : (Instr.index 295 (.agg #[.int .u8 34, .int .u8 34, .int .u8 92, .int .u8 92, .int .u8 47, .int .u8 47, .int .u8 98, .int .u8 8, .int .u8 102, .int .u8 12, .int .u8 110, .int .u8 10, .int .u8 114, .int .u8 13, .int .u8 116, .int .u8 9]) (.int .i64 4)).run Tryz.prog w = .ok (.agg #[.int .u8 102, .int .u8 12]) w := by kernel_rfl
theorem jix_5 (w : World) : (Instr.index 295 (.agg #[.int .u8 34, .int .u8 34, .int .u8 92, .int .u8 92, .int .u8 47, .int .u8 47, .int .u8 98, .int .u8 8, .int .u8 102, .int .u8 12, .int .u8 110, .int .u8 10, .int .u8 114, .int .u8 13, .int .u8 116, .int .u8 9]) (.int .i64 5)).run Tryz.prog w = .ok (.agg #[.int .u8 110, .int .u8 10]) w := by kernel_rfl
theorem jix_6 (w : World) : (Instr.index 295 (.agg #[.int .u8 34, .int .u8 34, .int .u8 92, .int .u8 92, .int .u8 47, .int .u8 47, .int .u8 98, .int .u8 8, .int .u8 102, .int .u8 12, .int .u8 110, .int .u8 10, .int .u8 114, .int .u8 13, .int .u8 116, .int .u8 9]) (.int .i64 6)).run Tryz.prog w = .ok (.agg #[.int .u8 114, .int .u8 13]) w := by kernel_rfl
theorem jix_7 (w : World) : (Instr.index 295 (.agg #[.int .u8 34, .int .u8 34, .int .u8 92, .int .u8 92, .int .u8 47, .int .u8 47, .int .u8 98, .int .u8 8, .int .u8 102, .int .u8 12, .int .u8 110, .int .u8 10, .int .u8 114, .int .u8 13, .int .u8 116, .int .u8 9]) (.int .i64 7)).run Tryz.prog w = .ok (.agg #[.int .u8 116, .int .u8 9]) w := by kernel_rfl
theorem jbyt_one {w : World} (c : UInt8) (x : Int) (hx : x = (c.toNat : Int)) (o : Obj) (h : o = .cells #[.int .u8 x] 5) : Byt (w.alloc o).drew (w.alloc o).drew.heap.size (some ⟨w.heap.size, 0, none⟩) [c] := by
  subst h; subst hx
  refine fun _ => ⟨w.heap.size, 0, rfl, by show _ < (w.alloc _).heap.size; simp, fun k hk => ?_⟩
  obtain rfl : k = 0 := by simpa using hk
  show (w.alloc _).cell? _ = _
  rw [World.cell?_alloc_at _ _ _ _ rfl]
  simp [bt]
/-- How far the table has been looked through. -/
def ERel (W : World) (b : Nat) (s : ByteArray) (l : List UInt8) (q : Nat) (t : List UInt8) (k : Nat) (wr : World) : Prop :=
  RS W b s wr ((q + 1 : Nat) : Int) t ∧ ∀ j, j < k → tkB l (q + 1) (([34, 92, 47, 98, 102, 110, 114, 116] : List Int).getD j 0) = false
section
variable {W w : World} {b : Nat} {s : ByteArray} {q : Nat} {t l : List UInt8}
theorem ERel.next {k : Nat} {c : Int} {wr w' : World} (h : ERel W b s l q t k wr) (hc : ([34, 92, 47, 98, 102, 110, 114, 116] : List Int).getD k 0 = c) (hn : tkB l (q + 1) c = false) (hR : RS W b s w' ((q + 1 : Nat) : Int) t) : ERel W b s l q t (k + 1) w' :=
  ⟨hR, fun j hj => by
    rcases Nat.lt_or_ge j k with h1 | h1
    · exact h.2 j h1
    · obtain rfl : j = k := by omega
      rw [hc]; exact hn⟩
set_option maxHeartbeats 4000000 in
set_option maxRecDepth 100000 in
theorem escape_any (h : RS W b s w ((q + 1 : Nat) : Int) t) (hs : s = txt l) (hl : l.length ≤ 1000000) (h1 : tkB l q 92 = true) (ht : t.length ≤ 4 * q) (hH : Heads W) (hS : jShorts W) (hz : 3 < W.heap.size) :
    Calls Tryz.prog 216 #[.pointer (some ⟨b, 0, none⟩)] w (EscPost W b s l q t) := by
  obtain ⟨i0, hi, hz0, hz1, hz2⟩ := info_parts (show (Tryz.prog.info? 5).map (fun i => (i.zero, i.size, i.bytes)) = some (some (.int .u8 0), 1, 1) by kernel_rfl)
  have HR := Lib.hid h
  have HS := Lib.hid hs
  have HL := Lib.hid hl
  have H1 := Lib.hid h1
  have HT := Lib.hid ht
  have HH := Lib.hid hH
  have HQ := Lib.hid (tkB_lt h1)
  have SH0 := Lib.hid hS
  have htl : t.length ≤ 4000000 := by have := tkB_lt h1; omega
  clear h hs hl h1 ht hH hS
  cases h2 : tkB l (q + 1) 117
  · have H2 := Lib.hid h2
    clear h2
    go_enter Tryz.func216, Tryz.ntmps216
    go_wp2_with fail
    refine (take_n 117 HR.out HS.out HL.out HQ.out H2.out).mono ?_
    rintro e w1 ⟨rfl, R1⟩
    have HR1 := Lib.hid R1
    have E0 : ERel W b s l q t 0 w1 := ⟨R1, fun j hj => by omega⟩
    have s1 : jShorts w1 := SH0.out.old (by omega) R1.1
    obtain ⟨z0, z1, z2, z3, z4, z5, z6, z7, z8, z9, z10, z11, z12, z13, z14, z15⟩ := s1
    clear R1
    go_wp2_with fail
    clear z0 z1 z2 z3 z4 z5 z6 z7 z8 z9 z10 z11 z12 z13 z14 z15
    go_loopw [10] (fun i wr => ∃ k : Nat, k ≤ 8 ∧ i = .int .i64 k ∧ ERel W b s l q t k wr) (fun i _ => 8 - (intOf i).toNat)
    case atStart => exact ⟨0, Nat.zero_le _, rfl, E0⟩
    case round =>
      obtain ⟨k, hk, rfl, R⟩ := hrel
      clear E0
      have HE := Lib.hid R
      have HRr := Lib.hid R.1
      obtain ⟨_, _, _, h30, _⟩ := R.1
      have hbl := lt_of_block h30
      clear R h30
      rcases (show k = 0 ∨ k = 1 ∨ k = 2 ∨ k = 3 ∨ k = 4 ∨ k = 5 ∨ k = 6 ∨ k = 7 ∨ k = 8 by omega) with rfl | rfl | rfl | rfl | rfl | rfl | rfl | rfl | rfl
      · have hix := jix_0 wr
        cases h3 : tkB l (q + 1) 34
        · have H3 := Lib.hid h3
          clear h3
          go_wp2_with fail
          refine (take_n 34 (HRr.out.alloc _) HS.out HL.out HQ.out H3.out).mono ?_
          rintro e w2 ⟨rfl, R2⟩
          have N := Lib.hid (HE.out.next rfl H3.out R2)
          clear R2
          go_wp2_with fail
          go_roundw
          case rel => exact ⟨1, by omega, by go_num, N.out⟩
          case measure => simp [intOf]
        · have H3 := Lib.hid h3
          have TK := Lib.hid (tok_short_at (c := 34) (b := 34) H1.out h3 (by decide))
          have HQ2 := Lib.hid (tkB_lt h3)
          clear h3
          go_wp2_with fail
          refine (take_yg 34 (HRr.out.alloc _) HS.out HL.out H3.out).mono ?_
          rintro e w2 ⟨rfl, R2, hg⟩
          have y0 := hg.cell (a := ⟨wr.heap.size, 0, none⟩) (v := .int .u8 34) (by go_simp) (by simp; omega)
          have y1 := hg.cell (a := ⟨wr.heap.size, 1, none⟩) (v := .int .u8 34) (by go_simp) (by simp; omega)
          obtain ⟨v, RV2⟩ := R2.rv
          have HV := Lib.hid RV2
          have HA := Lib.hid ((RV2.alloc (.cells #[.int .u8 34] 5)).drew)
          have HB := Lib.hid (jbyt_one (w := w2) 34 34 (by decide) _ rfl)
          obtain ⟨c0, c1, c2, cf⟩ := RV2.cells
          have f2 := cf 2
          have ca := (RV2.alloc (.cells #[.int .u8 34] 5)).cells.2.2.1
          clear cf RV2 R2 hg
          go_wp2_with fail
          go_region_law (first
            | (refine jstep_app rfl (.tmp 21) (.tmp 24) 41 rfl W.heap.size 5 i0 (.int .u8 0) 1 Tryz.underlying41 hi hz0 hz1 hz2 rfl v t.length (bytV t) rfl HA.out.2.2.2 (some ⟨w2.heap.size, 0, none⟩) 1 1 _ [34] rfl rfl HB.out (fun h => by cases h) (by unfold maxLen; omega) (by omega) HA.out.1.size ?_; intro v' w5 hown5 hg5; obtain ⟨⟨A', n', cp', rfl⟩, h5, R5⟩ := RV.text HA.out hown5 hg5; obtain ⟨c0', c1', c2', cf'⟩ := rd_cells h5; have f2' := cf' 2; clear cf' h5 hown5 hg5))
          all_goals (have HR5 := Lib.hid R5; clear R5)
          all_goals go_wp2_with fail
          all_goals go_ret
          all_goals exact .inr ⟨2, [34], TK.out, by omega, HQ2.out, by simp, rfl, HR5.out⟩
      · have hix := jix_1 wr
        cases h3 : tkB l (q + 1) 92
        · have H3 := Lib.hid h3
          clear h3
          go_wp2_with fail
          refine (take_n 92 (HRr.out.alloc _) HS.out HL.out HQ.out H3.out).mono ?_
          rintro e w2 ⟨rfl, R2⟩
          have N := Lib.hid (HE.out.next rfl H3.out R2)
          clear R2
          go_wp2_with fail
          go_roundw
          case rel => exact ⟨2, by omega, by go_num, N.out⟩
          case measure => simp [intOf]
        · have H3 := Lib.hid h3
          have TK := Lib.hid (tok_short_at (c := 92) (b := 92) H1.out h3 (by decide))
          have HQ2 := Lib.hid (tkB_lt h3)
          clear h3
          go_wp2_with fail
          refine (take_yg 92 (HRr.out.alloc _) HS.out HL.out H3.out).mono ?_
          rintro e w2 ⟨rfl, R2, hg⟩
          have y0 := hg.cell (a := ⟨wr.heap.size, 0, none⟩) (v := .int .u8 92) (by go_simp) (by simp; omega)
          have y1 := hg.cell (a := ⟨wr.heap.size, 1, none⟩) (v := .int .u8 92) (by go_simp) (by simp; omega)
          obtain ⟨v, RV2⟩ := R2.rv
          have HV := Lib.hid RV2
          have HA := Lib.hid ((RV2.alloc (.cells #[.int .u8 92] 5)).drew)
          have HB := Lib.hid (jbyt_one (w := w2) 92 92 (by decide) _ rfl)
          obtain ⟨c0, c1, c2, cf⟩ := RV2.cells
          have f2 := cf 2
          have ca := (RV2.alloc (.cells #[.int .u8 92] 5)).cells.2.2.1
          clear cf RV2 R2 hg
          go_wp2_with fail
          go_region_law (first
            | (refine jstep_app rfl (.tmp 21) (.tmp 24) 41 rfl W.heap.size 5 i0 (.int .u8 0) 1 Tryz.underlying41 hi hz0 hz1 hz2 rfl v t.length (bytV t) rfl HA.out.2.2.2 (some ⟨w2.heap.size, 0, none⟩) 1 1 _ [92] rfl rfl HB.out (fun h => by cases h) (by unfold maxLen; omega) (by omega) HA.out.1.size ?_; intro v' w5 hown5 hg5; obtain ⟨⟨A', n', cp', rfl⟩, h5, R5⟩ := RV.text HA.out hown5 hg5; obtain ⟨c0', c1', c2', cf'⟩ := rd_cells h5; have f2' := cf' 2; clear cf' h5 hown5 hg5))
          all_goals (have HR5 := Lib.hid R5; clear R5)
          all_goals go_wp2_with fail
          all_goals go_ret
          all_goals exact .inr ⟨2, [92], TK.out, by omega, HQ2.out, by simp, rfl, HR5.out⟩
      · have hix := jix_2 wr
        cases h3 : tkB l (q + 1) 47
        · have H3 := Lib.hid h3
          clear h3
          go_wp2_with fail
          refine (take_n 47 (HRr.out.alloc _) HS.out HL.out HQ.out H3.out).mono ?_
          rintro e w2 ⟨rfl, R2⟩
          have N := Lib.hid (HE.out.next rfl H3.out R2)
          clear R2
          go_wp2_with fail
          go_roundw
          case rel => exact ⟨3, by omega, by go_num, N.out⟩
          case measure => simp [intOf]
        · have H3 := Lib.hid h3
          have TK := Lib.hid (tok_short_at (c := 47) (b := 47) H1.out h3 (by decide))
          have HQ2 := Lib.hid (tkB_lt h3)
          clear h3
          go_wp2_with fail
          refine (take_yg 47 (HRr.out.alloc _) HS.out HL.out H3.out).mono ?_
          rintro e w2 ⟨rfl, R2, hg⟩
          have y0 := hg.cell (a := ⟨wr.heap.size, 0, none⟩) (v := .int .u8 47) (by go_simp) (by simp; omega)
          have y1 := hg.cell (a := ⟨wr.heap.size, 1, none⟩) (v := .int .u8 47) (by go_simp) (by simp; omega)
          obtain ⟨v, RV2⟩ := R2.rv
          have HV := Lib.hid RV2
          have HA := Lib.hid ((RV2.alloc (.cells #[.int .u8 47] 5)).drew)
          have HB := Lib.hid (jbyt_one (w := w2) 47 47 (by decide) _ rfl)
          obtain ⟨c0, c1, c2, cf⟩ := RV2.cells
          have f2 := cf 2
          have ca := (RV2.alloc (.cells #[.int .u8 47] 5)).cells.2.2.1
          clear cf RV2 R2 hg
          go_wp2_with fail
          go_region_law (first
            | (refine jstep_app rfl (.tmp 21) (.tmp 24) 41 rfl W.heap.size 5 i0 (.int .u8 0) 1 Tryz.underlying41 hi hz0 hz1 hz2 rfl v t.length (bytV t) rfl HA.out.2.2.2 (some ⟨w2.heap.size, 0, none⟩) 1 1 _ [47] rfl rfl HB.out (fun h => by cases h) (by unfold maxLen; omega) (by omega) HA.out.1.size ?_; intro v' w5 hown5 hg5; obtain ⟨⟨A', n', cp', rfl⟩, h5, R5⟩ := RV.text HA.out hown5 hg5; obtain ⟨c0', c1', c2', cf'⟩ := rd_cells h5; have f2' := cf' 2; clear cf' h5 hown5 hg5))
          all_goals (have HR5 := Lib.hid R5; clear R5)
          all_goals go_wp2_with fail
          all_goals go_ret
          all_goals exact .inr ⟨2, [47], TK.out, by omega, HQ2.out, by simp, rfl, HR5.out⟩
      · have hix := jix_3 wr
        cases h3 : tkB l (q + 1) 98
        · have H3 := Lib.hid h3
          clear h3
          go_wp2_with fail
          refine (take_n 98 (HRr.out.alloc _) HS.out HL.out HQ.out H3.out).mono ?_
          rintro e w2 ⟨rfl, R2⟩
          have N := Lib.hid (HE.out.next rfl H3.out R2)
          clear R2
          go_wp2_with fail
          go_roundw
          case rel => exact ⟨4, by omega, by go_num, N.out⟩
          case measure => simp [intOf]
        · have H3 := Lib.hid h3
          have TK := Lib.hid (tok_short_at (c := 98) (b := 8) H1.out h3 (by decide))
          have HQ2 := Lib.hid (tkB_lt h3)
          clear h3
          go_wp2_with fail
          refine (take_yg 98 (HRr.out.alloc _) HS.out HL.out H3.out).mono ?_
          rintro e w2 ⟨rfl, R2, hg⟩
          have y0 := hg.cell (a := ⟨wr.heap.size, 0, none⟩) (v := .int .u8 98) (by go_simp) (by simp; omega)
          have y1 := hg.cell (a := ⟨wr.heap.size, 1, none⟩) (v := .int .u8 8) (by go_simp) (by simp; omega)
          obtain ⟨v, RV2⟩ := R2.rv
          have HV := Lib.hid RV2
          have HA := Lib.hid ((RV2.alloc (.cells #[.int .u8 8] 5)).drew)
          have HB := Lib.hid (jbyt_one (w := w2) 8 8 (by decide) _ rfl)
          obtain ⟨c0, c1, c2, cf⟩ := RV2.cells
          have f2 := cf 2
          have ca := (RV2.alloc (.cells #[.int .u8 8] 5)).cells.2.2.1
          clear cf RV2 R2 hg
          go_wp2_with fail
          go_region_law (first
            | (refine jstep_app rfl (.tmp 21) (.tmp 24) 41 rfl W.heap.size 5 i0 (.int .u8 0) 1 Tryz.underlying41 hi hz0 hz1 hz2 rfl v t.length (bytV t) rfl HA.out.2.2.2 (some ⟨w2.heap.size, 0, none⟩) 1 1 _ [8] rfl rfl HB.out (fun h => by cases h) (by unfold maxLen; omega) (by omega) HA.out.1.size ?_; intro v' w5 hown5 hg5; obtain ⟨⟨A', n', cp', rfl⟩, h5, R5⟩ := RV.text HA.out hown5 hg5; obtain ⟨c0', c1', c2', cf'⟩ := rd_cells h5; have f2' := cf' 2; clear cf' h5 hown5 hg5))
          all_goals (have HR5 := Lib.hid R5; clear R5)
          all_goals go_wp2_with fail
          all_goals go_ret
          all_goals exact .inr ⟨2, [8], TK.out, by omega, HQ2.out, by simp, rfl, HR5.out⟩
      · have hix := jix_4 wr
        cases h3 : tkB l (q + 1) 102
        · have H3 := Lib.hid h3
          clear h3
          go_wp2_with fail
          refine (take_n 102 (HRr.out.alloc _) HS.out HL.out HQ.out H3.out).mono ?_
          rintro e w2 ⟨rfl, R2⟩
          have N := Lib.hid (HE.out.next rfl H3.out R2)
          clear R2
          go_wp2_with fail
          go_roundw
          case rel => exact ⟨5, by omega, by go_num, N.out⟩
          case measure => simp [intOf]
        · have H3 := Lib.hid h3
          have TK := Lib.hid (tok_short_at (c := 102) (b := 12) H1.out h3 (by decide))
          have HQ2 := Lib.hid (tkB_lt h3)
          clear h3
          go_wp2_with fail
          refine (take_yg 102 (HRr.out.alloc _) HS.out HL.out H3.out).mono ?_
          rintro e w2 ⟨rfl, R2, hg⟩
          have y0 := hg.cell (a := ⟨wr.heap.size, 0, none⟩) (v := .int .u8 102) (by go_simp) (by simp; omega)
          have y1 := hg.cell (a := ⟨wr.heap.size, 1, none⟩) (v := .int .u8 12) (by go_simp) (by simp; omega)
          obtain ⟨v, RV2⟩ := R2.rv
          have HV := Lib.hid RV2
          have HA := Lib.hid ((RV2.alloc (.cells #[.int .u8 12] 5)).drew)
          have HB := Lib.hid (jbyt_one (w := w2) 12 12 (by decide) _ rfl)
          obtain ⟨c0, c1, c2, cf⟩ := RV2.cells
          have f2 := cf 2
          have ca := (RV2.alloc (.cells #[.int .u8 12] 5)).cells.2.2.1
          clear cf RV2 R2 hg
          go_wp2_with fail
          go_region_law (first
            | (refine jstep_app rfl (.tmp 21) (.tmp 24) 41 rfl W.heap.size 5 i0 (.int .u8 0) 1 Tryz.underlying41 hi hz0 hz1 hz2 rfl v t.length (bytV t) rfl HA.out.2.2.2 (some ⟨w2.heap.size, 0, none⟩) 1 1 _ [12] rfl rfl HB.out (fun h => by cases h) (by unfold maxLen; omega) (by omega) HA.out.1.size ?_; intro v' w5 hown5 hg5; obtain ⟨⟨A', n', cp', rfl⟩, h5, R5⟩ := RV.text HA.out hown5 hg5; obtain ⟨c0', c1', c2', cf'⟩ := rd_cells h5; have f2' := cf' 2; clear cf' h5 hown5 hg5))
          all_goals (have HR5 := Lib.hid R5; clear R5)
          all_goals go_wp2_with fail
          all_goals go_ret
          all_goals exact .inr ⟨2, [12], TK.out, by omega, HQ2.out, by simp, rfl, HR5.out⟩
      · have hix := jix_5 wr
        cases h3 : tkB l (q + 1) 110
        · have H3 := Lib.hid h3
          clear h3
          go_wp2_with fail
          refine (take_n 110 (HRr.out.alloc _) HS.out HL.out HQ.out H3.out).mono ?_
          rintro e w2 ⟨rfl, R2⟩
          have N := Lib.hid (HE.out.next rfl H3.out R2)
          clear R2
          go_wp2_with fail
          go_roundw
          case rel => exact ⟨6, by omega, by go_num, N.out⟩
          case measure => simp [intOf]
        · have H3 := Lib.hid h3
          have TK := Lib.hid (tok_short_at (c := 110) (b := 10) H1.out h3 (by decide))
          have HQ2 := Lib.hid (tkB_lt h3)
          clear h3
          go_wp2_with fail
          refine (take_yg 110 (HRr.out.alloc _) HS.out HL.out H3.out).mono ?_
          rintro e w2 ⟨rfl, R2, hg⟩
          have y0 := hg.cell (a := ⟨wr.heap.size, 0, none⟩) (v := .int .u8 110) (by go_simp) (by simp; omega)
          have y1 := hg.cell (a := ⟨wr.heap.size, 1, none⟩) (v := .int .u8 10) (by go_simp) (by simp; omega)
          obtain ⟨v, RV2⟩ := R2.rv
          have HV := Lib.hid RV2
          have HA := Lib.hid ((RV2.alloc (.cells #[.int .u8 10] 5)).drew)
          have HB := Lib.hid (jbyt_one (w := w2) 10 10 (by decide) _ rfl)
          obtain ⟨c0, c1, c2, cf⟩ := RV2.cells
          have f2 := cf 2
          have ca := (RV2.alloc (.cells #[.int .u8 10] 5)).cells.2.2.1
          clear cf RV2 R2 hg
          go_wp2_with fail
          go_region_law (first
            | (refine jstep_app rfl (.tmp 21) (.tmp 24) 41 rfl W.heap.size 5 i0 (.int .u8 0) 1 Tryz.underlying41 hi hz0 hz1 hz2 rfl v t.length (bytV t) rfl HA.out.2.2.2 (some ⟨w2.heap.size, 0, none⟩) 1 1 _ [10] rfl rfl HB.out (fun h => by cases h) (by unfold maxLen; omega) (by omega) HA.out.1.size ?_; intro v' w5 hown5 hg5; obtain ⟨⟨A', n', cp', rfl⟩, h5, R5⟩ := RV.text HA.out hown5 hg5; obtain ⟨c0', c1', c2', cf'⟩ := rd_cells h5; have f2' := cf' 2; clear cf' h5 hown5 hg5))
          all_goals (have HR5 := Lib.hid R5; clear R5)
          all_goals go_wp2_with fail
          all_goals go_ret
          all_goals exact .inr ⟨2, [10], TK.out, by omega, HQ2.out, by simp, rfl, HR5.out⟩
      · have hix := jix_6 wr
        cases h3 : tkB l (q + 1) 114
        · have H3 := Lib.hid h3
          clear h3
          go_wp2_with fail
          refine (take_n 114 (HRr.out.alloc _) HS.out HL.out HQ.out H3.out).mono ?_
          rintro e w2 ⟨rfl, R2⟩
          have N := Lib.hid (HE.out.next rfl H3.out R2)
          clear R2
          go_wp2_with fail
          go_roundw
          case rel => exact ⟨7, by omega, by go_num, N.out⟩
          case measure => simp [intOf]
        · have H3 := Lib.hid h3
          have TK := Lib.hid (tok_short_at (c := 114) (b := 13) H1.out h3 (by decide))
          have HQ2 := Lib.hid (tkB_lt h3)
          clear h3
          go_wp2_with fail
          refine (take_yg 114 (HRr.out.alloc _) HS.out HL.out H3.out).mono ?_
          rintro e w2 ⟨rfl, R2, hg⟩
          have y0 := hg.cell (a := ⟨wr.heap.size, 0, none⟩) (v := .int .u8 114) (by go_simp) (by simp; omega)
          have y1 := hg.cell (a := ⟨wr.heap.size, 1, none⟩) (v := .int .u8 13) (by go_simp) (by simp; omega)
          obtain ⟨v, RV2⟩ := R2.rv
          have HV := Lib.hid RV2
          have HA := Lib.hid ((RV2.alloc (.cells #[.int .u8 13] 5)).drew)
          have HB := Lib.hid (jbyt_one (w := w2) 13 13 (by decide) _ rfl)
          obtain ⟨c0, c1, c2, cf⟩ := RV2.cells
          have f2 := cf 2
          have ca := (RV2.alloc (.cells #[.int .u8 13] 5)).cells.2.2.1
          clear cf RV2 R2 hg
          go_wp2_with fail
          go_region_law (first
            | (refine jstep_app rfl (.tmp 21) (.tmp 24) 41 rfl W.heap.size 5 i0 (.int .u8 0) 1 Tryz.underlying41 hi hz0 hz1 hz2 rfl v t.length (bytV t) rfl HA.out.2.2.2 (some ⟨w2.heap.size, 0, none⟩) 1 1 _ [13] rfl rfl HB.out (fun h => by cases h) (by unfold maxLen; omega) (by omega) HA.out.1.size ?_; intro v' w5 hown5 hg5; obtain ⟨⟨A', n', cp', rfl⟩, h5, R5⟩ := RV.text HA.out hown5 hg5; obtain ⟨c0', c1', c2', cf'⟩ := rd_cells h5; have f2' := cf' 2; clear cf' h5 hown5 hg5))
          all_goals (have HR5 := Lib.hid R5; clear R5)
          all_goals go_wp2_with fail
          all_goals go_ret
          all_goals exact .inr ⟨2, [13], TK.out, by omega, HQ2.out, by simp, rfl, HR5.out⟩
      · have hix := jix_7 wr
        cases h3 : tkB l (q + 1) 116
        · have H3 := Lib.hid h3
          clear h3
          go_wp2_with fail
          refine (take_n 116 (HRr.out.alloc _) HS.out HL.out HQ.out H3.out).mono ?_
          rintro e w2 ⟨rfl, R2⟩
          have N := Lib.hid (HE.out.next rfl H3.out R2)
          clear R2
          go_wp2_with fail
          go_roundw
          case rel => exact ⟨8, by omega, by go_num, N.out⟩
          case measure => simp [intOf]
        · have H3 := Lib.hid h3
          have TK := Lib.hid (tok_short_at (c := 116) (b := 9) H1.out h3 (by decide))
          have HQ2 := Lib.hid (tkB_lt h3)
          clear h3
          go_wp2_with fail
          refine (take_yg 116 (HRr.out.alloc _) HS.out HL.out H3.out).mono ?_
          rintro e w2 ⟨rfl, R2, hg⟩
          have y0 := hg.cell (a := ⟨wr.heap.size, 0, none⟩) (v := .int .u8 116) (by go_simp) (by simp; omega)
          have y1 := hg.cell (a := ⟨wr.heap.size, 1, none⟩) (v := .int .u8 9) (by go_simp) (by simp; omega)
          obtain ⟨v, RV2⟩ := R2.rv
          have HV := Lib.hid RV2
          have HA := Lib.hid ((RV2.alloc (.cells #[.int .u8 9] 5)).drew)
          have HB := Lib.hid (jbyt_one (w := w2) 9 9 (by decide) _ rfl)
          obtain ⟨c0, c1, c2, cf⟩ := RV2.cells
          have f2 := cf 2
          have ca := (RV2.alloc (.cells #[.int .u8 9] 5)).cells.2.2.1
          clear cf RV2 R2 hg
          go_wp2_with fail
          go_region_law (first
            | (refine jstep_app rfl (.tmp 21) (.tmp 24) 41 rfl W.heap.size 5 i0 (.int .u8 0) 1 Tryz.underlying41 hi hz0 hz1 hz2 rfl v t.length (bytV t) rfl HA.out.2.2.2 (some ⟨w2.heap.size, 0, none⟩) 1 1 _ [9] rfl rfl HB.out (fun h => by cases h) (by unfold maxLen; omega) (by omega) HA.out.1.size ?_; intro v' w5 hown5 hg5; obtain ⟨⟨A', n', cp', rfl⟩, h5, R5⟩ := RV.text HA.out hown5 hg5; obtain ⟨c0', c1', c2', cf'⟩ := rd_cells h5; have f2' := cf' 2; clear cf' h5 hown5 hg5))
          all_goals (have HR5 := Lib.hid R5; clear R5)
          all_goals go_wp2_with fail
          all_goals go_ret
          all_goals exact .inr ⟨2, [9], TK.out, by omega, HQ2.out, by simp, rfl, HR5.out⟩
      · go_wp2_with fail
        go_ret
        refine .inl ⟨false, 1, tok_esc_none H1.out H2.out (fun c b hc => ?_), rfl, HE.out.1⟩
        have hx := HE.out.2
        rcases short_in hc with rfl | rfl | rfl | rfl | rfl | rfl | rfl | rfl
        · exact hx 0 (by omega)
        · exact hx 1 (by omega)
        · exact hx 2 (by omega)
        · exact hx 3 (by omega)
        · exact hx 4 (by omega)
        · exact hx 5 (by omega)
        · exact hx 6 (by omega)
        · exact hx 7 (by omega)
  · have H2 := Lib.hid h2
    clear h2
    go_enter Tryz.func216, Tryz.ntmps216
    go_wp2_with fail
    refine (take_y 117 HR.out HS.out HL.out H2.out).mono ?_
    rintro e w1 ⟨rfl, R1⟩
    have HR1 := Lib.hid R1
    clear R1
    go_wp2_with fail
    refine (numbered_any HR1.out HS.out HL.out H1.out H2.out HT.out HH.out hz).mono ?_
    rintro e w2 (⟨hf, a, g1, rfl, g2⟩ | ⟨k, u, g1, g2, g3, g4, rfl, g5⟩)
    · have G1 := Lib.hid g1
      have G2 := Lib.hid g2
      clear g1 g2
      cases hf
      all_goals go_wp2_with fail
      all_goals go_ret
      · exact .inl ⟨false, a, G1.out, rfl, G2.out⟩
      · exact .inl ⟨true, a, G1.out, rfl, G2.out⟩
    · have G : Hid (EscPost W b s l q t (.returned (.int .i64 0)) w2) := .inr ⟨k, u, g1, g2, g3, g4, rfl, g5⟩
      clear g1 g2 g3 g4 g5
      go_wp2_with fail
      go_ret
      exact G.out
end
end Go.Proofs.YtggeiajbcehkjaaGreatDoor
